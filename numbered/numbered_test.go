package numbered

import (
	"slices"
	"testing"
)

func TestNumbers(t *testing.T) { // C1, D1, D2
	for _, x := range []struct {
		used   []int
		lowest int
	}{
		{nil, 1}, {[]int{1}, 2}, {[]int{2}, 1}, {[]int{1, 2, 4}, 3}, {[]int{1, 2, 3, 4, 5}, 6}, {[]int{3, 5, 40}, 1}, {[]int{-1, 0, 1}, 2},
	} {
		m := map[int]string{}
		for _, n := range x.used {
			m[n] = ""
		}
		if n := Lowest(m); n != x.lowest {
			t.Errorf("Lowest of %v = %d, want %d", x.used, n, x.lowest)
		}
		if l := Sorted(m); !slices.Equal(l, x.used) {
			t.Errorf("Sorted of %v = %v", x.used, l)
		}
	}
}
