package vault

import (
	"maps"
	"math"
	"slices"
	"strings"
	"testing"

	"counterfoil/api"
)

// texts is what a point has at each position; those from its size on are empty.
type texts [api.MaxBlocks]string

type (
	kids   = [api.Fan]int
	nodes  = map[int]api.Node
	blocks = map[int]api.Block
	puts   = []api.Put
)

var extremes = []int{math.MinInt, -1, 0, math.MaxInt}

func wantIngest(t *testing.T, v *Vault, base, disk, size int, l puts, want int) {
	t.Helper()
	if n, err := v.Ingest(base, disk, size, l); n != want || err != nil {
		t.Fatalf("Ingest(%d, %d, %d, %v) = %d, %v, want %d", base, disk, size, l, n, err, want)
	}
}

// wantIngestError works on a copy: nothing is said of a vault after an error.
func wantIngestError(t *testing.T, v *Vault, base, disk, size int, l puts, want error) {
	t.Helper()
	if n, err := v.Copy().Ingest(base, disk, size, l); n != 0 || err != want {
		t.Errorf("Ingest(%d, %d, %d, %v) = %d, %v, want %v", base, disk, size, l, n, err, want)
	}
}

func wantAgain(t *testing.T, v *Vault, id, want int) {
	t.Helper()
	if n, err := v.Again(id); n != want || err != nil {
		t.Fatalf("Again(%d) = %d, %v, want %d", id, n, err, want)
	}
}

func wantDrop(t *testing.T, v *Vault, ids ...int) {
	t.Helper()
	for _, id := range ids {
		if err := v.Drop(id); err != nil {
			t.Fatalf("Drop(%d) = %v", id, err)
		}
	}
}

// wantTexts reads all blocks of a point, and beside them.
func wantTexts(t *testing.T, v *Vault, id, disk, size int, want texts) {
	t.Helper()
	if p, ok := v.Find(id); !ok || p.ID != id || p.Disk != disk || p.Size != size {
		t.Fatalf("Find(%d) = %v, %v, want disk %d, size %d", id, p, ok, disk, size)
	}
	for at := range size {
		if s, err := v.Read(id, at); s != want[at] || err != nil {
			t.Fatalf("Read(%d, %d) = %q, %v, want %q", id, at, s, err, want[at])
		}
	}
	for _, at := range []int{math.MinInt, -1, size, size + 1, api.MaxBlocks, math.MaxInt} {
		if s, err := v.Read(id, at); s != "" || err != api.ErrBound {
			t.Fatalf("Read(%d, %d) of size %d = %q, %v", id, at, size, s, err)
		}
	}
}

func wantStored(t *testing.T, v *Vault, l []api.Point, next int, n nodes, b blocks) {
	t.Helper()
	if !slices.Equal(v.L, l) || v.Next != next {
		t.Fatalf("points %v, next %d, want %v, %d", v.L, v.Next, l, next)
	}
	if !maps.Equal(v.X.N, n) {
		t.Fatalf("nodes %v, want %v", v.X.N, n)
	}
	if !maps.Equal(v.X.P.L, b) {
		t.Fatalf("blocks %v, want %v", v.X.P.L, b)
	}
}

// wantAs compares all fields of two vaults.
func wantAs(t *testing.T, v, w *Vault) {
	t.Helper()
	wantStored(t, v, w.L, w.Next, w.X.N, w.X.P.L)
}

// wantNone asks for a point that is not there in all ways.
func wantNone(t *testing.T, v *Vault, id int) {
	t.Helper()
	was := v.Copy()
	if p, ok := v.Find(id); p != (api.Point{}) || ok {
		t.Errorf("Find(%d) = %v, %v", id, p, ok)
	}
	for _, at := range []int{0, 1, -1, 16} {
		if s, err := v.Read(id, at); s != "" || err != api.ErrNone {
			t.Errorf("Read(%d, %d) = %q, %v", id, at, s, err)
		}
	}
	if n, err := v.Again(id); n != 0 || err != api.ErrNone {
		t.Errorf("Again(%d) = %d, %v", id, n, err)
	}
	if err := v.Drop(id); err != api.ErrNone {
		t.Errorf("Drop(%d) = %v", id, err)
	}
	wantAs(t, v, was)
	if id != 0 {
		wantIngestError(t, v, id, 1, 8, nil, api.ErrNone)
	}
}

// hayAndOats returns a vault with one point, of size 8: leaf 1 has hay, leaf 3
// has oats, and the root is 4.
func hayAndOats(t *testing.T) *Vault {
	t.Helper()
	v := New()
	wantIngest(t, v, 0, 1, 8, puts{{At: 2, Data: "hay"}, {At: 5, Data: "oats"}}, 1)
	return v
}

func TestNewIsEmpty(t *testing.T) { // E1
	v := New()
	wantStored(t, v, nil, 1, nil, nil)
	for _, id := range append(extremes, 1, 2) {
		wantNone(t, v, id)
	}
	if l := v.Eldest(1, 0); len(l) != 0 {
		t.Errorf("Eldest(1, 0) = %v", l)
	}
}

func TestIngestStores(t *testing.T) { // E1, E2
	v := hayAndOats(t)
	n := nodes{
		1: {Kids: kids{0, 0, 1, 0}, Refs: 1}, 3: {Kids: kids{0, 2, 0, 0}, Refs: 1},
		4: {Kids: kids{1, 3, 0, 0}, Refs: 1},
	}
	b := blocks{1: {Data: "hay", Refs: 1}, 2: {Data: "oats", Refs: 1}}
	wantStored(t, v, []api.Point{{ID: 1, Disk: 1, Size: 8, Root: 4}}, 2, n, b)
	wantIngest(t, v, 1, 1, 12, puts{{At: 5, Data: "bran"}, {At: 8}, {At: 9, Data: "peas"}}, 2)
	wantStored(t, v,
		[]api.Point{{ID: 1, Disk: 1, Size: 8, Root: 4}, {ID: 2, Disk: 1, Size: 12, Root: 7}}, 3,
		nodes{
			1: {Kids: kids{0, 0, 1, 0}, Refs: 2}, 3: {Kids: kids{0, 2, 0, 0}, Refs: 1},
			4: {Kids: kids{1, 3, 0, 0}, Refs: 1}, 2: {Kids: kids{0, 3, 0, 0}, Refs: 1},
			6: {Kids: kids{0, 4, 0, 0}, Refs: 1}, 7: {Kids: kids{1, 2, 6, 0}, Refs: 1},
		},
		blocks{
			1: {Data: "hay", Refs: 1}, 2: {Data: "oats", Refs: 1},
			3: {Data: "bran", Refs: 1}, 4: {Data: "peas", Refs: 1},
		})
	wantTexts(t, v, 1, 1, 8, texts{2: "hay", 5: "oats"})
	wantTexts(t, v, 2, 1, 12, texts{2: "hay", 5: "bran", 9: "peas"})
	wantNone(t, v, 3)
}

func TestIngestOfNothing(t *testing.T) { // E2
	v := New()
	wantIngest(t, v, 0, 7, 3, nil, 1)
	wantIngest(t, v, 1, 7, 16, puts{{At: 0}, {At: 15}}, 2)
	wantIngest(t, v, 2, 7, 1, nil, 3) // Set of nothing on the empty root
	wantIngest(t, v, 3, 7, 2, puts{{At: 1, Data: "x"}, {At: 1}}, 4)
	wantStored(t, v, []api.Point{
		{ID: 1, Disk: 7, Size: 3}, {ID: 2, Disk: 7, Size: 16}, {ID: 3, Disk: 7, Size: 1}, {ID: 4, Disk: 7, Size: 2},
	}, 5, nil, nil)
	for _, id := range []int{1, 3} {
		p, _ := v.Find(id)
		wantTexts(t, v, id, 7, p.Size, texts{})
	}
}

// Where a text is as it was, nothing is set, and all is shared.
func TestIngestOfTheSame(t *testing.T) { // E2, W3
	v := hayAndOats(t)
	wantIngest(t, v, 1, 1, 9, puts{{At: 2, Data: "hay"}, {At: 3}, {At: 5, Data: "oats"}, {At: 8}}, 2)
	wantStored(t, v,
		[]api.Point{{ID: 1, Disk: 1, Size: 8, Root: 4}, {ID: 2, Disk: 1, Size: 9, Root: 4}}, 3,
		nodes{
			1: {Kids: kids{0, 0, 1, 0}, Refs: 1}, 3: {Kids: kids{0, 2, 0, 0}, Refs: 1},
			4: {Kids: kids{1, 3, 0, 0}, Refs: 2},
		},
		blocks{1: {Data: "hay", Refs: 1}, 2: {Data: "oats", Refs: 1}})
	wantTexts(t, v, 2, 1, 9, texts{2: "hay", 5: "oats"})
}

// Without a base nothing is shared, even with equal texts.
func TestIngestWithoutBase(t *testing.T) { // E2
	v := hayAndOats(t)
	wantIngest(t, v, 0, 1, 8, puts{{At: 2, Data: "hay"}}, 2)
	wantTexts(t, v, 2, 1, 8, texts{2: "hay"})
	if len(v.X.N) != 5 || len(v.X.P.L) != 3 {
		t.Errorf("nodes %v, blocks %v", v.X.N, v.X.P.L)
	}
	wantCounted(t, v)
}

func TestPutsInOrder(t *testing.T) { // E2
	v := hayAndOats(t)
	wantIngest(t, v, 1, 1, 8, puts{{At: 7, Data: "a"}, {At: 2, Data: "b"}, {At: 7, Data: "c"}, {At: 5}, {At: 2, Data: "hay"}, {At: 0, Data: "d"}, {At: 0}}, 2)
	wantTexts(t, v, 1, 1, 8, texts{2: "hay", 5: "oats"})
	wantTexts(t, v, 2, 1, 8, texts{2: "hay", 7: "c"})
	wantCounted(t, v)
}

// Nothing is set at each position behind the size, also where there is no
// block: so the leaf becomes another one, with the same Kids. The numbers of
// the nodes tell in which order.
func TestNothingBehindTheSize(t *testing.T) { // E2
	v := New()
	wantIngest(t, v, 0, 1, 16, puts{{At: 0, Data: "hay"}}, 1)
	wantIngest(t, v, 1, 1, 2, nil, 2)
	wantStored(t, v,
		[]api.Point{{ID: 1, Disk: 1, Size: 16, Root: 2}, {ID: 2, Disk: 1, Size: 2, Root: 4}}, 3,
		nodes{
			1: {Kids: kids{1, 0, 0, 0}, Refs: 1}, 2: {Kids: kids{1, 0, 0, 0}, Refs: 1},
			4: {Kids: kids{5, 0, 0, 0}, Refs: 1}, 5: {Kids: kids{1, 0, 0, 0}, Refs: 1},
		},
		blocks{1: {Data: "hay", Refs: 2}})
}

func TestSmallerThanTheBase(t *testing.T) { // E2
	v := hayAndOats(t)
	for k, size := range []int{5, 3, 2} {
		want := texts{2: "hay"}
		if size < 3 {
			want = texts{}
		}
		wantIngest(t, v, 1, 1, size, nil, k+2)
		wantTexts(t, v, k+2, 1, size, want)
	}
	// What was behind the size is not there again.
	wantIngest(t, v, 4, 1, 16, nil, 5)
	wantTexts(t, v, 5, 1, 16, texts{})
	wantTexts(t, v, 1, 1, 8, texts{2: "hay", 5: "oats"})
	wantCounted(t, v)
}

func TestEverySize(t *testing.T) { // E2, E4
	for size := 1; size <= api.MaxBlocks; size++ {
		v := New()
		var l puts
		has := texts{}
		for at := range size {
			has[at] = "abcdefghijklmnop"[at : at+1]
			l = append(l, api.Put{At: at, Data: has[at]})
		}
		wantIngest(t, v, 0, 1, size, l, 1)
		wantTexts(t, v, 1, 1, size, has)
		for other := 1; other <= api.MaxBlocks; other++ {
			cut := texts{}
			copy(cut[:min(size, other)], has[:])
			wantIngest(t, v, 1, 1, other, nil, other+1)
			wantTexts(t, v, other+1, 1, other, cut)
			wantCounted(t, v)
			wantDrop(t, v, other+1)
		}
	}
}

func TestIngestOutOfBounds(t *testing.T) { // E2, Z1, Z3
	v := hayAndOats(t)
	for _, disk := range append(extremes, api.MaxID+1) {
		wantIngestError(t, v, 0, disk, 8, nil, api.ErrBound)
		wantIngestError(t, v, 9, disk, 8, puts{{Data: "1234567"}}, api.ErrBound)
	}
	for _, size := range append(extremes, api.MaxBlocks+1) {
		wantIngestError(t, v, 0, 1, size, nil, api.ErrBound)
		wantIngestError(t, v, 9, 2, size, puts{{Data: "1234567"}}, api.ErrBound)
	}
	for _, at := range []int{math.MinInt, -1, 4, 7, 8, 15, 16, math.MaxInt} {
		wantIngestError(t, v, 0, 1, 4, puts{{At: 0, Data: "x"}, {At: at, Data: "x"}}, api.ErrBound)
		wantIngestError(t, v, 1, 1, 4, puts{{At: at}}, api.ErrBound)
		wantIngestError(t, v, 1, 1, 4, puts{{At: at, Data: "1234567"}}, api.ErrBound)
	}
	wantIngest(t, v, 0, api.MaxID, api.MaxBlocks, puts{{At: 15, Data: "123456"}}, 2)
	wantTexts(t, v, 2, api.MaxID, api.MaxBlocks, texts{15: "123456"})
}

func TestIngestWrongBase(t *testing.T) { // E2, Z1, Z3
	v := hayAndOats(t)
	wantIngest(t, v, 0, 2, 8, nil, 2)
	bad := puts{{At: 99, Data: "1234567"}}
	for _, base := range []int{math.MinInt, -1, 3, 999, math.MaxInt} {
		wantIngestError(t, v, base, 1, 8, bad, api.ErrNone)
	}
	for _, x := range [][2]int{{1, 2}, {2, 1}, {1, 3}, {2, api.MaxID}} {
		wantIngestError(t, v, x[0], x[1], 8, bad, api.ErrShape)
	}
	wantDrop(t, v, 1)
	wantIngestError(t, v, 1, 1, 8, nil, api.ErrNone)
}

func TestIngestTextsThatMayNotBe(t *testing.T) { // E2, Z1, Z3
	v := hayAndOats(t)
	for _, s := range []string{"1234567", "éééx", strings.Repeat("x", 10000)} {
		wantIngestError(t, v, 0, 1, 8, puts{{At: 3, Data: s}}, api.ErrShape)
		wantIngestError(t, v, 1, 1, 8, puts{{At: 2, Data: s}, {At: 8}}, api.ErrShape)
		wantIngestError(t, v, 1, 1, 8, puts{{At: 8}, {At: 2, Data: s}}, api.ErrBound)
	}
	l := puts{{At: 0, Data: "123456"}, {At: 1, Data: "ééé"}, {At: 2, Data: "\x00\xff\n"}, {At: 3, Data: " "}, {At: 4, Data: "-"}}
	wantIngest(t, v, 1, 1, 8, l, 2)
	wantTexts(t, v, 2, 1, 8, texts{"123456", "ééé", "\x00\xff\n", " ", "-", "oats"})
}

// everywhere returns puts of one text at all positions from one to another.
func everywhere(from, to int, data string) puts {
	var l puts
	for at := from; at < to; at++ {
		l = append(l, api.Put{At: at, Data: data})
	}
	return l
}

func TestNoRoomForBlocks(t *testing.T) { // E2
	v := New()
	wantIngest(t, v, 0, 1, 16, everywhere(0, 16, "a"), 1)
	wantIngest(t, v, 0, 1, 16, everywhere(0, 16, "b"), 2)
	wantIngestError(t, v, 0, 1, 16, everywhere(0, 9, "c"), api.ErrFull)
	wantIngestError(t, v, 2, 1, 16, everywhere(0, 9, "c"), api.ErrFull)
	wantIngestError(t, v, 0, 1, 16, append(everywhere(0, 9, "c"), api.Put{At: 16}), api.ErrFull)
	wantIngest(t, v, 0, 1, 16, everywhere(0, 8, "c"), 3)
	wantIngestError(t, v, 3, 1, 16, puts{{At: 8, Data: "d"}}, api.ErrFull)
	wantIngestError(t, v, 3, 1, 16, puts{{At: 8, Data: "1234567"}}, api.ErrShape)
	wantIngest(t, v, 3, 1, 16, puts{{At: 0, Data: "c"}, {At: 7}}, 4)
	wantDrop(t, v, 1)
	wantIngest(t, v, 3, 1, 16, puts{{At: 8, Data: "d"}}, 5)
	wantTexts(t, v, 5, 1, 16, texts{"c", "c", "c", "c", "c", "c", "c", "c", "d"})
	wantCounted(t, v)
}

// nearlyFull returns a vault with room for three nodes, and five points of
// size 16: 1 to 3 have texts at 0, 4, 8 and 12, and 4 and 5 at 0 and 4.
func nearlyFull(t *testing.T) *Vault {
	t.Helper()
	v := New()
	for id := 1; id <= 3; id++ {
		wantIngest(t, v, 0, 1, 16, puts{{At: 0, Data: "a"}, {At: 4, Data: "a"}, {At: 8, Data: "a"}, {At: 12, Data: "a"}}, id)
	}
	wantIngest(t, v, 0, 1, 16, puts{{At: 0, Data: "b"}, {At: 4, Data: "b"}}, 4)
	wantIngest(t, v, 0, 2, 16, puts{{At: 0, Data: "c"}, {At: 4, Data: "c"}}, 5)
	if len(v.X.N) != api.MaxNodes-3 {
		t.Fatalf("%d nodes", len(v.X.N))
	}
	return v
}

// While a text is set, the root before it still needs its nodes.
func TestNoRoomForNodes(t *testing.T) { // E2
	v := nearlyFull(t)
	wantIngestError(t, v, 0, 1, 16, puts{{At: 0, Data: "x"}, {At: 4, Data: "y"}}, api.ErrFull)
	wantIngestError(t, v, 1, 1, 16, puts{{At: 0, Data: "x"}, {At: 4, Data: "y"}}, api.ErrFull)
	wantIngest(t, v, 0, 1, 16, puts{{At: 0, Data: "x"}}, 6)
	wantDrop(t, v, 6)
	wantIngest(t, v, 5, 2, 16, puts{{At: 8, Data: "x"}}, 7)
	wantTexts(t, v, 7, 2, 16, texts{0: "c", 4: "c", 8: "x"})
	wantCounted(t, v)
}

// Nothing is set behind a smaller size, which may need more room than there is.
func TestNoRoomToBeSmaller(t *testing.T) { // E2
	v := nearlyFull(t)
	wantIngestError(t, v, 4, 1, 2, nil, api.ErrFull) // at 2 and at 3 one leaf after the other
	wantIngestError(t, v, 4, 1, 2, puts{{At: 2}}, api.ErrFull)
	wantIngest(t, v, 4, 1, 15, nil, 6) // at 15 there is no leaf
	wantTexts(t, v, 6, 1, 15, texts{0: "b", 4: "b"})
	wantDrop(t, v, 6)
	wantIngest(t, v, 4, 1, 8, nil, 7)
	wantTexts(t, v, 7, 1, 8, texts{0: "b", 4: "b"})
	wantCounted(t, v)
}

// Each root before is freed at once: else 32 nodes were needed here.
func TestIngestOfAWholeDisk(t *testing.T) { // E2, W4
	v := New()
	wantIngest(t, v, 0, 1, 16, everywhere(0, 16, "x"), 1)
	wantIngest(t, v, 1, 1, 16, everywhere(0, 16, "y"), 2)
	wantIngest(t, v, 2, 1, 1, nil, 3)
	if len(v.X.N) != 12 || len(v.X.P.L) != 32 {
		t.Errorf("%d nodes, %d blocks", len(v.X.N), len(v.X.P.L))
	}
	wantTexts(t, v, 3, 1, 1, texts{"y"})
	wantCounted(t, v)
}

func TestFullOfPoints(t *testing.T) { // E1, E2, E3, Z1, Z3
	v := hayAndOats(t)
	for id := 2; id <= api.MaxPoints; id++ {
		wantIngest(t, v, 0, id, id, nil, id)
	}
	was := v.Copy()
	for _, id := range []int{1, 6} {
		if n, err := v.Again(id); n != 0 || err != api.ErrFull {
			t.Errorf("Again(%d) = %d, %v", id, n, err)
		}
	}
	wantAs(t, v, was)
	wantNone(t, v, 7)
	wantIngestError(t, v, 0, 1, 8, nil, api.ErrFull)
	wantIngestError(t, v, 1, 1, 8, puts{{At: 3, Data: "x"}}, api.ErrFull)
	wantIngestError(t, v, 1, 1, 8, puts{{At: 8, Data: "x"}}, api.ErrBound)
	wantIngestError(t, v, 1, 1, 8, puts{{At: 0, Data: "1234567"}}, api.ErrShape)
	wantIngestError(t, v, 1, 2, 8, nil, api.ErrShape)
	wantDrop(t, v, 4)
	wantIngest(t, v, 1, 1, 8, puts{{At: 3, Data: "x"}}, 7)
	wantIngestError(t, v, 0, 1, 8, nil, api.ErrFull)
}

func TestIDsAreNotUsedAgain(t *testing.T) { // E1, E3
	v := New()
	wantIngest(t, v, 0, 1, 8, puts{{At: 0, Data: "a"}}, 1)
	wantIngest(t, v, 1, 1, 8, puts{{At: 1, Data: "b"}}, 2)
	wantDrop(t, v, 2)
	wantAgain(t, v, 1, 3)
	wantDrop(t, v, 1, 3)
	wantStored(t, v, nil, 4, nil, nil)
	wantIngest(t, v, 0, 1, 8, nil, 4)
	for _, id := range []int{1, 2, 3, 5} {
		wantNone(t, v, id)
	}
}

// After the last ID, there is room for points, but there are no IDs.
func TestTheLastID(t *testing.T) { // E1, E2, E3, Z1
	v := hayAndOats(t)
	for id := 2; id < api.MaxID; id += 2 {
		wantAgain(t, v, 1, id)
		wantIngest(t, v, id, 1, 8, nil, id+1)
		wantDrop(t, v, id, id+1)
	}
	if v.Next != api.MaxID+1 {
		t.Fatalf("next %d", v.Next)
	}
	was := v.Copy()
	if n, err := v.Again(1); n != 0 || err != api.ErrFull {
		t.Errorf("Again(1) = %d, %v", n, err)
	}
	wantAs(t, v, was)
	wantIngestError(t, v, 0, 1, 8, nil, api.ErrFull)
	wantIngestError(t, v, 1, 1, 8, puts{{At: 8}}, api.ErrBound)
	wantTexts(t, v, 1, 1, 8, texts{2: "hay", 5: "oats"})
	wantDrop(t, v, 1)
	wantStored(t, v, nil, api.MaxID+1, nil, nil)
}

func TestAgainAndDrop(t *testing.T) { // E3, W3, W4
	v := hayAndOats(t)
	wantIngest(t, v, 0, 2, 1, nil, 2)
	wantAgain(t, v, 1, 3)
	wantAgain(t, v, 3, 4)
	wantAgain(t, v, 2, 5)
	l := []api.Point{
		{ID: 1, Disk: 1, Size: 8, Root: 4}, {ID: 2, Disk: 2, Size: 1}, {ID: 3, Disk: 1, Size: 8, Root: 4},
		{ID: 4, Disk: 1, Size: 8, Root: 4}, {ID: 5, Disk: 2, Size: 1},
	}
	b := blocks{1: {Data: "hay", Refs: 1}, 2: {Data: "oats", Refs: 1}}
	n := func(refs int) nodes {
		return nodes{
			1: {Kids: kids{0, 0, 1, 0}, Refs: 1}, 3: {Kids: kids{0, 2, 0, 0}, Refs: 1},
			4: {Kids: kids{1, 3, 0, 0}, Refs: refs},
		}
	}
	wantStored(t, v, l, 6, n(3), b)
	wantDrop(t, v, 3)
	wantStored(t, v, slices.Delete(slices.Clone(l), 2, 3), 6, n(2), b)
	wantNone(t, v, 3)
	wantDrop(t, v, 1, 2)
	wantStored(t, v, l[3:], 6, n(1), b)
	wantTexts(t, v, 4, 1, 8, texts{2: "hay", 5: "oats"})
	wantTexts(t, v, 5, 2, 1, texts{})
	wantDrop(t, v, 5)
	wantStored(t, v, l[3:4], 6, n(1), b)
	wantDrop(t, v, 4)
	wantStored(t, v, nil, 6, nil, nil)
}

// Points that share parts are dropped in all orders.
func TestDropKeepsTheOthers(t *testing.T) { // E3, W3, W4
	for _, order := range [][]int{{1, 2, 3}, {1, 3, 2}, {2, 1, 3}, {2, 3, 1}, {3, 1, 2}, {3, 2, 1}} {
		v := hayAndOats(t)
		wantIngest(t, v, 1, 1, 12, puts{{At: 5, Data: "bran"}, {At: 9, Data: "peas"}}, 2)
		wantIngest(t, v, 2, 1, 10, puts{{At: 2}}, 3)
		has := map[int]texts{1: {2: "hay", 5: "oats"}, 2: {2: "hay", 5: "bran", 9: "peas"}, 3: {5: "bran", 9: "peas"}}
		size := map[int]int{1: 8, 2: 12, 3: 10}
		for _, id := range order {
			wantDrop(t, v, id)
			delete(has, id)
			for other, s := range has {
				wantTexts(t, v, other, 1, size[other], s)
			}
			wantCounted(t, v)
		}
		wantStored(t, v, nil, 4, nil, nil)
	}
}

func TestEldest(t *testing.T) { // E4, Z1, Z2
	v := New()
	for k, disk := range []int{1, 2, 1, 1, 3, 1} {
		wantIngest(t, v, 0, disk, 1, nil, k+1)
	}
	wantDrop(t, v, 3)
	wantAgain(t, v, 2, 7)
	for _, x := range []struct {
		disk, keep int
		want       []int
	}{
		{1, 0, []int{1, 4, 6}}, {1, 1, []int{1, 4}}, {1, 2, []int{1}}, {1, 3, nil}, {1, 4, nil}, {1, math.MaxInt, nil},
		{1, -1, []int{1, 4, 6}}, {1, math.MinInt, []int{1, 4, 6}}, {2, 0, []int{2, 7}}, {2, 1, []int{2}}, {2, 2, nil},
		{3, 0, []int{5}}, {3, 1, nil}, {4, 0, nil}, {4, -1, nil}, {0, 0, nil}, {math.MinInt, math.MinInt, nil}, {math.MaxInt, math.MaxInt, nil},
	} {
		was := v.Copy()
		for range 2 {
			l := v.Eldest(x.disk, x.keep)
			if !slices.Equal(l, x.want) {
				t.Errorf("Eldest(%d, %d) = %v, want %v", x.disk, x.keep, l, x.want)
			}
			clear(l)
		}
		wantAs(t, v, was)
	}
}

func TestCopy(t *testing.T) { // E1, Z2
	wantStored(t, New().Copy(), nil, 1, nil, nil)
	v := hayAndOats(t)
	wantIngest(t, v, 1, 1, 8, puts{{At: 0, Data: "rye"}}, 2)
	wantAgain(t, v, 1, 3)
	w, was := v.Copy(), v.Copy()
	wantAs(t, w, v)
	wantDrop(t, v, 1)
	wantIngest(t, v, 2, 1, 4, puts{{At: 0, Data: "bran"}}, 4)
	wantAs(t, w, was)
	now := v.Copy()
	wantIngest(t, w, 1, 1, 8, puts{{At: 7, Data: "peas"}}, 4)
	wantAgain(t, w, 4, 5)
	wantDrop(t, w, 2, 1, 3)
	wantAs(t, v, now)
	wantTexts(t, v, 4, 1, 4, texts{0: "bran", 2: "hay"})
	wantTexts(t, w, 4, 1, 8, texts{2: "hay", 5: "oats", 7: "peas"})
	wantCounted(t, v)
	wantCounted(t, w)
}

// Points added to a vault and to its copy do not share memory, either.
func TestCopyGrows(t *testing.T) { // E1, Z2
	for many := range api.MaxPoints {
		v := New()
		for k := range many {
			wantIngest(t, v, 0, 1, 1, nil, k+1)
		}
		w := v.Copy()
		wantIngest(t, v, 0, 2, 2, nil, many+1)
		wantIngest(t, w, 0, 3, 3, nil, many+1)
		wantTexts(t, v, many+1, 2, 2, texts{})
		wantTexts(t, w, many+1, 3, 3, texts{})
	}
}

func TestPutsAreNotKept(t *testing.T) { // Z2
	v := New()
	l := puts{{At: 1, Data: "a"}, {At: 0, Data: "b"}, {At: 1, Data: "c"}, {At: 3, Data: "d"}}
	was := slices.Clone(l)
	wantIngest(t, v, 0, 1, 2, l[:3], 1) // the put behind them would be out of bounds
	if !slices.Equal(l, was) {
		t.Errorf("puts %v, were %v", l, was)
	}
	clear(l)
	wantTexts(t, v, 1, 1, 2, texts{"b", "c"})
}

// wantCounted counts the references to all nodes and blocks, from the points
// on, and compares them with what is stored.
func wantCounted(t *testing.T, v *Vault) {
	t.Helper()
	refs, stored := map[int]int{}, map[int]int{}
	for _, p := range v.L {
		refs[p.Root]++
	}
	for _, root := range slices.Collect(maps.Keys(refs)) {
		for _, leaf := range v.X.N[root].Kids {
			refs[leaf]++
			if refs[leaf] > 1 {
				continue
			}
			for _, block := range v.X.N[leaf].Kids {
				stored[block]++
			}
		}
	}
	delete(refs, 0)
	delete(stored, 0)
	if !maps.EqualFunc(v.X.N, refs, func(n api.Node, refs int) bool { return n.Refs == refs }) {
		t.Fatalf("nodes %v, references %v, points %v", v.X.N, refs, v.L)
	}
	if !maps.EqualFunc(v.X.P.L, stored, func(b api.Block, refs int) bool { return b.Refs == refs }) {
		t.Fatalf("blocks %v, references %v", v.X.P.L, stored)
	}
}

// dice is a fixed sequence of numbers, the same in each run.
type dice uint64

func (r *dice) roll(n int) int {
	*r = *r*6364136223846793005 + 1442695040888963407
	return int(uint64(*r) >> 33 % uint64(n))
}

// kept is what a point is known to have.
type kept struct {
	id, disk, size int
	has            texts
}

// model has the points of a vault, and the next one's ID.
type model struct {
	l    []kept
	next int
}

// pick returns one of the points, or one without anything.
func (m *model) pick(r *dice) kept {
	k := r.roll(len(m.l) + 1)
	if k == len(m.l) {
		return kept{disk: 1 + r.roll(2)}
	}
	return m.l[k]
}

// without returns the points but one.
func without(l []kept, id int) []kept {
	return slices.DeleteFunc(slices.Clone(l), func(k kept) bool { return k.id == id })
}

// add is a point more, which the vault has also returned.
func (m *model) add(t *testing.T, k kept, id int) {
	t.Helper()
	if id != m.next {
		t.Fatalf("the new point is %d, want %d", id, m.next)
	}
	k.id = id
	m.l = append(m.l, k)
	m.next++
}

// ingest does an Ingest with valid arguments; it returns the vault that is
// specified, which is the one before if there was no room.
func (m *model) ingest(t *testing.T, v *Vault, r *dice) *Vault {
	t.Helper()
	base := m.pick(r)
	made := kept{disk: base.disk, size: 1 + r.roll(api.MaxBlocks)}
	copy(made.has[:made.size], base.has[:])
	var l puts
	for range r.roll(8) {
		p := api.Put{At: r.roll(made.size), Data: []string{"", "a", "bb", "cccccc"}[r.roll(4)]}
		made.has[p.At] = p.Data
		l = append(l, p)
	}
	w := v.Copy()
	id, err := w.Ingest(base.id, made.disk, made.size, l)
	// A new point needs at most five nodes and two more while it is made, and
	// as many blocks as its size and one more.
	room := len(v.X.N)+7 <= api.MaxNodes && len(v.X.P.L)+made.size+1 <= api.MaxPool
	full := len(m.l) == api.MaxPoints
	if err == api.ErrFull && id == 0 && (full || !room) {
		return v
	}
	if err != nil || full {
		t.Fatalf("Ingest(%d, %d, %d, %v) = %d, %v with points %v", base.id, made.disk, made.size, l, id, err, m.l)
	}
	m.add(t, made, id)
	return w
}

func (m *model) again(t *testing.T, v *Vault, r *dice) {
	t.Helper()
	k := m.pick(r)
	want := error(nil)
	switch {
	case k.id == 0:
		want = api.ErrNone
	case len(m.l) == api.MaxPoints:
		want = api.ErrFull
	}
	id, err := v.Again(k.id)
	if err != want || err != nil && id != 0 {
		t.Fatalf("Again(%d) = %d, %v, want %v", k.id, id, err, want)
	}
	if err == nil {
		m.add(t, k, id)
	}
}

func (m *model) drop(t *testing.T, v *Vault, r *dice) {
	t.Helper()
	k := m.pick(r)
	if k.id == 0 {
		return
	}
	wantDrop(t, v, k.id)
	m.l = without(m.l, k.id)
}

// check compares all that is known with the vault.
func (m *model) check(t *testing.T, v *Vault) {
	t.Helper()
	var ids [3][]int
	for _, k := range m.l {
		wantTexts(t, v, k.id, k.disk, k.size, k.has)
		ids[k.disk] = append(ids[k.disk], k.id)
	}
	for disk, l := range ids {
		for keep := range len(l) {
			if got := v.Eldest(disk, keep); !slices.Equal(got, l[:len(l)-keep]) {
				t.Fatalf("Eldest(%d, %d) = %v of %v", disk, keep, got, l)
			}
		}
	}
	if len(v.L) != len(m.l) || v.Next != m.next {
		t.Fatalf("points %v, next %d, want %v, %d", v.L, v.Next, m.l, m.next)
	}
	wantCounted(t, v)
}

// step does one thing to the vault and to the model.
func (m *model) step(t *testing.T, v *Vault, r *dice) *Vault {
	t.Helper()
	switch r.roll(5) {
	case 0:
		m.again(t, v, r)
	case 1, 2:
		m.drop(t, v, r)
	default:
		v = m.ingest(t, v, r)
	}
	m.check(t, v)
	return v
}

func TestLongHistories(t *testing.T) { // E1, E2, E3, E4, W3, W4
	for seed := range 60 {
		r := dice(seed)
		v, m := New(), &model{next: 1}
		for range 150 {
			v = m.step(t, v, &r)
		}
		for _, k := range m.l {
			wantDrop(t, v, k.id)
			m.l = without(m.l, k.id)
			m.check(t, v)
		}
		wantStored(t, v, nil, m.next, nil, nil)
	}
}
