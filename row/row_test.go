package row

import (
	"maps"
	"slices"
	"strings"
	"testing"

	"counterfoil/api"
)

type rows = []api.Change

func put(key, val string) api.Change { return api.Change{Key: key, Val: val} }

func drop(key string) api.Change { return api.Change{Key: key, Gone: true} }

var (
	longKey = strings.Repeat("k", api.MaxKey)
	longVal = strings.Repeat("v", api.MaxVal)
)

// invalid changes, with their errors.
var invalid = []struct {
	c    api.Change
	want error
}{
	{api.Change{}, api.ErrShape},
	{put("", "x"), api.ErrShape},
	{drop(""), api.ErrShape},
	{api.Change{Key: "a", Val: "x", Gone: true}, api.ErrShape},
	{api.Change{Key: "a", Val: "\x00", Gone: true}, api.ErrShape},
	{put("", longVal+"v"), api.ErrShape},
	{api.Change{Key: longKey + "k", Val: "x", Gone: true}, api.ErrShape},
	{api.Change{Key: "a", Val: longVal + "v", Gone: true}, api.ErrShape},
	{put(longKey+"k", ""), api.ErrMany},
	{drop(longKey + "k"), api.ErrMany},
	{put("a", longVal+"v"), api.ErrMany},
	{put(longKey+"k", longVal+"v"), api.ErrMany},
	{put(strings.Repeat("k", 256), "x"), api.ErrMany},
	{put(strings.Repeat("k", 257), ""), api.ErrMany},
}

// valid changes, with their encodings.
var valid = []struct {
	c    api.Change
	want string
}{
	{drop("a"), "\x01\x01a"},
	{put("a", ""), "\x00\x01a"},
	{put("ab", "xy"), "\x00\x02abxy"},
	{put("a", "bxy"), "\x00\x01abxy"},
	{put("\x00", "\x00\xff"), "\x00\x01\x00\x00\xff"},
	{drop("\x01\x01"), "\x01\x02\x01\x01"},
	{put(longKey, longVal), "\x00\x08" + longKey + longVal},
	{put("a", longVal), "\x00\x01a" + longVal},
	{drop(longKey), "\x01\x08" + longKey},
}

func TestCheck(t *testing.T) { // H1, Z3
	for _, x := range invalid {
		if err := Check(x.c); err != x.want {
			t.Errorf("Check(%v) = %v, want %v", x.c, err, x.want)
		}
	}
	for _, x := range valid {
		if err := Check(x.c); err != nil {
			t.Errorf("Check(%v) = %v", x.c, err)
		}
	}
}

func TestBytes(t *testing.T) { // H2, Z1
	for _, x := range invalid {
		if s, err := Bytes(x.c); s != "" || err != x.want {
			t.Errorf("Bytes(%v) = %q, %v, want %v", x.c, s, err, x.want)
		}
	}
	for _, x := range valid {
		if s, err := Bytes(x.c); s != x.want || err != nil {
			t.Errorf("Bytes(%v) = %q, %v, want %q", x.c, s, err, x.want)
		}
	}
}

func TestParse(t *testing.T) { // H2
	for _, x := range valid {
		if c, err := Parse(x.want); c != x.c || err != nil {
			t.Errorf("Parse(%q) = %v, %v, want %v", x.want, c, err, x.c)
		}
	}
}

func TestParseErrors(t *testing.T) { // H2, Z1
	for _, s := range []string{
		"", "\x00", "\x01", "\x02", "\x00\x00", "\x01\x00", "\x00\x00x", "\x01\x00x",
		"\x02\x01a", "\xff\x01a", "0\x01a", "\x00\x01", "\x00\x02a", "\x01\x02a", "\x00\xffa",
		"\x01\x01ax", "\x01\x01a\x00",
		"\x00\x09" + longKey + "k", "\x01\x09" + longKey + "k", "\x00\x01a" + longVal + "v",
		"\x00\xff" + strings.Repeat("k", 255), "\x00\x01a" + strings.Repeat("v", 10000),
	} {
		if c, err := Parse(s); c != (api.Change{}) || err != api.ErrText {
			t.Errorf("Parse(%q) = %v, %v", s, c, err)
		}
	}
}

// texts returns all texts of up to many of some bytes.
func texts(bytes string, many int) []string {
	l := []string{""}
	for from := 0; many > 0; many-- {
		end := len(l)
		for _, s := range l[from:end] {
			for _, b := range []byte(bytes) {
				l = append(l, s+string([]byte{b}))
			}
		}
		from = end
	}
	return l
}

func TestShortEncodings(t *testing.T) { // H2
	const bytes = "\x00\x01\x02a"
	encodings := map[string]api.Change{}
	parts := texts(bytes, 3)
	for _, key := range parts {
		for _, val := range parts {
			for _, c := range []api.Change{put(key, val), {Key: key, Val: val, Gone: true}} {
				s, err := Bytes(c)
				if err == nil {
					encodings[s] = c
				}
			}
		}
	}
	for _, s := range texts(bytes, 5) {
		want, ok := encodings[s]
		if c, err := Parse(s); c != want || ok != (err == nil) {
			t.Errorf("Parse(%q) = %v, %v, want %v, %v", s, c, err, want, ok)
		}
	}
}

func wantApply(t *testing.T, l, changes, want rows) {
	t.Helper()
	was, wasChanges := slices.Clone(l), slices.Clone(changes)
	if made := Apply(l, changes); !slices.Equal(made, want) {
		t.Errorf("Apply(%v, %v) = %v, want %v", l, changes, made, want)
	}
	if !slices.Equal(l, was) || !slices.Equal(changes, wasChanges) {
		t.Errorf("Apply(%v, %v): these are arguments that were %v, %v", l, changes, was, wasChanges)
	}
}

func TestApply(t *testing.T) { // H3, Z2
	l := rows{put("b", "2"), put("d", "4")}
	for _, x := range []struct{ changes, want rows }{
		{nil, l},
		{rows{put("a", "1")}, rows{put("a", "1"), put("b", "2"), put("d", "4")}},
		{rows{put("c", "3")}, rows{put("b", "2"), put("c", "3"), put("d", "4")}},
		{rows{put("e", "5")}, rows{put("b", "2"), put("d", "4"), put("e", "5")}},
		{rows{put("b", "")}, rows{put("b", ""), put("d", "4")}},
		{rows{put("d", "5")}, rows{put("b", "2"), put("d", "5")}},
		{rows{drop("b")}, rows{put("d", "4")}},
		{rows{drop("d")}, rows{put("b", "2")}},
		{rows{drop("d"), drop("b")}, nil},
		{rows{drop("a"), drop("c"), drop("e"), drop("bb")}, l},
		{rows{put("c", "3"), drop("c")}, l},
		{rows{drop("c"), put("c", "3")}, rows{put("b", "2"), put("c", "3"), put("d", "4")}},
		{rows{drop("b"), put("b", "3")}, rows{put("b", "3"), put("d", "4")}},
		{rows{put("b", "3"), put("b", "4")}, rows{put("b", "4"), put("d", "4")}},
		{rows{put("bb", "3"), put("\xff", "5"), put("\x00", "0")}, rows{put("\x00", "0"), put("b", "2"), put("bb", "3"), put("d", "4"), put("\xff", "5")}},
	} {
		wantApply(t, l, x.changes, x.want)
	}
	wantApply(t, nil, nil, nil)
	wantApply(t, nil, rows{drop("a")}, nil)
	wantApply(t, nil, rows{put("b", ""), put("a", "")}, rows{put("a", ""), put("b", "")})
}

func TestApplyMakesNewRows(t *testing.T) { // Z2
	behind := rows{put("b", "2"), put("d", "4"), put("x", "behind"), put("y", "behind")}
	l := behind[:2]
	changes := rows{put("e", "5")}
	for _, changes := range []rows{nil, changes, {drop("b")}, {put("b", "3")}} {
		a, b := Apply(l, changes), Apply(l, changes)
		for k := range a {
			a[k] = put("z", "z")
		}
		if slices.Contains(b, put("z", "z")) {
			t.Errorf("results of Apply with %v share memory", changes)
		}
	}
	want := rows{put("b", "2"), put("d", "4"), put("x", "behind"), put("y", "behind")}
	if !slices.Equal(behind, want) || changes[0] != put("e", "5") {
		t.Errorf("%v, %v", behind, changes)
	}
}

// dice is a fixed sequence of numbers, the same in each run.
type dice uint64

func (r *dice) roll(n int) int {
	*r = *r*6364136223846793005 + 1442695040888963407
	return int(uint64(*r) >> 33 % uint64(n))
}

// some returns changes, also invalid ones, in any order.
func some(r *dice, keys []string) rows {
	var l rows
	for range r.roll(12) {
		l = append(l, api.Change{Key: keys[r.roll(len(keys))], Val: keys[r.roll(len(keys))], Gone: r.roll(3) == 0})
	}
	return l
}

func TestApplyLongHistories(t *testing.T) { // H3
	keys := texts("ab\xff", 2)[1:]
	r := dice(1)
	for range 100 {
		var l rows
		model := map[string]string{}
		for range 50 {
			changes := some(&r, keys)
			for k, c := range changes {
				if c.Gone {
					changes[k].Val = ""
					delete(model, c.Key)
				} else {
					model[c.Key] = c.Val
				}
			}
			var want rows
			for _, key := range slices.Sorted(maps.Keys(model)) {
				want = append(want, put(key, model[key]))
			}
			wantApply(t, l, changes, want)
			l = Apply(l, changes)
		}
	}
}

func TestApplyToAnything(t *testing.T) { // Z1
	keys := texts("a\xff", 2)
	r := dice(2)
	for range 2000 {
		l, changes := some(&r, keys), some(&r, keys)
		was, wasChanges := slices.Clone(l), slices.Clone(changes)
		Apply(l, changes)
		if !slices.Equal(l, was) || !slices.Equal(changes, wasChanges) {
			t.Fatal("arguments have been modified")
		}
	}
}
