package area

import (
	"math"
	"slices"
	"testing"

	"counterfoil/api"
)

// A set of blocks as bits: the tests compute with these what the package
// computes with lists. Every set has exactly one valid list.
type set uint32

const sets = 1 << api.MaxBlocks

func (s set) has(at int) bool {
	return at >= 0 && at < api.MaxBlocks && s>>at&1 == 1
}

func (s set) list() []api.Area {
	var l []api.Area
	for at := 0; at < api.MaxBlocks; at++ {
		from := at
		for s.has(at) {
			at++
		}
		if at > from {
			l = append(l, api.Area{From: from, Many: at - from})
		}
	}
	return l
}

func (s set) count() int {
	n := 0
	for at := range api.MaxBlocks {
		if s.has(at) {
			n++
		}
	}
	return n
}

// page returns the first many blocks from a block on, and the next one.
func (s set) page(from, many int) (set, int) {
	var p set
	for at := range api.MaxBlocks {
		switch {
		case at < from || !s.has(at):
		case many == 0:
			return p, at
		default:
			p |= 1 << at
			many--
		}
	}
	return p, -1
}

// sample returns some of the sets, among them the empty and the full one.
func sample(step int) []set {
	l := []set{0, sets - 1, 1, 1 << (api.MaxBlocks - 1)}
	for s := 5; s < sets; s += step {
		l = append(l, set(s))
	}
	return l
}

// outside has numbers around and far beyond the blocks.
func outside() []int {
	return []int{math.MinInt, math.MinInt + 1, -17, -16, -2, -1, 0, 1, 2, 7, 14, 15, 16, 17, 18, 33, math.MaxInt - 1, math.MaxInt}
}

func TestCheckErrors(t *testing.T) { // A1, Z3
	for _, x := range []struct {
		name string
		l    []api.Area
		want error
	}{
		{"no list", nil, nil},
		{"no areas", []api.Area{}, nil},
		{"first block", []api.Area{{From: 0, Many: 1}}, nil},
		{"last block", []api.Area{{From: 15, Many: 1}}, nil},
		{"all blocks", []api.Area{{From: 0, Many: 16}}, nil},
		{"one block between", []api.Area{{From: 0, Many: 2}, {From: 3, Many: 1}}, nil},
		{"negative From", []api.Area{{From: -1, Many: 2}}, api.ErrBound},
		{"least From", []api.Area{{From: math.MinInt, Many: 1}}, api.ErrBound},
		{"least From, greatest Many", []api.Area{{From: math.MinInt, Many: math.MaxInt}}, api.ErrBound},
		{"no Many", []api.Area{{From: 3, Many: 0}}, api.ErrBound},
		{"negative Many", []api.Area{{From: 3, Many: -1}}, api.ErrBound},
		{"least Many", []api.Area{{From: 3, Many: math.MinInt}}, api.ErrBound},
		{"one too many", []api.Area{{From: 0, Many: 17}}, api.ErrBound},
		{"one beyond the end", []api.Area{{From: 15, Many: 2}}, api.ErrBound},
		{"from the end on", []api.Area{{From: 16, Many: 1}}, api.ErrBound},
		{"end that overflows", []api.Area{{From: 2, Many: math.MaxInt}}, api.ErrBound},
		{"From that overflows", []api.Area{{From: math.MaxInt, Many: 2}}, api.ErrBound},
		{"both overflow", []api.Area{{From: math.MaxInt, Many: math.MaxInt}}, api.ErrBound},
		{"adjoining", []api.Area{{From: 0, Many: 2}, {From: 2, Many: 1}}, api.ErrShape},
		{"overlapping", []api.Area{{From: 0, Many: 3}, {From: 2, Many: 4}}, api.ErrShape},
		{"within", []api.Area{{From: 0, Many: 9}, {From: 2, Many: 1}}, api.ErrShape},
		{"twice", []api.Area{{From: 4, Many: 1}, {From: 4, Many: 1}}, api.ErrShape},
		{"decreasing", []api.Area{{From: 3, Many: 1}, {From: 1, Many: 1}}, api.ErrShape},
		{"third of three", []api.Area{{From: 0, Many: 1}, {From: 2, Many: 1}, {From: 3, Many: 1}}, api.ErrShape},
		{"both errors of one area", []api.Area{{From: 3, Many: 1}, {From: 1, Many: 0}}, api.ErrBound},
		{"shape, then bound", []api.Area{{From: 3, Many: 1}, {From: 1, Many: 1}, {From: -1, Many: 1}}, api.ErrShape},
		{"bound, then shape", []api.Area{{From: 3, Many: 0}, {From: 3, Many: 1}, {From: 3, Many: 1}}, api.ErrBound},
	} {
		if err := Check(x.l); err != x.want {
			t.Errorf("%s: Check(%v) = %v, want %v", x.name, x.l, err, x.want)
		}
	}
}

func TestEveryValidList(t *testing.T) { // A1, A2
	for s := set(0); s < sets; s++ {
		l := s.list()
		if err := Check(l); err != nil {
			t.Fatalf("Check(%v) = %v", l, err)
		}
		if n := Count(l); n != s.count() {
			t.Fatalf("Count(%v) = %d, want %d", l, n, s.count())
		}
		for at := -2; at < api.MaxBlocks+2; at++ {
			if Has(l, at) != s.has(at) {
				t.Fatalf("Has(%v, %d) = %v", l, at, !s.has(at))
			}
		}
		if u := Union(l, nil); !slices.Equal(u, l) {
			t.Fatalf("Union(%v, nil) = %v", l, u)
		}
	}
}

func TestHasFarBlocks(t *testing.T) { // A1, Z1
	l := []api.Area{{From: 0, Many: 16}}
	for _, at := range outside() {
		if want := at >= 0 && at < 16; Has(l, at) != want {
			t.Errorf("Has(%v, %d) = %v", l, at, !want)
		}
	}
}

func TestUnion(t *testing.T) { // A2
	if u := Union([]api.Area{{From: 0, Many: 2}}, []api.Area{{From: 2, Many: 1}}); !slices.Equal(u, []api.Area{{From: 0, Many: 3}}) {
		t.Errorf("the chapter's example: %v", u)
	}
	for _, a := range sample(257) {
		for _, b := range sample(331) {
			u := Union(a.list(), b.list())
			if !slices.Equal(u, (a | b).list()) {
				t.Fatalf("Union(%v, %v) = %v", a.list(), b.list(), u)
			}
		}
	}
}

func TestCut(t *testing.T) { // A2
	for _, s := range sample(13) {
		for _, size := range outside() {
			var want set
			for at := range api.MaxBlocks {
				if at < size {
					want |= s & (1 << at)
				}
			}
			if c := Cut(s.list(), size); !slices.Equal(c, want.list()) {
				t.Fatalf("Cut(%v, %d) = %v", s.list(), size, c)
			}
		}
	}
}

func TestPage(t *testing.T) { // A3
	for _, s := range sample(13) {
		for _, from := range outside() {
			for _, many := range []int{1, 2, 3, 8, 15, 16, 17, math.MaxInt} {
				p, next := Page(s.list(), from, many)
				want, left := s.page(from, many)
				if !slices.Equal(p, want.list()) || next != left {
					t.Fatalf("Page(%v, %d, %d) = %v, %d, want %v, %d", s.list(), from, many, p, next, want.list(), left)
				}
			}
		}
	}
}

func TestPagesOfAList(t *testing.T) { // A3
	for _, s := range sample(13) {
		for many := 1; many <= api.MaxBlocks+1; many++ {
			var all []api.Area
			turns := 0
			for from := 0; from >= 0; turns++ {
				var p []api.Area
				p, from = Page(s.list(), from, many)
				all = Union(all, p)
			}
			if want := max(1, (s.count()+many-1)/many); !slices.Equal(all, s.list()) || turns != want {
				t.Fatalf("pages of %d of %v: %v in %d turns, want %d", many, s.list(), all, turns, want)
			}
		}
	}
}

func TestAnyListReturns(t *testing.T) { // Z1
	var areas []api.Area
	for _, from := range outside() {
		for _, many := range outside() {
			areas = append(areas, api.Area{From: from, Many: many})
		}
	}
	for _, a := range areas {
		for _, l := range [][]api.Area{{a}, {a, a}, {{From: 3, Many: 2}, a}, {a, {From: 3, Many: 2}}} {
			Check(l)
			Count(l)
			Union(l, areas)
			for _, n := range outside() {
				Has(l, n)
				Cut(l, n)
				Page(l, n, 1)
				Page(l, 0, n)
			}
		}
	}
}

// each calls every function that returns a list.
func each(l []api.Area) [][]api.Area {
	p, _ := Page(l, 0, api.MaxBlocks)
	return [][]api.Area{Union(l, nil), Union(nil, l), Union(l, l), Cut(l, api.MaxBlocks), p}
}

func TestResultsAreNew(t *testing.T) { // Z2
	l := []api.Area{{From: 1, Many: 2}, {From: 5, Many: 3}}
	want := slices.Clone(l)
	for k, r := range each(l) {
		for i := range r {
			r[i] = api.Area{}
		}
		if !slices.Equal(l, want) {
			t.Fatalf("result %d shares the argument's memory: %v", k, l)
		}
	}
	all := each(l)
	for k := range all {
		clear(all[k])
		for i := k + 1; i < len(all); i++ {
			if !slices.Equal(all[i], want) {
				t.Fatalf("results %d and %d share memory", k, i)
			}
		}
	}
}

func TestMemoryBehindAList(t *testing.T) { // Z2
	memory := []api.Area{{From: 1, Many: 2}, {From: 2, Many: 9}, {From: -1, Many: 0}}
	want := slices.Clone(memory)
	l := memory[:1]
	if err := Check(l); err != nil || Count(l) != 2 || Has(l, 4) {
		t.Errorf("%v: %v, %d, %v", l, err, Count(l), Has(l, 4))
	}
	for k, r := range each(l) {
		if !slices.Equal(r, want[:1]) {
			t.Errorf("result %d: %v", k, r)
		}
	}
	if !slices.Equal(memory, want) {
		t.Errorf("an argument was modified: %v", memory)
	}
}
