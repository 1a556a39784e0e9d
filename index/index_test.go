package index

import (
	"maps"
	"math"
	"slices"
	"strings"
	"testing"

	"counterfoil/api"
)

// texts is what a root has at each position.
type texts [api.MaxBlocks]string

// with returns the texts with another one at a position.
func (s texts) with(at int, data string) texts {
	s[at] = data
	return s
}

type (
	kids   = [api.Fan]int
	nodes  = map[int]api.Node
	blocks = map[int]api.Block
)

func wantSet(t *testing.T, x *Index, root, at int, data string, want int) {
	t.Helper()
	if n, err := x.Set(root, at, data); n != want || err != nil {
		t.Fatalf("Set(%d, %d, %q) = %d, %v, want %d", root, at, data, n, err, want)
	}
}

// mustSet is for roots whose numbers do not matter.
func mustSet(t *testing.T, x *Index, root, at int, data string) int {
	t.Helper()
	n, err := x.Set(root, at, data)
	if err != nil {
		t.Fatalf("Set(%d, %d, %q) = %v", root, at, data, err)
	}
	return n
}

// replace sets a position and frees the root that had another text there.
func replace(t *testing.T, x *Index, root, at int, data string) int {
	t.Helper()
	n := mustSet(t, x, root, at, data)
	x.Free(root)
	return n
}

func wantSetError(t *testing.T, x *Index, root, at int, data string, want error) {
	t.Helper()
	if n, err := x.Copy().Set(root, at, data); n != 0 || err != want {
		t.Errorf("Set(%d, %d, %q) = %d, %v, want %v", root, at, data, n, err, want)
	}
}

func wantTexts(t *testing.T, x *Index, root int, want texts) {
	t.Helper()
	for at, s := range want {
		if got := x.Get(root, at); got != s {
			t.Fatalf("Get(%d, %d) = %q, want %q", root, at, got, s)
		}
	}
}

// wantStored compares all nodes and blocks.
func wantStored(t *testing.T, x *Index, n nodes, b blocks) {
	t.Helper()
	if !maps.Equal(x.N, n) {
		t.Fatalf("nodes %v, want %v", x.N, n)
	}
	if l := x.Numbers(); !slices.Equal(l, slices.Sorted(maps.Keys(n))) {
		t.Fatalf("Numbers() = %v, want those of %v", l, n)
	}
	if !maps.Equal(x.P.L, b) {
		t.Fatalf("blocks %v, want %v", x.P.L, b)
	}
}

func wantDiff(t *testing.T, x *Index, a, b int, want []int) {
	t.Helper()
	if l := x.Diff(a, b); !slices.Equal(l, want) {
		t.Fatalf("Diff(%d, %d) = %v, want %v", a, b, l, want)
	}
	if l := x.Diff(b, a); !slices.Equal(l, want) {
		t.Fatalf("Diff(%d, %d) = %v, want %v", b, a, l, want)
	}
}

func TestNewIsEmpty(t *testing.T) { // D1, D5
	x := New()
	wantStored(t, x, nil, nil)
	wantTexts(t, x, 0, texts{})
	wantDiff(t, x, 0, 0, nil)
}

// A root with its leaf and its block, then roots that share what they can.
func TestSetStores(t *testing.T) { // D1, D2, D4
	x := New()
	wantSet(t, x, 0, 2, "hay", 2)
	wantStored(t, x,
		nodes{1: {Kids: kids{0, 0, 1, 0}, Refs: 1}, 2: {Kids: kids{1, 0, 0, 0}, Refs: 1}},
		blocks{1: {Data: "hay", Refs: 1}})
	wantSet(t, x, 2, 9, "oats", 4)
	wantStored(t, x,
		nodes{
			1: {Kids: kids{0, 0, 1, 0}, Refs: 2}, 2: {Kids: kids{1, 0, 0, 0}, Refs: 1},
			3: {Kids: kids{0, 2, 0, 0}, Refs: 1}, 4: {Kids: kids{1, 0, 3, 0}, Refs: 1},
		},
		blocks{1: {Data: "hay", Refs: 1}, 2: {Data: "oats", Refs: 1}})
	wantSet(t, x, 4, 3, "rye", 6)
	wantSet(t, x, 4, 9, "bran", 8)
	wantStored(t, x,
		nodes{
			1: {Kids: kids{0, 0, 1, 0}, Refs: 3}, 2: {Kids: kids{1, 0, 0, 0}, Refs: 1},
			3: {Kids: kids{0, 2, 0, 0}, Refs: 2}, 4: {Kids: kids{1, 0, 3, 0}, Refs: 1},
			5: {Kids: kids{0, 0, 1, 3}, Refs: 1}, 6: {Kids: kids{5, 0, 3, 0}, Refs: 1},
			7: {Kids: kids{0, 4, 0, 0}, Refs: 1}, 8: {Kids: kids{1, 0, 7, 0}, Refs: 1},
		},
		blocks{1: {Data: "hay", Refs: 2}, 2: {Data: "oats", Refs: 1}, 3: {Data: "rye", Refs: 1}, 4: {Data: "bran", Refs: 1}})
	hay := texts{2: "hay"}
	wantTexts(t, x, 0, texts{})
	wantTexts(t, x, 2, hay)
	wantTexts(t, x, 4, hay.with(9, "oats"))
	wantTexts(t, x, 6, hay.with(9, "oats").with(3, "rye"))
	wantTexts(t, x, 8, hay.with(9, "bran"))
}

func TestEveryPosition(t *testing.T) { // D1, D4, D5
	for at := range api.MaxBlocks {
		x := New()
		root := mustSet(t, x, 0, at, "x")
		wantTexts(t, x, root, texts{}.with(at, "x"))
		wantDiff(t, x, 0, root, []int{at})
		if leaf := x.N[root].Kids[at/4]; x.N[leaf].Kids[at%4] != 1 {
			t.Errorf("position %d: nodes %v", at, x.N)
		}
		for other := range api.MaxBlocks {
			next := mustSet(t, x, root, other, "y")
			wantTexts(t, x, next, texts{}.with(at, "x").with(other, "y"))
			x.Free(next)
		}
	}
}

func TestTexts(t *testing.T) { // D1, D4
	x := New()
	root, want := 0, texts{}
	for at, s := range []string{"123456", "ééé", "\x00\xff\n", " ", "-"} {
		root, want = replace(t, x, root, at, s), want.with(at, s)
		wantTexts(t, x, root, want)
	}
}

// Set stores the same text again: it gets a block, a leaf and a root of its own.
func TestSetOfTheSameText(t *testing.T) { // D4
	x := New()
	wantSet(t, x, 0, 5, "hay", 2)
	wantSet(t, x, 2, 5, "hay", 4)
	wantStored(t, x,
		nodes{
			1: {Kids: kids{0, 1, 0, 0}, Refs: 1}, 2: {Kids: kids{0, 1, 0, 0}, Refs: 1},
			3: {Kids: kids{0, 2, 0, 0}, Refs: 1}, 4: {Kids: kids{0, 3, 0, 0}, Refs: 1},
		},
		blocks{1: {Data: "hay", Refs: 1}, 2: {Data: "hay", Refs: 1}})
	wantDiff(t, x, 2, 4, nil)
}

func TestSetNothingOnNothing(t *testing.T) { // D2, D4
	x := New()
	for at := range api.MaxBlocks {
		wantSet(t, x, 0, at, "", 0)
	}
	wantStored(t, x, nil, nil)
}

func TestSetNothing(t *testing.T) { // D2, D4
	x := New()
	wantSet(t, x, 0, 4, "a", 2)
	wantSet(t, x, 2, 4, "", 0) // the last text
	wantSet(t, x, 2, 6, "b", 4)
	wantSet(t, x, 4, 4, "", 6) // its leaf has another text
	wantSet(t, x, 4, 7, "", 8) // there is no block: a leaf with the same Kids
	wantSet(t, x, 4, 0, "", 9) // there is no leaf: only a root
	wantSet(t, x, 4, 0, "c", 11)
	wantSet(t, x, 11, 0, "", 12) // the leaf is given up, the root is not
	wantStored(t, x,
		nodes{
			1: {Kids: kids{1, 0, 0, 0}, Refs: 1}, 2: {Kids: kids{0, 1, 0, 0}, Refs: 1},
			3: {Kids: kids{1, 0, 2, 0}, Refs: 4}, 4: {Kids: kids{0, 3, 0, 0}, Refs: 1},
			5: {Kids: kids{0, 0, 2, 0}, Refs: 1}, 6: {Kids: kids{0, 5, 0, 0}, Refs: 1},
			7: {Kids: kids{1, 0, 2, 0}, Refs: 1}, 8: {Kids: kids{0, 7, 0, 0}, Refs: 1},
			9:  {Kids: kids{0, 3, 0, 0}, Refs: 1},
			10: {Kids: kids{3, 0, 0, 0}, Refs: 1}, 11: {Kids: kids{10, 3, 0, 0}, Refs: 1},
			12: {Kids: kids{0, 3, 0, 0}, Refs: 1},
		},
		blocks{1: {Data: "a", Refs: 3}, 2: {Data: "b", Refs: 3}, 3: {Data: "c", Refs: 1}})
	wantTexts(t, x, 4, texts{4: "a", 6: "b"})
	wantTexts(t, x, 6, texts{6: "b"})
	wantTexts(t, x, 12, texts{4: "a", 6: "b"})
}

func TestShareAndFree(t *testing.T) { // D2, D3
	x := New()
	wantSet(t, x, 0, 0, "a", 2)
	for range 3 {
		if n := x.Share(2); n != 2 {
			t.Fatalf("Share(2) = %d", n)
		}
	}
	for refs := 4; refs > 0; refs-- {
		wantStored(t, x,
			nodes{1: {Kids: kids{1, 0, 0, 0}, Refs: 1}, 2: {Kids: kids{1, 0, 0, 0}, Refs: refs}},
			blocks{1: {Data: "a", Refs: 1}})
		wantTexts(t, x, 2, texts{"a"})
		x.Free(2)
	}
	wantStored(t, x, nil, nil)
}

func TestTheEmptyRoot(t *testing.T) { // D3
	x := New()
	for range 2 {
		x.Free(0)
		if n := x.Share(0); n != 0 {
			t.Errorf("Share(0) = %d", n)
		}
		wantStored(t, x, nil, nil)
	}
	wantSet(t, x, 0, 0, "a", 2)
	was, blocksWere := maps.Clone(x.N), maps.Clone(x.P.L)
	x.Free(0)
	x.Share(0)
	wantStored(t, x, was, blocksWere)
}

// What another root has in common with one that is freed stays, in whatever
// order they are freed.
func TestFreeKeepsWhatIsShared(t *testing.T) { // D2, D3, W4
	for _, order := range [][]int{{2, 4, 6}, {2, 6, 4}, {4, 2, 6}, {4, 6, 2}, {6, 2, 4}, {6, 4, 2}} {
		x := New()
		has := map[int]texts{2: {0: "a"}, 4: {0: "a", 1: "b"}, 6: {0: "a", 1: "b", 8: "c"}}
		wantSet(t, x, 0, 0, "a", 2)
		wantSet(t, x, 2, 1, "b", 4)
		wantSet(t, x, 4, 8, "c", 6)
		for _, root := range order {
			x.Free(root)
			delete(has, root)
			for other, s := range has {
				wantTexts(t, x, other, s)
			}
			wantCounted(t, x, slices.Collect(maps.Keys(has)))
		}
		wantStored(t, x, nil, nil)
	}
}

func TestFreeOfOneOfTwo(t *testing.T) { // D2, D3
	x := New()
	wantSet(t, x, 0, 0, "a", 2)
	wantSet(t, x, 2, 1, "b", 4)
	x.Free(2) // and leaf 1, but not its block
	wantStored(t, x,
		nodes{3: {Kids: kids{1, 2, 0, 0}, Refs: 1}, 4: {Kids: kids{3, 0, 0, 0}, Refs: 1}},
		blocks{1: {Data: "a", Refs: 1}, 2: {Data: "b", Refs: 1}})
	wantSet(t, x, 4, 15, "c", 2) // leaf 1 and root 2 once more
	x.Free(4)                    // but not leaf 3
	wantStored(t, x,
		nodes{1: {Kids: kids{0, 0, 0, 3}, Refs: 1}, 2: {Kids: kids{3, 0, 0, 1}, Refs: 1}, 3: {Kids: kids{1, 2, 0, 0}, Refs: 1}},
		blocks{1: {Data: "a", Refs: 1}, 2: {Data: "b", Refs: 1}, 3: {Data: "c", Refs: 1}})
	wantSet(t, x, 2, 14, "d", 5) // the leaf takes the gap, the root what follows
}

// fullOfNodes returns an index with many nodes, and its last root, which has
// one text at each of the positions 0, 1 and 4.
func fullOfNodes(t *testing.T, many int) (*Index, int) {
	t.Helper()
	x := New()
	root := mustSet(t, x, mustSet(t, x, mustSet(t, x, 0, 0, "a"), 1, "b"), 4, "c")
	for range (many - len(x.N)) / 2 {
		mustSet(t, x, 0, 9, "x")
	}
	if len(x.N) < many {
		mustSet(t, x, root, 12, "") // only a root
	}
	if len(x.N) != many {
		t.Fatalf("%d nodes, want %d", len(x.N), many)
	}
	return x, root
}

func TestNoRoomForNodes(t *testing.T) { // D2, D4, Z1
	x, root := fullOfNodes(t, api.MaxNodes)
	for _, at := range []int{0, 2, 4, 15} {
		wantSetError(t, x, root, at, "x", api.ErrFull)
		wantSetError(t, x, 0, at, "x", api.ErrFull)
		wantSetError(t, x, root, at, "", api.ErrFull)
		wantSet(t, x, 0, at, "", 0)
	}
	x, root = fullOfNodes(t, api.MaxNodes-1) // for a leaf or a root, not for both
	for _, at := range []int{0, 2, 4, 15} {
		wantSetError(t, x, root, at, "x", api.ErrFull)
		wantSetError(t, x, 0, at, "x", api.ErrFull)
	}
	wantSetError(t, x, root, 0, "", api.ErrFull)
	wantSet(t, x, root, 4, "", api.MaxNodes)
	x, root = fullOfNodes(t, api.MaxNodes-2)
	wantSet(t, x, root, 0, "x", api.MaxNodes)
	wantTexts(t, x, api.MaxNodes, texts{0: "x", 1: "b", 4: "c"})
}

// A root that loses its only text needs no room.
func TestTheLastTextWithoutRoom(t *testing.T) { // D2, D4
	x := New()
	for range api.MaxNodes / 2 {
		mustSet(t, x, 0, 9, "x")
	}
	wantSet(t, x, 2, 9, "", 0)
	wantSetError(t, x, 2, 8, "", api.ErrFull)
}

func TestTextsThatMayNotBe(t *testing.T) { // D4, Z1, Z3
	nodes, _ := fullOfNodes(t, api.MaxNodes)
	blocks, _ := fullOfBlocks(t)
	for _, x := range []*Index{New(), nodes, blocks} {
		for _, s := range []string{"1234567", "éééx", strings.Repeat("x", 10000)} {
			wantSetError(t, x, 0, 0, s, api.ErrShape)
		}
	}
}

// fullOfBlocks returns an index with as many blocks as there may be, and with
// room for nodes, and a root that has a text at every position.
func fullOfBlocks(t *testing.T) (*Index, int) {
	t.Helper()
	x := New()
	var roots []int
	for k := 0; k < api.MaxPool; {
		root := 0
		for at := 0; at < api.MaxBlocks && k < api.MaxPool; at, k = at+1, k+1 {
			root = replace(t, x, root, at, "x")
		}
		roots = append(roots, root)
	}
	if len(x.P.L) != api.MaxPool || len(x.N) > api.MaxNodes-2 {
		t.Fatalf("%d blocks, %d nodes", len(x.P.L), len(x.N))
	}
	return x, roots[0]
}

func TestNoRoomForBlocks(t *testing.T) { // D4, Z1
	x, root := fullOfBlocks(t)
	for at := range api.MaxBlocks {
		wantSetError(t, x, root, at, "y", api.ErrFull)
		wantSetError(t, x, 0, at, "y", api.ErrFull)
		wantSet(t, x, 0, at, "", 0)
	}
}

func TestNothingNeedsNoBlock(t *testing.T) { // D4
	x, root := fullOfBlocks(t)
	for at := range api.MaxBlocks {
		next := mustSet(t, x, root, at, "")
		wantDiff(t, x, root, next, []int{at})
		x.Free(next)
	}
}

func TestDiff(t *testing.T) { // D5
	x := New()
	a := mustSet(t, x, mustSet(t, x, 0, 0, "a"), 15, "z")
	b := mustSet(t, x, mustSet(t, x, 0, 15, "z"), 0, "a") // the same texts, and nothing shared
	c := mustSet(t, x, mustSet(t, x, a, 7, "m"), 15, "")
	d := mustSet(t, x, c, 0, "A")
	for _, same := range [][2]int{{0, 0}, {a, a}, {a, b}, {d, d}} {
		wantDiff(t, x, same[0], same[1], nil)
	}
	wantDiff(t, x, 0, a, []int{0, 15})
	wantDiff(t, x, b, c, []int{7, 15})
	wantDiff(t, x, a, d, []int{0, 7, 15})
	wantDiff(t, x, c, d, []int{0})
	wantDiff(t, x, d, 0, []int{0, 7})
	l := x.Diff(0, a)
	clear(l)
	wantDiff(t, x, 0, a, []int{0, 15})
}

func TestDiffEverywhere(t *testing.T) { // D5
	x := New()
	root := 0
	var all []int
	for at := range api.MaxBlocks {
		all = append(all, at)
		root = replace(t, x, root, at, "x")
		wantDiff(t, x, 0, root, all)
	}
}

func TestCopy(t *testing.T) { // D1, Z2
	wantStored(t, New().Copy(), nil, nil)
	x := New()
	wantSet(t, x, 0, 2, "hay", 2)
	y := x.Copy()
	n := nodes{1: {Kids: kids{0, 0, 1, 0}, Refs: 1}, 2: {Kids: kids{1, 0, 0, 0}, Refs: 1}}
	b := blocks{1: {Data: "hay", Refs: 1}}
	wantStored(t, y, n, b)
	wantSet(t, x, 2, 3, "oats", 4)
	x.Share(2)
	wantStored(t, y, n, b)
	was, blocksWere := maps.Clone(x.N), maps.Clone(x.P.L)
	wantSet(t, y, 2, 2, "rye", 4)
	wantTexts(t, x, 4, texts{2: "hay", 3: "oats"})
	wantTexts(t, y, 4, texts{2: "rye"})
	y.Free(4)
	y.Free(2)
	wantStored(t, y, nil, nil)
	wantStored(t, x, was, blocksWere)
}

func TestNumbersAreNew(t *testing.T) { // Z2
	x, _ := fullOfNodes(t, api.MaxNodes)
	a, b := x.Numbers(), x.Numbers()
	clear(a)
	if l := x.Numbers(); !slices.Equal(l, b) || b[0] != 1 || b[23] != 24 {
		t.Errorf("Numbers() = %v, then %v", b, l)
	}
}

func TestIndexesAreSeparate(t *testing.T) { // Z2
	x, y := New(), New()
	wantSet(t, x, 0, 0, "x", 2)
	wantStored(t, y, nil, nil)
	wantSet(t, y, 0, 0, "y", 2)
	wantTexts(t, x, 2, texts{"x"})
}

// Nothing is said of other roots and positions, but every call returns.
func TestAnyRootAndPosition(t *testing.T) { // Z1
	numbers := []int{math.MinInt, -17, -4, -1, 0, 1, 2, 3, 15, 16, 17, 64, math.MaxInt}
	for _, root := range numbers {
		for _, at := range numbers {
			x := New()
			mustSet(t, x, 0, 2, "hay")
			x.Get(root, at)
			x.Set(root, at, "x")
			x.Set(root, at, "")
			x.Diff(root, at)
			x.Share(root)
			x.Free(root)
			x.Free(root)
			x.Free(at)
			x.Numbers()
		}
	}
}

// wantCounted counts the references to all nodes and blocks, where each of the
// roots is one, and compares them with what is stored.
func wantCounted(t *testing.T, x *Index, roots []int) {
	t.Helper()
	all, leaves, stored := map[int]int{}, map[int]int{}, map[int]int{}
	for _, root := range roots {
		if root == 0 {
			continue
		}
		all[root]++
		if all[root] == 1 {
			countKids(x.N[root], leaves)
		}
	}
	for leaf, refs := range leaves {
		if all[leaf] > 0 {
			t.Fatalf("node %d is a root and a leaf", leaf)
		}
		all[leaf] = refs
		countKids(x.N[leaf], stored)
	}
	for id, n := range x.N {
		if n.Refs != all[id] || n.Kids == (kids{}) {
			t.Fatalf("node %d = %v, %d references, roots %v", id, n, all[id], roots)
		}
	}
	for id, b := range x.P.L {
		if b.Refs != stored[id] {
			t.Fatalf("block %d = %v, %d references", id, b, stored[id])
		}
	}
	if len(x.N) != len(all) || len(x.P.L) != len(stored) {
		t.Fatalf("%d nodes and %d blocks, references to %d and %d", len(x.N), len(x.P.L), len(all), len(stored))
	}
}

func countKids(n api.Node, counts map[int]int) {
	for _, kid := range n.Kids {
		if kid != 0 {
			counts[kid]++
		}
	}
}

// dice is a fixed sequence of numbers, the same in each run.
type dice uint64

func (r *dice) roll(n int) int {
	*r = *r*6364136223846793005 + 1442695040888963407
	return int(uint64(*r) >> 33 % uint64(n))
}

// held is a root that is still to be freed once, and what it has.
type held struct {
	root int
	has  texts
}

// need returns how many nodes Set must create, and thus which root it returns.
func need(x *Index, s texts, at int) (many, root int) {
	from := at - at%api.Fan
	if slices.Max(s[from:from+api.Fan]) != "" {
		many++
	}
	if slices.Max(s[:]) != "" {
		many++
	}
	missing := many
	for n := 1; missing > 0; n++ {
		if _, used := x.N[n]; !used {
			missing--
			root = n
		}
	}
	return many, root
}

// set does one Set, of which it knows the result.
func set(t *testing.T, x *Index, h held, at int, data string) (held, bool) {
	t.Helper()
	made := held{has: h.has.with(at, data)}
	many, root := need(x, made.has, at)
	if len(x.N)+many > api.MaxNodes || data != "" && len(x.P.L) == api.MaxPool {
		wantSetError(t, x, h.root, at, data, api.ErrFull)
		return held{}, false
	}
	made.root = root
	wantSet(t, x, h.root, at, data, root)
	return made, true
}

// check compares all that is held with the index.
func check(t *testing.T, x *Index, l []held) {
	t.Helper()
	var roots []int
	for _, h := range l {
		roots = append(roots, h.root)
		wantTexts(t, x, h.root, h.has)
	}
	wantCounted(t, x, roots)
}

func wantDiffOf(t *testing.T, x *Index, a, b held) {
	t.Helper()
	var want []int
	for at := range api.MaxBlocks {
		if a.has[at] != b.has[at] {
			want = append(want, at)
		}
	}
	wantDiff(t, x, a.root, b.root, want)
}

// step does one thing to an index of which some roots are held. Large hands
// replace a root by the new one more often, so that roots get more texts.
func step(t *testing.T, x *Index, l []held, r *dice, large bool) []held {
	t.Helper()
	h := held{}
	k := r.roll(len(l)+1) - 1
	if k >= 0 {
		h = l[k]
	}
	switch r.roll(8) {
	case 0:
		x.Share(h.root)
		return append(l, h)
	case 1:
		x.Free(h.root)
		if k >= 0 {
			return slices.Delete(l, k, k+1)
		}
		return l
	}
	made, ok := set(t, x, h, r.roll(api.MaxBlocks), []string{"", "a", "b", "hay", "123456"}[r.roll(5)])
	if !ok {
		return l
	}
	if k >= 0 && (large || r.roll(2) == 0) {
		x.Free(h.root)
		l[k] = made
		return l
	}
	return append(l, made)
}

func TestLongHistories(t *testing.T) { // D1 to D5, W4
	for seed := range 60 {
		r := dice(seed)
		x := New()
		var l []held
		for range 400 {
			l = step(t, x, l, &r, seed%2 == 0)
			check(t, x, l)
			if len(l) > 0 {
				wantDiffOf(t, x, l[r.roll(len(l))], l[r.roll(len(l))])
			}
		}
		for len(l) > 0 {
			k := r.roll(len(l))
			x.Free(l[k].root)
			l = slices.Delete(l, k, k+1)
			check(t, x, l)
		}
		wantStored(t, x, nil, nil)
	}
}
