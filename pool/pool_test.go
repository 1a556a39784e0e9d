package pool

import (
	"maps"
	"math"
	"slices"
	"strings"
	"testing"

	"counterfoil/api"
)

func wantPut(t *testing.T, p *Pool, data string, id int) {
	t.Helper()
	if n, err := p.Put(data); n != id || err != nil {
		t.Fatalf("Put(%q) = %d, %v, want %d", data, n, err, id)
	}
}

func wantRef(t *testing.T, p *Pool, ids ...int) {
	t.Helper()
	for _, id := range ids {
		if err := p.Ref(id); err != nil {
			t.Fatalf("Ref(%d) = %v", id, err)
		}
	}
}

func wantUnref(t *testing.T, p *Pool, ids ...int) {
	t.Helper()
	for _, id := range ids {
		if err := p.Unref(id); err != nil {
			t.Fatalf("Unref(%d) = %v", id, err)
		}
	}
}

// wantBlocks compares a pool with blocks, by its field and by its methods.
func wantBlocks(t *testing.T, p *Pool, want map[int]api.Block) {
	t.Helper()
	if !maps.Equal(p.L, want) {
		t.Fatalf("blocks %v, want %v", p.L, want)
	}
	if l := p.Numbers(); !slices.Equal(l, slices.Sorted(maps.Keys(want))) {
		t.Fatalf("Numbers() = %v, want those of %v", l, want)
	}
	for id, b := range want {
		if s, err := p.Get(id); s != b.Data || err != nil {
			t.Fatalf("Get(%d) = %q, %v, want %q", id, s, err, b.Data)
		}
	}
}

// full returns a pool with as many blocks as there may be.
func full(t *testing.T) *Pool {
	t.Helper()
	p := New()
	for id := 1; id <= api.MaxPool; id++ {
		wantPut(t, p, "x", id)
	}
	return p
}

func TestNewIsEmpty(t *testing.T) { // C1
	p := New()
	wantBlocks(t, p, nil)
	wantPut(t, p, "hay", 1)
	wantBlocks(t, p, map[int]api.Block{1: {Data: "hay", Refs: 1}})
	wantBlocks(t, New(), nil)
}

func TestPutTexts(t *testing.T) { // C1
	p := New()
	want := map[int]api.Block{}
	for k, s := range []string{"a", "123456", "ééé", "\x00\xff\n", " ", "a", "a"} {
		wantPut(t, p, s, k+1)
		want[k+1] = api.Block{Data: s, Refs: 1}
		wantBlocks(t, p, want)
	}
}

func TestPutTakesTheLowestNumber(t *testing.T) { // C1
	p := New()
	for id := 1; id <= 6; id++ {
		wantPut(t, p, "old", id)
	}
	wantUnref(t, p, 5, 2, 4)
	wantPut(t, p, "a", 2)
	wantPut(t, p, "b", 4)
	wantUnref(t, p, 1)
	wantPut(t, p, "c", 1)
	wantPut(t, p, "d", 5)
	wantPut(t, p, "e", 7)
	wantBlocks(t, p, map[int]api.Block{
		1: {Data: "c", Refs: 1}, 2: {Data: "a", Refs: 1}, 3: {Data: "old", Refs: 1}, 4: {Data: "b", Refs: 1},
		5: {Data: "d", Refs: 1}, 6: {Data: "old", Refs: 1}, 7: {Data: "e", Refs: 1},
	})
}

// A block that was referred to more than once before leaves no references to
// the one that takes its number.
func TestPutAfterManyRefs(t *testing.T) { // C1, C2
	p := New()
	wantPut(t, p, "a", 1)
	wantRef(t, p, 1, 1)
	wantUnref(t, p, 1, 1, 1)
	wantPut(t, p, "b", 1)
	wantBlocks(t, p, map[int]api.Block{1: {Data: "b", Refs: 1}})
}

func TestPutErrors(t *testing.T) { // C1, Z1, Z3
	some := New()
	wantPut(t, some, "hay", 1)
	for _, p := range []*Pool{New(), some, full(t)} {
		was := maps.Clone(p.L)
		for _, s := range []string{"", "1234567", "éééx", strings.Repeat("x", 10000)} {
			if n, err := p.Put(s); n != 0 || err != api.ErrShape {
				t.Errorf("Put(%q) with %d blocks = %d, %v", s, len(was), n, err)
			}
		}
		wantBlocks(t, p, was)
	}
}

func TestFullPool(t *testing.T) { // C1, Z1
	p := full(t)
	was := maps.Clone(p.L)
	for _, s := range []string{"x", "123456"} {
		if n, err := p.Put(s); n != 0 || err != api.ErrFull {
			t.Errorf("Put(%q) = %d, %v", s, n, err)
		}
	}
	wantBlocks(t, p, was)
	wantUnref(t, p, 17)
	wantPut(t, p, "y", 17)
	if n, err := p.Put("z"); n != 0 || err != api.ErrFull {
		t.Errorf("Put when it is full again = %d, %v", n, err)
	}
}

func TestRefs(t *testing.T) { // C2
	p := New()
	wantPut(t, p, "a", 1)
	wantPut(t, p, "b", 2)
	wantRef(t, p, 1, 1, 2)
	wantBlocks(t, p, map[int]api.Block{1: {Data: "a", Refs: 3}, 2: {Data: "b", Refs: 2}})
	wantUnref(t, p, 1)
	wantBlocks(t, p, map[int]api.Block{1: {Data: "a", Refs: 2}, 2: {Data: "b", Refs: 2}})
	wantUnref(t, p, 1, 2)
	wantBlocks(t, p, map[int]api.Block{1: {Data: "a", Refs: 1}, 2: {Data: "b", Refs: 1}})
	wantUnref(t, p, 1)
	wantBlocks(t, p, map[int]api.Block{2: {Data: "b", Refs: 1}})
	wantUnref(t, p, 2)
	wantBlocks(t, p, nil)
}

// There may be more references than anything else that is limited.
func TestManyRefs(t *testing.T) { // C2
	p := New()
	wantPut(t, p, "a", 1)
	for range 5000 {
		wantRef(t, p, 1)
	}
	wantBlocks(t, p, map[int]api.Block{1: {Data: "a", Refs: 5001}})
	for range 5001 {
		wantUnref(t, p, 1)
	}
	wantBlocks(t, p, nil)
}

func TestNoSuchBlock(t *testing.T) { // C1, C2, Z1
	some := New()
	wantPut(t, some, "a", 1)
	wantPut(t, some, "b", 2)
	wantPut(t, some, "c", 3)
	wantUnref(t, some, 2)
	for _, p := range []*Pool{New(), some, full(t)} {
		was := maps.Clone(p.L)
		for _, id := range []int{math.MinInt, -1, 0, 2, 4, 41, math.MaxInt} {
			if _, ok := was[id]; ok {
				continue
			}
			if s, err := p.Get(id); s != "" || err != api.ErrNone {
				t.Errorf("Get(%d) = %q, %v", id, s, err)
			}
			if err := p.Ref(id); err != api.ErrNone {
				t.Errorf("Ref(%d) = %v", id, err)
			}
			if err := p.Unref(id); err != api.ErrNone {
				t.Errorf("Unref(%d) = %v", id, err)
			}
		}
		wantBlocks(t, p, was)
	}
}

func TestCopy(t *testing.T) { // C1, Z2
	wantBlocks(t, New().Copy(), nil)
	p := New()
	wantPut(t, p, "a", 1)
	wantPut(t, p, "b", 2)
	wantPut(t, p, "c", 3)
	wantRef(t, p, 3)
	q := p.Copy()
	wantBlocks(t, q, map[int]api.Block{1: {Data: "a", Refs: 1}, 2: {Data: "b", Refs: 1}, 3: {Data: "c", Refs: 2}})
	wantUnref(t, p, 1)
	wantRef(t, p, 2)
	wantPut(t, q, "d", 4)
	wantUnref(t, q, 3)
	wantBlocks(t, p, map[int]api.Block{2: {Data: "b", Refs: 2}, 3: {Data: "c", Refs: 2}})
	wantBlocks(t, q, map[int]api.Block{1: {Data: "a", Refs: 1}, 2: {Data: "b", Refs: 1}, 3: {Data: "c", Refs: 1}, 4: {Data: "d", Refs: 1}})
}

// What is added first to an empty pool and to its copy stays apart, too.
func TestCopyOfAnEmptyPool(t *testing.T) { // C1, Z2
	p := New()
	q := p.Copy()
	wantPut(t, q, "q", 1)
	wantBlocks(t, p, nil)
	wantPut(t, p, "p", 1)
	wantBlocks(t, q, map[int]api.Block{1: {Data: "q", Refs: 1}})
}

func TestNumbersAreNew(t *testing.T) { // Z2
	p := full(t)
	a, b := p.Numbers(), p.Numbers()
	clear(a)
	if l := p.Numbers(); !slices.Equal(l, b) || b[0] != 1 || b[39] != 40 {
		t.Errorf("Numbers() = %v, then %v", b, l)
	}
}

// dice is a fixed sequence of numbers, the same in each run.
type dice uint64

func (r *dice) roll(n int) int {
	*r = *r*6364136223846793005 + 1442695040888963407
	return int(uint64(*r) >> 33 % uint64(n))
}

// model has its blocks in a list, from number 1 on; those with Refs 0 are not there.
type model [api.MaxPool]api.Block

func (m *model) put(data string) (int, error) {
	if len(data) < 1 || len(data) > api.MaxData {
		return 0, api.ErrShape
	}
	for k, b := range m {
		if b.Refs == 0 {
			m[k] = api.Block{Data: data, Refs: 1}
			return k + 1, nil
		}
	}
	return 0, api.ErrFull
}

func (m *model) count(id, more int) error {
	if id < 1 || id > len(m) || m[id-1].Refs == 0 {
		return api.ErrNone
	}
	m[id-1].Refs += more
	return nil
}

func (m *model) blocks() map[int]api.Block {
	l := map[int]api.Block{}
	for k, b := range m {
		if b.Refs > 0 {
			l[k+1] = b
		}
	}
	return l
}

// step does the same to the pool and to the model; odds out of ten are the
// chances of a reference less.
func (m *model) step(t *testing.T, p *Pool, r *dice, odds int) {
	t.Helper()
	id := r.roll(api.MaxPool+3) - 1
	var got, want error
	switch {
	case r.roll(10) < odds:
		got, want = p.Unref(id), m.count(id, -1)
	case r.roll(3) == 0:
		got, want = p.Ref(id), m.count(id, 1)
	default:
		data := "abcdefgh"[:r.roll(8)]
		n, err := p.Put(data)
		k, fail := m.put(data)
		if n != k {
			t.Fatalf("Put(%q) = %d, want %d", data, n, k)
		}
		got, want = err, fail
	}
	if got != want {
		t.Fatalf("error %v, want %v", got, want)
	}
	wantBlocks(t, p, m.blocks())
}

func TestLongHistories(t *testing.T) { // C1, C2
	for seed := range 30 {
		r := dice(seed)
		p, m := New(), &model{}
		for k := range 600 {
			m.step(t, p, &r, 2+k/200*3)
		}
	}
}
