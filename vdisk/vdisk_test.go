package vdisk

import (
	"math"
	"slices"
	"strings"
	"testing"

	"counterfoil/api"
	"counterfoil/area"
)

func newDisk(t *testing.T, size int) *Disk {
	t.Helper()
	d, err := New(size)
	if err != nil || d == nil {
		t.Fatalf("New(%d) = %v, %v", size, d, err)
	}
	return d
}

func wantWrite(t *testing.T, d *Disk, at int, data string) {
	t.Helper()
	if err := d.Write(at, data); err != nil {
		t.Fatalf("Write(%d, %q) = %v", at, data, err)
	}
}

func wantResize(t *testing.T, d *Disk, size int) {
	t.Helper()
	if err := d.Resize(size); err != nil || d.Size() != size {
		t.Fatalf("Resize(%d) = %v, size %d", size, err, d.Size())
	}
}

func wantSnap(t *testing.T, d *Disk, id int) {
	t.Helper()
	if n, err := d.Snap(); n != id || err != nil {
		t.Fatalf("Snap() = %d, %v, want %d", n, err, id)
	}
}

func wantDrop(t *testing.T, d *Disk, id int) {
	t.Helper()
	if err := d.Drop(id); err != nil {
		t.Fatalf("Drop(%d) = %v", id, err)
	}
}

// wantChanged compares Changed, in both orders, with areas or an error.
func wantChanged(t *testing.T, d *Disk, a, b int, want []api.Area, fail error) {
	t.Helper()
	for _, x := range [][2]int{{a, b}, {b, a}} {
		l, err := d.Changed(x[0], x[1])
		if !slices.Equal(l, want) || err != fail {
			t.Fatalf("Changed(%d, %d) = %v, %v, want %v, %v", x[0], x[1], l, err, want, fail)
		}
	}
}

// wantTexts compares all blocks of a snapshot with words, where - is empty.
func wantTexts(t *testing.T, d *Disk, id int, words string) {
	t.Helper()
	var got []string
	size, err := d.SizeOf(id)
	if err != nil {
		t.Fatalf("SizeOf(%d) = %v", id, err)
	}
	for at := range size {
		s, n, err := d.Read(id, at)
		if err != nil || n != size {
			t.Fatalf("Read(%d, %d) = %q, %d, %v, want size %d", id, at, s, n, err, size)
		}
		if s == "" {
			s = "-"
		}
		got = append(got, s)
	}
	if !slices.Equal(got, strings.Fields(words)) {
		t.Fatalf("snapshot %d: %v, want %s", id, got, words)
	}
}

func TestNewSizes(t *testing.T) { // B1
	for _, size := range []int{math.MinInt, -1, 0, 17, 18, math.MaxInt} {
		if d, err := New(size); d != nil || err != api.ErrBound {
			t.Errorf("New(%d) = %v, %v", size, d, err)
		}
	}
	for size := 1; size <= api.MaxBlocks; size++ {
		d := newDisk(t, size)
		if d.Size() != size || len(d.Snaps()) != 0 {
			t.Errorf("New(%d): size %d, snapshots %v", size, d.Size(), d.Snaps())
		}
		wantSnap(t, d, 1)
		wantTexts(t, d, 1, strings.Repeat("- ", size))
	}
}

func TestWriteErrors(t *testing.T) { // B2, Z1, Z3
	d := newDisk(t, 3)
	wantSnap(t, d, 1)
	for _, x := range []struct {
		at   int
		data string
		want error
	}{
		{math.MinInt, "x", api.ErrBound}, {-1, "x", api.ErrBound}, {3, "x", api.ErrBound}, {16, "x", api.ErrBound}, {math.MaxInt, "x", api.ErrBound},
		{0, "1234567", api.ErrMany}, {2, strings.Repeat("x", 1000), api.ErrMany}, {1, "éééx", api.ErrMany},
		{3, "1234567", api.ErrBound}, {-1, "1234567", api.ErrBound},
	} {
		if err := d.Write(x.at, x.data); err != x.want {
			t.Errorf("Write(%d, %q) = %v, want %v", x.at, x.data, err, x.want)
		}
	}
	wantSnap(t, d, 2)
	wantTexts(t, d, 2, "- - -")
	wantChanged(t, d, 1, 2, nil, nil)
}

func TestWriteReplaces(t *testing.T) { // B2, B4
	d := newDisk(t, 3)
	wantWrite(t, d, 0, "a")
	wantWrite(t, d, 0, "123456")
	wantWrite(t, d, 1, "ééé")
	wantWrite(t, d, 2, "\x00\xff\n")
	wantSnap(t, d, 1)
	wantWrite(t, d, 0, "")
	wantWrite(t, d, 2, "z")
	wantSnap(t, d, 2)
	for at, want := range []string{"123456", "ééé", "\x00\xff\n"} {
		if s, n, err := d.Read(1, at); s != want || n != 3 || err != nil {
			t.Errorf("Read(1, %d) = %q, %d, %v, want %q", at, s, n, err, want)
		}
	}
	wantTexts(t, d, 2, "- ééé z")
	wantChanged(t, d, 1, 2, []api.Area{{From: 0, Many: 1}, {From: 2, Many: 1}}, nil)
}

func TestWriteOfTheSameTextTouches(t *testing.T) { // B2, B5
	d := newDisk(t, 8)
	wantWrite(t, d, 2, "hay")
	wantSnap(t, d, 1)
	wantWrite(t, d, 2, "hay")
	wantWrite(t, d, 4, "")
	wantSnap(t, d, 2)
	wantChanged(t, d, 1, 2, []api.Area{{From: 2, Many: 1}, {From: 4, Many: 1}}, nil)
}

func TestResizeErrors(t *testing.T) { // B2, Z1
	d := newDisk(t, 8)
	wantWrite(t, d, 7, "x")
	wantSnap(t, d, 1)
	for _, size := range []int{math.MinInt, -1, 0, 17, math.MaxInt} {
		if err := d.Resize(size); err != api.ErrBound || d.Size() != 8 {
			t.Errorf("Resize(%d) = %v, size %d", size, err, d.Size())
		}
	}
	wantResize(t, d, 8)
	wantSnap(t, d, 2)
	wantTexts(t, d, 2, "- - - - - - - x")
	wantChanged(t, d, 1, 2, nil, nil)
}

func TestResizeTouches(t *testing.T) { // B2, B5, W2
	d := newDisk(t, 4)
	for at := range 4 {
		wantWrite(t, d, at, "old")
	}
	wantSnap(t, d, 1)
	wantResize(t, d, 2)
	wantSnap(t, d, 2)
	wantResize(t, d, 5)
	wantSnap(t, d, 3)
	wantTexts(t, d, 1, "old old old old")
	wantTexts(t, d, 2, "old old")
	wantTexts(t, d, 3, "old old - - -")
	wantChanged(t, d, 1, 2, []api.Area{{From: 2, Many: 2}}, nil)
	wantChanged(t, d, 2, 3, []api.Area{{From: 2, Many: 3}}, nil)
	wantChanged(t, d, 1, 3, []api.Area{{From: 2, Many: 3}}, nil)
	if err := d.Write(5, "x"); err != api.ErrBound {
		t.Errorf("Write behind the end = %v", err)
	}
}

// Blocks that neither snapshot has, because they were added and removed in between, were touched all the same.
func TestResizeThereAndBack(t *testing.T) { // B2, B5
	d := newDisk(t, 3)
	wantSnap(t, d, 1)
	wantResize(t, d, 16)
	wantWrite(t, d, 15, "x")
	wantResize(t, d, 1)
	wantResize(t, d, 3)
	wantSnap(t, d, 2)
	wantTexts(t, d, 2, "- - -")
	wantChanged(t, d, 1, 2, []api.Area{{From: 1, Many: 15}}, nil)
	wantResize(t, d, 16)
	wantSnap(t, d, 3)
	wantTexts(t, d, 3, strings.Repeat("- ", 16))
}

func TestSnapNumbers(t *testing.T) { // B3
	d := newDisk(t, 2)
	for id := 1; id <= api.MaxSnaps; id++ {
		wantSnap(t, d, id)
	}
	for range 2 {
		if n, err := d.Snap(); n != 0 || err != api.ErrFull {
			t.Fatalf("Snap() = %d, %v", n, err)
		}
	}
	if l := d.Snaps(); !slices.Equal(l, []int{1, 2, 3, 4, 5}) {
		t.Errorf("Snaps() = %v", l)
	}
	wantDrop(t, d, 5)
	wantDrop(t, d, 2)
	wantSnap(t, d, 6)
	wantSnap(t, d, 7)
	if l := d.Snaps(); !slices.Equal(l, []int{1, 3, 4, 6, 7}) {
		t.Errorf("Snaps() = %v", l)
	}
}

func TestLastSnapNumber(t *testing.T) { // B3
	d := newDisk(t, 2)
	for id := 1; id <= api.MaxID; id++ {
		wantSnap(t, d, id)
		if id < api.MaxID {
			wantDrop(t, d, id)
		}
	}
	if n, err := d.Snap(); n != 0 || err != api.ErrFull {
		t.Errorf("Snap() = %d, %v", n, err)
	}
	if l := d.Snaps(); !slices.Equal(l, []int{api.MaxID}) {
		t.Errorf("Snaps() = %v", l)
	}
	wantDrop(t, d, api.MaxID)
	if n, err := d.Snap(); n != 0 || err != api.ErrFull {
		t.Errorf("Snap() without snapshots = %d, %v", n, err)
	}
}

func TestDropErrors(t *testing.T) { // B3, Z1
	d := newDisk(t, 2)
	wantSnap(t, d, 1)
	wantSnap(t, d, 2)
	wantDrop(t, d, 1)
	for _, id := range []int{math.MinInt, -1, 0, 1, 3, math.MaxInt} {
		if err := d.Drop(id); err != api.ErrNone {
			t.Errorf("Drop(%d) = %v", id, err)
		}
	}
	if l := d.Snaps(); !slices.Equal(l, []int{2}) {
		t.Errorf("Snaps() = %v", l)
	}
}

func TestReadErrors(t *testing.T) { // B4, Z1, Z3
	d := newDisk(t, 3)
	wantWrite(t, d, 0, "x")
	wantSnap(t, d, 1)
	wantResize(t, d, 9)
	wantSnap(t, d, 2)
	wantDrop(t, d, 2)
	for _, x := range []struct {
		id, at int
		want   error
	}{
		{0, 0, api.ErrNone}, {-1, 0, api.ErrNone}, {2, 0, api.ErrNone}, {3, 0, api.ErrNone}, {math.MinInt, 0, api.ErrNone}, {math.MaxInt, 0, api.ErrNone},
		{1, -1, api.ErrBound}, {1, 3, api.ErrBound}, {1, 8, api.ErrBound}, {1, math.MinInt, api.ErrBound}, {1, math.MaxInt, api.ErrBound},
		{2, -1, api.ErrNone}, {0, 99, api.ErrNone},
	} {
		if s, n, err := d.Read(x.id, x.at); s != "" || n != 0 || err != x.want {
			t.Errorf("Read(%d, %d) = %q, %d, %v, want %v", x.id, x.at, s, n, err, x.want)
		}
	}
	for _, id := range []int{math.MinInt, -1, 0, 2, 3, math.MaxInt} {
		if n, err := d.SizeOf(id); n != 0 || err != api.ErrNone {
			t.Errorf("SizeOf(%d) = %d, %v", id, n, err)
		}
	}
	if n, err := d.SizeOf(1); n != 3 || err != nil {
		t.Errorf("SizeOf(1) = %d, %v", n, err)
	}
}

func TestSnapshotsStay(t *testing.T) { // B3, B4
	d := newDisk(t, 4)
	wantWrite(t, d, 1, "one")
	wantSnap(t, d, 1)
	wantWrite(t, d, 1, "two")
	wantWrite(t, d, 3, "end")
	wantSnap(t, d, 2)
	wantResize(t, d, 2)
	wantSnap(t, d, 3)
	wantResize(t, d, 6)
	wantDrop(t, d, 2)
	d.Forget()
	wantTexts(t, d, 1, "- one - -")
	wantTexts(t, d, 3, "- two")
}

func TestForget(t *testing.T) { // B4, B5, W2
	d := newDisk(t, 8)
	d.Forget()
	wantSnap(t, d, 1)
	wantWrite(t, d, 1, "a")
	wantSnap(t, d, 2)
	wantWrite(t, d, 2, "b")
	d.Forget()
	wantWrite(t, d, 3, "c")
	wantSnap(t, d, 3)
	wantWrite(t, d, 4, "d")
	wantSnap(t, d, 4)
	wantChanged(t, d, 1, 2, []api.Area{{From: 1, Many: 1}}, nil)
	wantChanged(t, d, 3, 4, []api.Area{{From: 4, Many: 1}}, nil)
	wantChanged(t, d, 1, 1, nil, nil)
	wantChanged(t, d, 2, 2, nil, nil)
	for _, x := range [][2]int{{2, 3}, {1, 3}, {2, 4}, {1, 4}} {
		wantChanged(t, d, x[0], x[1], nil, api.ErrStale)
	}
	d.Forget()
	wantChanged(t, d, 3, 4, []api.Area{{From: 4, Many: 1}}, nil)
}

// Forget is not forgotten together with the snapshots around it.
func TestForgetAmongDropped(t *testing.T) { // B4, B5, W2
	d := newDisk(t, 8)
	wantSnap(t, d, 1)
	wantSnap(t, d, 2)
	d.Forget()
	wantSnap(t, d, 3)
	wantSnap(t, d, 4)
	wantDrop(t, d, 2)
	wantDrop(t, d, 3)
	wantChanged(t, d, 1, 4, nil, api.ErrStale)
	wantDrop(t, d, 1)
	wantWrite(t, d, 6, "x")
	wantSnap(t, d, 5)
	wantChanged(t, d, 4, 5, []api.Area{{From: 6, Many: 1}}, nil)
	d.Forget()
	wantDrop(t, d, 5)
	wantSnap(t, d, 6)
	wantChanged(t, d, 4, 6, nil, api.ErrStale)
	wantDrop(t, d, 4)
	wantDrop(t, d, 6)
	wantSnap(t, d, 7)
	wantSnap(t, d, 8)
	wantChanged(t, d, 7, 8, nil, nil)
}

func TestChangedErrors(t *testing.T) { // B5, Z1, Z3
	d := newDisk(t, 8)
	wantSnap(t, d, 1)
	d.Forget()
	wantSnap(t, d, 2)
	wantSnap(t, d, 3)
	wantDrop(t, d, 2)
	for _, id := range []int{math.MinInt, -1, 0, 2, 4, math.MaxInt} {
		wantChanged(t, d, 1, id, nil, api.ErrNone)
		wantChanged(t, d, id, id, nil, api.ErrNone)
	}
	wantChanged(t, d, 1, 3, nil, api.ErrStale)
}

func TestChangedOverDropped(t *testing.T) { // B5, W2
	d := newDisk(t, 8)
	for id := 1; id <= api.MaxSnaps; id++ {
		wantSnap(t, d, id)
		wantWrite(t, d, id, "x")
	}
	wantChanged(t, d, 2, 4, []api.Area{{From: 2, Many: 2}}, nil)
	wantDrop(t, d, 3)
	wantChanged(t, d, 2, 4, []api.Area{{From: 2, Many: 2}}, nil)
	wantDrop(t, d, 4)
	wantChanged(t, d, 1, 2, []api.Area{{From: 1, Many: 1}}, nil)
	wantChanged(t, d, 1, 5, []api.Area{{From: 1, Many: 4}}, nil)
	wantDrop(t, d, 1)
	wantChanged(t, d, 2, 5, []api.Area{{From: 2, Many: 3}}, nil)
	wantDrop(t, d, 5)
	wantSnap(t, d, 6)
	wantChanged(t, d, 2, 6, []api.Area{{From: 2, Many: 4}}, nil)
}

func TestExampleSession(t *testing.T) { // the tracked disk in the document's example
	d := newDisk(t, 8)
	wantWrite(t, d, 2, "hay")
	wantWrite(t, d, 5, "oats")
	wantSnap(t, d, 1)
	wantTexts(t, d, 1, "- - hay - - oats - -")
	wantWrite(t, d, 5, "bran")
	wantResize(t, d, 12)
	wantWrite(t, d, 9, "peas")
	wantSnap(t, d, 2)
	wantChanged(t, d, 1, 2, []api.Area{{From: 5, Many: 1}, {From: 8, Many: 4}}, nil)
	wantTexts(t, d, 2, "- - hay - - bran - - - peas - -")
	wantDrop(t, d, 1)
	wantChanged(t, d, 1, 2, nil, api.ErrNone)
	wantWrite(t, d, 2, "")
	wantSnap(t, d, 3)
	d.Forget()
	wantWrite(t, d, 0, "rye")
	wantSnap(t, d, 4)
	wantChanged(t, d, 2, 3, []api.Area{{From: 2, Many: 1}}, nil)
	wantChanged(t, d, 3, 4, nil, api.ErrStale)
	wantTexts(t, d, 4, "rye - - - - bran - - - peas - -")
}

func TestResultsAreNew(t *testing.T) { // Z2
	d := newDisk(t, 8)
	wantSnap(t, d, 1)
	wantWrite(t, d, 2, "x")
	wantSnap(t, d, 2)
	a, _ := d.Changed(1, 2)
	b, _ := d.Changed(2, 1)
	clear(a)
	if !slices.Equal(b, []api.Area{{From: 2, Many: 1}}) {
		t.Errorf("results of Changed share memory: %v", b)
	}
	wantChanged(t, d, 1, 2, b, nil)
	m, n := d.Snaps(), d.Snaps()
	clear(m)
	if l := d.Snaps(); !slices.Equal(n, []int{1, 2}) || !slices.Equal(l, n) {
		t.Errorf("results of Snaps share memory: %v, %v", n, l)
	}
}

func TestDisksAreSeparate(t *testing.T) { // Z2
	a, b := newDisk(t, 3), newDisk(t, 3)
	wantSnap(t, a, 1)
	wantSnap(t, b, 1)
	wantWrite(t, a, 1, "x")
	wantResize(t, a, 5)
	a.Forget()
	wantSnap(t, a, 2)
	wantSnap(t, b, 2)
	wantTexts(t, b, 2, "- - -")
	wantChanged(t, b, 1, 2, nil, nil)
}

// model keeps all that ever happened to a disk, and answers from this alone.
type model struct {
	texts   []string
	last    int
	snaps   []moment
	touches [][]int // by time; a nil element stands for Forget
}

type moment struct {
	id, time int
	texts    []string
}

func (m *model) touch(blocks ...int) { m.touches = append(m.touches, blocks) }

func (m *model) write(at int, data string) error {
	switch {
	case at < 0 || at >= len(m.texts):
		return api.ErrBound
	case len(data) > 6:
		return api.ErrMany
	}
	m.texts[at] = data
	m.touch(at)
	return nil
}

func (m *model) resize(size int) error {
	if size < 1 || size > 16 {
		return api.ErrBound
	}
	for len(m.texts) < size {
		m.touch(len(m.texts))
		m.texts = append(m.texts, "")
	}
	for len(m.texts) > size {
		m.texts = m.texts[:len(m.texts)-1]
		m.touch(len(m.texts))
	}
	return nil
}

func (m *model) snap() (int, error) {
	if len(m.snaps) == 5 || m.last == 999 {
		return 0, api.ErrFull
	}
	m.last++
	m.snaps = append(m.snaps, moment{m.last, len(m.touches), slices.Clone(m.texts)})
	return m.last, nil
}

func (m *model) drop(id int) error {
	for k, s := range m.snaps {
		if s.id == id {
			m.snaps = slices.Delete(m.snaps, k, k+1)
			return nil
		}
	}
	return api.ErrNone
}

// changed returns the blocks that were touched between two moments, and
// whether nothing was forgotten.
func (m *model) changed(a, b moment) (map[int]bool, bool) {
	blocks := map[int]bool{}
	for _, l := range m.touches[min(a.time, b.time):max(a.time, b.time)] {
		if l == nil {
			return nil, false
		}
		for _, at := range l {
			blocks[at] = true
		}
	}
	return blocks, true
}

// compare finds everything that can be read from the disk in the model.
func (m *model) compare(t *testing.T, d *Disk) {
	t.Helper()
	var ids []int
	for _, s := range m.snaps {
		ids = append(ids, s.id)
		size, err := d.SizeOf(s.id)
		if size != len(s.texts) || err != nil {
			t.Fatalf("SizeOf(%d) = %d, %v, want %d", s.id, size, err, len(s.texts))
		}
		for at, want := range s.texts {
			if got, n, err := d.Read(s.id, at); got != want || n != size || err != nil {
				t.Fatalf("Read(%d, %d) = %q, %d, %v, want %q", s.id, at, got, n, err, want)
			}
		}
		for _, other := range m.snaps {
			m.compareChanged(t, d, s, other)
		}
	}
	if l := d.Snaps(); !slices.Equal(l, ids) || d.Size() != len(m.texts) {
		t.Fatalf("snapshots %v, size %d, want %v, %d", l, d.Size(), ids, len(m.texts))
	}
}

func (m *model) compareChanged(t *testing.T, d *Disk, a, b moment) {
	t.Helper()
	l, err := d.Changed(a.id, b.id)
	want, known := m.changed(a, b)
	if !known {
		if len(l) != 0 || err != api.ErrStale {
			t.Fatalf("Changed(%d, %d) = %v, %v after Forget", a.id, b.id, l, err)
		}
		return
	}
	if err != nil || area.Check(l) != nil || area.Count(l) != len(want) {
		t.Fatalf("Changed(%d, %d) = %v, %v, want %v", a.id, b.id, l, err, want)
	}
	for at := range want {
		if !area.Has(l, at) {
			t.Fatalf("Changed(%d, %d) = %v without %d", a.id, b.id, l, at)
		}
	}
	for at := range api.MaxBlocks {
		if blockOf(a, at) != blockOf(b, at) && !area.Has(l, at) {
			t.Fatalf("Changed(%d, %d) = %v, but %d differs", a.id, b.id, l, at)
		}
	}
}

// blockOf tells a missing block from an empty one.
func blockOf(s moment, at int) string {
	if at >= len(s.texts) {
		return "none"
	}
	return "text " + s.texts[at]
}

// dice is a fixed sequence of numbers, the same in each run.
type dice uint64

func (r *dice) roll(n int) int {
	*r = *r*6364136223846793005 + 1442695040888963407
	return int(uint64(*r) >> 33 % uint64(n))
}

// step does the same to the disk and to the model, one time in several with
// an error.
func (m *model) step(t *testing.T, d *Disk, r *dice) {
	t.Helper()
	var got, want error
	switch r.roll(10) {
	case 0, 1, 2, 3:
		at, data := r.roll(20)-2, "abcdefgh"[:r.roll(9)]
		got, want = d.Write(at, data), m.write(at, data)
	case 4:
		size := r.roll(19) - 1
		got, want = d.Resize(size), m.resize(size)
	case 5, 6:
		n, err := d.Snap()
		id, fail := m.snap()
		if n != id {
			t.Fatalf("Snap() = %d, want %d", n, id)
		}
		got, want = err, fail
	case 7, 8:
		id := m.last - r.roll(8) + 1
		got, want = d.Drop(id), m.drop(id)
	default:
		if r.roll(3) == 0 {
			d.Forget()
			m.touches = append(m.touches, nil)
		}
	}
	if got != want {
		t.Fatalf("error %v, want %v", got, want)
	}
}

func TestLongHistories(t *testing.T) { // B1 to B5, W2
	for seed := range 60 {
		r := dice(seed)
		size := 1 + r.roll(16)
		d := newDisk(t, size)
		m := &model{texts: make([]string, size)}
		for range 400 {
			m.step(t, d, &r)
			m.compare(t, d)
		}
	}
}
