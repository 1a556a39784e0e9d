package log

import (
	"encoding/binary"
	"math"
	"slices"
	"strings"
	"testing"

	"counterfoil/api"
	"counterfoil/disk"
	"counterfoil/row"
)

type (
	entry   = []api.Change
	entries = [][]api.Change
)

const all = math.MaxUint64

func put(key, val string) api.Change { return api.Change{Key: key, Val: val} }

func drop(key string) api.Change { return api.Change{Key: key, Gone: true} }

// many returns an entry with as many changes.
func many(n int) entry {
	var l entry
	for k := range n {
		l = append(l, put(string([]byte{'a' + byte(k%26), byte(k)}), strings.Repeat("v", k%api.MaxVal)))
	}
	return l
}

// raw returns a sector as the document describes it.
func raw(kind byte, number uint32, content string) string {
	b := []byte{kind}
	b = binary.LittleEndian.AppendUint32(b, number)
	b = binary.LittleEndian.AppendUint16(b, uint16(len(content)))
	return string(b) + content
}

// change returns a sector with a change.
func change(number uint32, c api.Change) string {
	s, _ := row.Bytes(c)
	return raw('o', number, s)
}

// commit returns a sector that ends an entry with as many changes.
func commit(number, many uint32) string {
	return raw('c', number, string(binary.LittleEndian.AppendUint32(nil, many)))
}

func padded(s string) string { return s + strings.Repeat("\x00", api.Sector-len(s)) }

func mustNew(t *testing.T, n int) *disk.Disk {
	t.Helper()
	d, err := disk.New(n)
	if err != nil {
		t.Fatal(err)
	}
	return d
}

// fill writes sectors durably, from a sector on.
func fill(t *testing.T, d *disk.Disk, from int, sectors ...string) {
	t.Helper()
	for k, s := range sectors {
		if err := d.Write(from+k, s); err != nil {
			t.Fatal(err)
		}
	}
	if err := d.Flush(); err != nil {
		t.Fatal(err)
	}
}

func contents(t *testing.T, d *disk.Disk) []string {
	t.Helper()
	var l []string
	for k := range d.Sectors() {
		s, err := d.Read(k)
		if err != nil {
			t.Fatal(err)
		}
		l = append(l, s)
	}
	return l
}

// filled returns a disk with these sectors.
func filled(t *testing.T, sectors []string) *disk.Disk {
	t.Helper()
	d := mustNew(t, len(sectors))
	fill(t, d, 0, sectors...)
	return d
}

func mustOpen(t *testing.T, d *disk.Disk, from, many, first int) (*Log, entries) {
	t.Helper()
	l, e, err := Open(d, from, many, first)
	if l == nil || err != nil {
		t.Fatalf("Open(%d, %d, %d) = %v, %v, %v", from, many, first, l, e, err)
	}
	return l, e
}

func mustAdd(t *testing.T, l *Log, c entry) {
	t.Helper()
	room := l.Room()
	if err := l.Add(c); err != nil {
		t.Fatalf("Add(%v) = %v", c, err)
	}
	if l.Room() != room-len(c)-1 {
		t.Fatalf("Room() = %d after an entry of %d changes, before: %d", l.Room(), len(c), room)
	}
}

func areEqual(a, b entries) bool { return slices.EqualFunc(a, b, slices.Equal[entry]) }

// wantEntries opens a log and compares its entries and its room.
func wantEntries(t *testing.T, d *disk.Disk, from, many, first int, want ...entry) *Log {
	t.Helper()
	l, got := mustOpen(t, d, from, many, first)
	if !areEqual(got, want) {
		t.Fatalf("entries %v, want %v", got, want)
	}
	for _, c := range want {
		many -= len(c) + 1
	}
	if l.Room() != many {
		t.Fatalf("Room() = %d, want %d", l.Room(), many)
	}
	return l
}

func TestOpenEmptyDisk(t *testing.T) { // I1
	d := mustNew(t, 10)
	for _, x := range []struct{ from, many, first, next int }{
		{0, 10, 1, 11}, {9, 1, 1, 2}, {0, 1, 7, 8}, {2, 6, 7, 13}, {2, 8, math.MaxUint32, math.MaxUint32 + 8},
		{0, 10, math.MaxInt - 10, math.MaxInt},
	} {
		l := wantEntries(t, d, x.from, x.many, x.first)
		if l.Next() != x.next {
			t.Errorf("Next() = %d, want %d", l.Next(), x.next)
		}
	}
}

func wantOpenError(t *testing.T, d *disk.Disk, from, many, first int, want error) {
	t.Helper()
	if l, e, err := Open(d, from, many, first); l != nil || len(e) > 0 || err != want {
		t.Errorf("Open(%d, %d, %d) = %v, %v, %v, want %v", from, many, first, l, e, err, want)
	}
}

func TestOpenErrors(t *testing.T) { // I1, Z1, Z3
	d := mustNew(t, 10)
	fill(t, d, 0, change(1, put("a", "1")), commit(2, 1))
	bad := [][3]int{
		{-1, 1, 1}, {-1, 11, 1}, {0, 0, 1}, {0, -1, 1}, {5, 0, 1}, {0, 1, 0}, {0, 1, -1},
		{0, 11, 1}, {5, 6, 1}, {10, 1, 1}, {9, 2, 1}, {11, 1, 1}, {11, -1, 1},
		{math.MinInt, 1, 1}, {math.MaxInt, 1, 1}, {0, math.MinInt, 1}, {0, math.MaxInt, 1},
		{1, math.MaxInt, 1}, {math.MaxInt, math.MaxInt, 1}, {math.MaxInt, math.MinInt, 1},
		{math.MinInt, math.MinInt, math.MinInt}, {0, 1, math.MinInt}, {-5, 15, 1},
	}
	for _, x := range bad {
		wantOpenError(t, d, x[0], x[1], x[2], api.ErrBound)
	}
	d.Arm(0)
	d.Flush()
	for _, x := range bad {
		wantOpenError(t, d, x[0], x[1], x[2], api.ErrBound)
	}
	wantOpenError(t, d, 0, 10, 1, api.ErrDown)
	wantOpenError(t, d, 9, 1, 1, api.ErrDown)
}

func TestOpenIsNoStep(t *testing.T) { // I1
	d := mustNew(t, 4)
	fill(t, d, 0, change(1, put("a", "1")), commit(2, 1))
	d.Arm(0)
	l := wantEntries(t, d, 0, 4, 1, entry{put("a", "1")})
	if l.Room() != 2 || d.Down() {
		t.Errorf("Room() = %d, Down() = %v", l.Room(), d.Down())
	}
}

func TestSectors(t *testing.T) { // I1, I2
	for _, x := range []struct {
		first  int
		number uint32
	}{{1, 1}, {7, 7}, {0x1234567, 0x1234567}, {math.MaxUint32 - 2, math.MaxUint32 - 2}, {5 << 32, 0}, {math.MaxInt, math.MaxUint32}} {
		d := mustNew(t, 10)
		fill(t, d, 1, "before")
		fill(t, d, 8, "after")
		l, _ := mustOpen(t, d, 2, 6, x.first)
		one, two, three := put("a", "1"), drop("bcd"), put(strings.Repeat("k", api.MaxKey), strings.Repeat("v", api.MaxVal))
		mustAdd(t, l, entry{one, two})
		mustAdd(t, l, nil)
		mustAdd(t, l, entry{three})
		want := []string{
			"", "before", change(x.number, one), change(x.number+1, two), commit(x.number+2, 2),
			commit(x.number+3, 0), change(x.number+4, three), commit(x.number+5, 1), "after", "",
		}
		for k, s := range contents(t, d) {
			if s != padded(want[k]) {
				t.Errorf("sector %d has %q, want %q", k, s, want[k])
			}
		}
		wantEntries(t, d, 2, 6, x.first, entry{one, two}, nil, entry{three})
	}
}

func TestBytesOfASector(t *testing.T) { // I1
	d := mustNew(t, 10)
	l, _ := mustOpen(t, d, 2, 6, 0x01020304)
	mustAdd(t, l, entry{drop("a")})
	for k, want := range []string{"o\x04\x03\x02\x01\x03\x00\x01\x01a", "c\x05\x03\x02\x01\x04\x00\x01\x00\x00\x00"} {
		if s, _ := d.Read(2 + k); s != padded(want) {
			t.Errorf("%q, want %q", s, want)
		}
	}
}

func TestOpenStops(t *testing.T) { // I1
	a, b := put("a", "1"), put("b", "2")
	body, _ := row.Bytes(a)
	for k, x := range []struct {
		sectors []string
		want    entries
	}{
		{[]string{change(5, a), commit(6, 1), change(7, b), commit(8, 1)}, entries{{a}, {b}}},
		{[]string{change(5, a), change(6, b), commit(7, 2)}, entries{{a, b}}},
		{[]string{commit(5, 0), commit(6, 0)}, entries{nil, nil}},
		// Nothing ends it.
		{[]string{change(5, a), change(6, b)}, nil},
		{[]string{commit(5, 0), change(6, b)}, entries{nil}},
		{[]string{change(5, a), commit(6, 1), change(7, b)}, entries{{a}}},
		// A sector that is not written.
		{[]string{"", change(6, a), commit(7, 1)}, nil},
		{[]string{change(5, a), "", commit(7, 1)}, nil},
		{[]string{change(5, a), commit(6, 1), "", change(8, b), commit(9, 1)}, entries{{a}}},
		{[]string{raw('x', 5, body), commit(6, 1)}, nil},
		{[]string{raw('O', 5, body), commit(6, 1)}, nil},
		{[]string{raw(0, 5, body), commit(6, 1)}, nil},
		{[]string{change(5, a), raw('C', 6, "\x01\x00\x00\x00")}, nil},
		// Another number.
		{[]string{change(4, a), commit(6, 1)}, nil},
		{[]string{change(6, a), commit(7, 1)}, nil},
		{[]string{change(5, a), commit(5, 1)}, nil},
		{[]string{change(5, a), commit(7, 1)}, nil},
		{[]string{change(5|1<<24, a), commit(6, 1)}, nil},
		{[]string{change(5|1<<8, a), commit(6, 1)}, nil},
		{[]string{change(5, a), commit(6|1<<16, 1)}, nil},
		// Another length.
		{[]string{"o\x05\x00\x00\x00\x4a\x00" + body, commit(6, 1)}, nil},
		{[]string{"o\x05\x00\x00\x00\x04\x01" + body, commit(6, 1)}, nil},
		{[]string{"o\x05\x00\x00\x00\xff\xff" + body, commit(6, 1)}, nil},
		{[]string{"o\x05\x00\x00\x00\x00\x00" + body, commit(6, 1)}, nil},
		// Anything may follow.
		{[]string{change(5, a) + "more", commit(6, 1) + strings.Repeat("\xff", 69)}, entries{{a}}},
		{[]string{change(5, put("a", strings.Repeat("v", api.MaxVal))) + strings.Repeat("x", 22), commit(6, 1)}, entries{{put("a", strings.Repeat("v", api.MaxVal))}}},
		// No encoding of a change.
		{[]string{raw('o', 5, ""), commit(6, 1)}, nil},
		{[]string{raw('o', 5, "\x02\x01a"), commit(6, 1)}, nil},
		{[]string{raw('o', 5, "\x01\x01ax"), commit(6, 1)}, nil},
		{[]string{raw('o', 5, "\x00\x01a"+strings.Repeat("v", 70)), commit(6, 1)}, nil},
		{[]string{commit(5, 0), raw('o', 6, "\x00\x00"), commit(7, 1)}, entries{nil}},
		// Not the number of changes.
		{[]string{change(5, a), commit(6, 0)}, nil},
		{[]string{change(5, a), commit(6, 2)}, nil},
		{[]string{commit(5, 1)}, nil},
		{[]string{change(5, a), commit(6, 1|1<<8)}, nil},
		{[]string{change(5, a), commit(6, 1|1<<31)}, nil},
		{[]string{change(5, a), raw('c', 6, "\x01")}, nil},
		{[]string{change(5, a), raw('c', 6, "\x01\x00\x00")}, nil},
		{[]string{change(5, a), raw('c', 6, "\x01\x00\x00\x00\x00")}, nil},
		{[]string{change(5, a), raw('c', 6, "\x00\x00\x00\x01")}, nil},
		{[]string{raw('c', 5, "")}, nil},
		{[]string{change(5, a), commit(6, 1), change(7, b), commit(8, 2)}, entries{{a}}},
		{[]string{change(5, a), commit(6, 1), change(7, b), commit(8, 0), commit(9, 1)}, entries{{a}}},
	} {
		d := mustNew(t, 8)
		fill(t, d, 2, x.sectors...)
		l, got := mustOpen(t, d, 2, 5, 5)
		if !areEqual(got, x.want) {
			t.Errorf("%d: entries %v, want %v", k, got, x.want)
		}
		room := 5
		for _, c := range x.want {
			room -= len(c) + 1
		}
		if l.Room() != room {
			t.Errorf("%d: Room() = %d, want %d", k, l.Room(), room)
		}
	}
}

func TestOpenReadsItsSectorsOnly(t *testing.T) { // I1
	a := put("a", "1")
	d := mustNew(t, 6)
	fill(t, d, 0, change(1, a), commit(2, 1), change(3, a), commit(4, 1), commit(5, 0), commit(6, 0))
	wantEntries(t, d, 0, 6, 1, entry{a}, entry{a}, nil, nil)
	wantEntries(t, d, 0, 5, 1, entry{a}, entry{a}, nil)
	wantEntries(t, d, 0, 3, 1, entry{a})
	wantEntries(t, d, 0, 1, 1)
	wantEntries(t, d, 2, 4, 3, entry{a}, nil, nil)
	wantEntries(t, d, 1, 5, 2)
	wantEntries(t, d, 2, 4, 3+math.MaxUint32+1, entry{a}, nil, nil)
	wantEntries(t, d, 0, 6, 2)
}

func TestOpenLongEntry(t *testing.T) { // I1
	const n = 100
	d := mustNew(t, 200)
	for k, c := range many(n) {
		fill(t, d, k, change(uint32(k+1), c))
	}
	fill(t, d, n, commit(n+1, n))
	wantEntries(t, d, 0, 200, 1, many(n))
}

func TestEntriesAreNew(t *testing.T) { // Z2
	d := mustNew(t, 10)
	l, _ := mustOpen(t, d, 0, 10, 1)
	c := entry{put("a", "1"), put("b", "2")}
	mustAdd(t, l, c)
	mustAdd(t, l, c)
	if !slices.Equal(c, entry{put("a", "1"), put("b", "2")}) {
		t.Errorf("the argument has been modified: %v", c)
	}
	c[0] = drop("z")
	_, e := mustOpen(t, d, 0, 10, 1)
	e[0][0], e[0][1] = drop("x"), drop("y")
	e[0] = append(e[0], drop("z"))
	if e[1][0] != put("a", "1") || e[1][1] != put("b", "2") {
		t.Errorf("%v", e[1])
	}
	wantEntries(t, d, 0, 10, 1, entry{put("a", "1"), put("b", "2")}, entry{put("a", "1"), put("b", "2")})
}

func TestAddReadsNothingBehind(t *testing.T) { // Z2
	d := mustNew(t, 10)
	l, _ := mustOpen(t, d, 0, 10, 1)
	c := entry{put("a", "1"), put("b", "2"), put("c", "3")}
	mustAdd(t, l, c[:1])
	wantEntries(t, d, 0, 10, 1, entry{put("a", "1")})
	if c[1] != put("b", "2") || c[2] != put("c", "3") {
		t.Errorf("%v", c)
	}
}

func TestAddErrors(t *testing.T) { // I2, Z1, Z3
	d := mustNew(t, 90)
	l, _ := mustOpen(t, d, 5, 80, 1)
	for range 3 {
		mustAdd(t, l, entry{put("a", "1")})
	}
	was := contents(t, d)
	wrong := api.Change{Key: "a", Val: "x", Gone: true}
	long := put("a", strings.Repeat("v", api.MaxVal+1))
	errors := []struct {
		c    entry
		want error
	}{
		{make(entry, api.MaxChanges+1), api.ErrMany},
		{make(entry, 1000), api.ErrMany},
		{many(api.MaxChanges + 1), api.ErrMany},
		{entry{{}}, api.ErrShape},
		{entry{put("a", "1"), wrong, long}, api.ErrShape},
		{entry{put("a", "1"), long, wrong}, api.ErrMany},
		{entry{put("a", "1"), put("b", "2"), drop("")}, api.ErrShape},
		{make(entry, api.MaxChanges), api.ErrShape},
	}
	for range 2 {
		for _, x := range errors {
			if err := l.Add(x.c); err != x.want {
				t.Errorf("Add of %d changes = %v, want %v", len(x.c), err, x.want)
			}
		}
		if l.Room() != 74 {
			t.Errorf("Room() = %d", l.Room())
		}
		// None of them is a step.
		d.Arm(0)
	}
	if d.Down() || !slices.Equal(contents(t, d), was) {
		t.Error("an error has changed the disk")
	}
	if err := l.Add(entry{put("a", "1")}); err != api.ErrDown {
		t.Errorf("Add = %v", err)
	}
	for _, x := range errors {
		if err := l.Add(x.c); err != x.want {
			t.Errorf("disk is down: Add of %d changes = %v, want %v", len(x.c), err, x.want)
		}
	}
	if err := l.Add(nil); err != api.ErrDown || l.Room() != 74 {
		t.Errorf("Add = %v, Room() = %d", err, l.Room())
	}
}

func TestAddFull(t *testing.T) { // I2, Z3
	d := mustNew(t, 8)
	fill(t, d, 7, "behind")
	l, _ := mustOpen(t, d, 1, 6, 1)
	for _, x := range []struct {
		c    entry
		want error
	}{
		{make(entry, 73), api.ErrMany},
		{make(entry, 72), api.ErrFull},
		{make(entry, 6), api.ErrFull},
		{many(6), api.ErrFull},
		{make(entry, 5), api.ErrShape},
	} {
		if err := l.Add(x.c); err != x.want || l.Room() != 6 {
			t.Errorf("Add of %d changes = %v, want %v", len(x.c), err, x.want)
		}
	}
	mustAdd(t, l, many(2))
	for _, n := range []int{3, 4, 5} {
		if err := l.Add(make(entry, n)); err != api.ErrFull {
			t.Errorf("Add of %d changes = %v", n, err)
		}
	}
	mustAdd(t, l, many(1))
	if err := l.Add(many(1)); err != api.ErrFull {
		t.Errorf("Add = %v", err)
	}
	mustAdd(t, l, nil)
	d.Arm(0)
	if err := l.Add(nil); err != api.ErrFull || l.Room() != 0 {
		t.Errorf("Add = %v, Room() = %d", err, l.Room())
	}
	wantEntries(t, d, 1, 6, 1, many(2), many(1), nil)
	if s, _ := d.Read(0); s != padded("") {
		t.Errorf("the sector before has %q", s)
	}
	if s, _ := d.Read(7); s != padded("behind") {
		t.Errorf("the sector behind has %q", s)
	}
}

func TestAddMostChanges(t *testing.T) { // I2
	d := mustNew(t, 260)
	l, _ := mustOpen(t, d, 0, 260, 1)
	var want entries
	for range 3 {
		mustAdd(t, l, many(api.MaxChanges))
		want = append(want, many(api.MaxChanges))
		d.Restart(0)
	}
	wantEntries(t, d, 0, 260, 1, want...)
}

func TestAddIsDurable(t *testing.T) { // I2
	d := mustNew(t, 10)
	l, _ := mustOpen(t, d, 0, 10, 1)
	mustAdd(t, l, many(2))
	d.Restart(0)
	l = wantEntries(t, d, 0, 10, 1, many(2))
	mustAdd(t, l, many(1))
	mustAdd(t, l, nil)
	d.Restart(0)
	wantEntries(t, d, 0, 10, 1, many(2), many(1), nil)
}

// TestNothingFollows adds entries before sectors that would be entries.
func TestNothingFollows(t *testing.T) { // I2
	const size = 8
	for n := range size {
		for at := range size {
			d := mustNew(t, size+2)
			// Each sector from at on is an entry; so is what is behind the log.
			for k := at; k < size+2; k++ {
				fill(t, d, k, commit(uint32(k+1), 0))
			}
			l, had := mustOpen(t, d, 0, size, 1)
			if n+1 > l.Room() {
				continue
			}
			mustAdd(t, l, many(n))
			want := append(slices.Clone(had), many(n))
			wantEntries(t, d, 0, size, 1, want...)
			d.Restart(0)
			wantEntries(t, d, 0, size, 1, want...)
			if s, _ := d.Read(size); s != padded(commit(size+1, 0)) {
				t.Fatalf("the sector behind has %q", s)
			}
		}
	}
}

// dice is a fixed sequence of numbers, the same in each run.
type dice uint64

func (r *dice) roll(n int) int {
	*r = *r*6364136223846793005 + 1442695040888963407
	return int(uint64(*r) >> 33 % uint64(n))
}

func (r *dice) keep() uint64 {
	return uint64(r.roll(1<<31))<<33 ^ uint64(r.roll(1<<31))<<10 ^ uint64(r.roll(1<<10))
}

// leftover returns a sector that may have been left at an index.
func (r *dice) leftover(at int) string {
	number := uint32(at + 1)
	switch r.roll(8) {
	case 0, 1:
		return commit(number, uint32(r.roll(4)))
	case 2, 3, 4:
		return change(number, put("old", string([]byte{byte(r.roll(256))})))
	case 5:
		return change(number+uint32(r.roll(3)), put("old", ""))
	case 6:
		return raw('o', number, "\x00\x00")
	}
	return ""
}

// keeps returns what may be kept of writes: all choices of the first five, and
// some of all.
func keeps(r *dice) []uint64 {
	var l []uint64
	for k := range uint64(32) {
		l = append(l, k, ^k)
	}
	for range 8 {
		l = append(l, r.keep())
	}
	return l
}

// failEverywhere lets a disk with these sectors fail at each step of an Add,
// with all that may be kept, and looks for the entries. It returns whether both
// outcomes of a failure were seen.
func failEverywhere(t *testing.T, sectors []string, c entry, r *dice) (before, after bool) {
	t.Helper()
	for n := 0; ; n++ {
		for _, keep := range keeps(r) {
			d := filled(t, sectors)
			l, had := mustOpen(t, d, 1, len(sectors)-2, 1)
			room := l.Room()
			d.Arm(n)
			err := l.Add(c)
			if err == nil {
				if d.Down() || l.Room() != room-len(c)-1 {
					t.Fatalf("Down() = %v, Room() = %d", d.Down(), l.Room())
				}
				return before, after
			}
			if err != api.ErrDown || !d.Down() || l.Room() != room {
				t.Fatalf("Add = %v, Down() = %v, Room() = %d", err, d.Down(), l.Room())
			}
			d.Restart(keep)
			_, got := mustOpen(t, d, 1, len(sectors)-2, 1)
			isBefore, isAfter := areEqual(got, had), areEqual(got, append(slices.Clone(had), c))
			if !isBefore && !isAfter {
				t.Fatalf("step %d, keep %b, sectors %q: entries %v, before %v, added %v", n, keep, sectors, got, had, c)
			}
			before, after = before || isBefore, after || isAfter
		}
	}
}

func TestFailures(t *testing.T) { // I2, W6
	r := dice(1)
	for _, n := range []int{0, 1, 2, 3, 6} {
		// There is just enough room, or more.
		for _, more := range []int{0, 1, 2} {
			sectors := make([]string, n+5+more)
			sectors[1], sectors[2] = change(1, put("a", "1")), commit(2, 1)
			before, after := failEverywhere(t, sectors, many(n), &r)
			if !before || !after {
				t.Errorf("%d changes: seen before: %v, after: %v", n, before, after)
			}
		}
	}
	before, after := failEverywhere(t, make([]string, 100), many(api.MaxChanges), &r)
	if !before || !after {
		t.Errorf("most changes: seen before: %v, after: %v", before, after)
	}
}

func TestFailuresWithLeftovers(t *testing.T) { // I2, W6
	r := dice(2)
	for range 400 {
		sectors := make([]string, 9)
		for k := range 7 {
			sectors[1+k] = r.leftover(k)
		}
		sectors[8] = commit(8, 0)
		l, _ := mustOpen(t, filled(t, sectors), 1, 7, 1)
		if l.Room() > 0 {
			failEverywhere(t, sectors, many(r.roll(l.Room())), &r)
		}
	}
}

// TestAddAfterFailures goes on with the disk that failed, again and again.
func TestAddAfterFailures(t *testing.T) { // I2, W6
	r := dice(3)
	for range 300 {
		d := mustNew(t, 40)
		for k := range 40 {
			fill(t, d, k, r.leftover(k))
		}
		l, want := mustOpen(t, d, 0, 40, 1)
		for range 60 {
			c := many(r.roll(5))
			c = append(c, put("n", string([]byte{byte(r.roll(256))})))
			if len(c)+1 > l.Room() {
				break
			}
			d.Arm(r.roll(20) - 4)
			err := l.Add(c)
			if err == nil {
				want = append(want, c)
				d.Restart(r.keep())
				wantEntries(t, d, 0, 40, 1, want...)
				continue
			}
			d.Restart(r.keep())
			var got entries
			l, got = mustOpen(t, d, 0, 40, 1)
			if areEqual(got, append(slices.Clone(want), c)) {
				want = got
			}
			wantEntries(t, d, 0, 40, 1, want...)
		}
	}
}

// TestAddWithTheSameLog: an error has changed nothing, so Add may be tried again.
func TestAddWithTheSameLog(t *testing.T) { // Z1, I2
	r := dice(4)
	for n := range 10 {
		for range 20 {
			d := mustNew(t, 12)
			l, _ := mustOpen(t, d, 0, 12, 1)
			mustAdd(t, l, many(1))
			d.Arm(n)
			if l.Add(many(3)) == nil {
				break
			}
			d.Restart(r.keep())
			mustAdd(t, l, many(2))
			wantEntries(t, d, 0, 12, 1, many(1), many(2))
		}
	}
}

// readAgain returns the entries of sectors, in another way than Open: by the
// places of the sectors that end them.
func readAgain(sectors []string) entries {
	var l entries
	from := 0
	for at := range sectors {
		n := uint32(at - from)
		if !strings.HasPrefix(sectors[at], commit(uint32(at+1), n)) {
			continue
		}
		var c entry
		for k, s := range sectors[from:at] {
			size := int(binary.LittleEndian.Uint16([]byte(s[5:7])))
			if size > api.Sector-7 {
				return l
			}
			x, err := row.Parse(s[7 : 7+size])
			if err != nil || !strings.HasPrefix(s, change(uint32(from+k+1), x)) {
				return l
			}
			c = append(c, x)
		}
		l = append(l, c)
		from = at + 1
	}
	return l
}

func TestOpenAnything(t *testing.T) { // I1, Z1
	r := dice(5)
	long := 0
	for range 20000 {
		d := mustNew(t, 8)
		for k := range 8 {
			fill(t, d, k, r.leftover(k))
		}
		want := readAgain(contents(t, d))
		if len(want) > 1 {
			long++
		}
		wantEntries(t, d, 0, 8, 1, want...)
	}
	if long < 100 {
		t.Errorf("only %d logs with several entries", long)
	}
}

func TestOpenRandomBytes(t *testing.T) { // I1, Z1
	r := dice(6)
	for range 2000 {
		d := mustNew(t, 4)
		for k := range 4 {
			b := []byte(padded(r.leftover(k)))
			for range r.roll(3) {
				b[r.roll(10)] = byte(r.roll(256))
			}
			fill(t, d, k, string(b))
		}
		want := readAgain(contents(t, d))
		wantEntries(t, d, 0, 4, 1, want...)
	}
}
