package store

import (
	"encoding/binary"
	"maps"
	"math"
	"slices"
	"strings"
	"testing"

	"counterfoil/api"
	"counterfoil/disk"
	"counterfoil/log"
	"counterfoil/row"
)

type rows = []api.Change

func put(key, val string) api.Change { return api.Change{Key: key, Val: val} }

func drop(key string) api.Change { return api.Change{Key: key, Gone: true} }

// many returns rows with increasing keys, as large as rows may be.
func many(n int) rows {
	var l rows
	for k := range n {
		key := string([]byte{'a', 'a' + byte(k)}) + strings.Repeat("k", api.MaxKey-2)
		l = append(l, put(key, strings.Repeat(string([]byte{byte(k)}), api.MaxVal)))
	}
	return l
}

func mustNew(t *testing.T, n int) *disk.Disk {
	t.Helper()
	d, err := disk.New(n)
	if err != nil {
		t.Fatal(err)
	}
	return d
}

func mustWrite(t *testing.T, d *disk.Disk, at int, data string) {
	t.Helper()
	if err := d.Write(at, data); err != nil {
		t.Fatal(err)
	}
}

// contents returns all sectors of a disk, to be written again by filled.
func contents(t *testing.T, d *disk.Disk) []string {
	t.Helper()
	l := make([]string, d.Sectors())
	for k := range l {
		var err error
		if l[k], err = d.Read(k); err != nil {
			t.Fatal(err)
		}
	}
	return l
}

func filled(t *testing.T, sectors []string) *disk.Disk {
	t.Helper()
	d := mustNew(t, len(sectors))
	for k, s := range sectors {
		mustWrite(t, d, k, s)
	}
	if err := d.Flush(); err != nil {
		t.Fatal(err)
	}
	return d
}

func mustFormat(t *testing.T, d *disk.Disk) {
	t.Helper()
	if err := Format(d); err != nil {
		t.Fatalf("Format() = %v", err)
	}
}

func mustOpen(t *testing.T, d *disk.Disk) *Store {
	t.Helper()
	s, err := Open(d)
	if s == nil || err != nil {
		t.Fatalf("Open() = %v, %v", s, err)
	}
	return s
}

// made returns a new store on a disk of n sectors.
func made(t *testing.T, n int) (*disk.Disk, *Store) {
	t.Helper()
	d := mustNew(t, n)
	mustFormat(t, d)
	return d, mustOpen(t, d)
}

func mustCommit(t *testing.T, s *Store, l rows) {
	t.Helper()
	if err := s.Commit(l); err != nil {
		t.Fatalf("Commit(%v) = %v", l, err)
	}
}

func mustCheckpoint(t *testing.T, s *Store) {
	t.Helper()
	if err := s.Checkpoint(); err != nil {
		t.Fatalf("Checkpoint() = %v", err)
	}
}

func wantStore(t *testing.T, s *Store, room int, want rows) {
	t.Helper()
	if l := s.Rows(); !slices.Equal(l, want) {
		t.Fatalf("Rows() = %v, want %v", l, want)
	}
	if s.Room() != room {
		t.Fatalf("Room() = %d, want %d", s.Room(), room)
	}
}

// wantDurable compares a store, also after a restart of its disk that loses
// whatever may be lost.
func wantDurable(t *testing.T, d *disk.Disk, s *Store, room int, want rows) {
	t.Helper()
	wantStore(t, s, room, want)
	d.Restart(0)
	wantStore(t, mustOpen(t, d), room, want)
}

func wantCommitError(t *testing.T, s *Store, l rows, want error) {
	t.Helper()
	room, had := s.Room(), s.Rows()
	if err := s.Commit(l); err != want {
		t.Errorf("Commit of %d changes = %v, want %v", len(l), err, want)
	}
	wantStore(t, s, room, had)
}

func TestFormat(t *testing.T) { // J1
	for _, n := range []int{196, 197, 200, api.Sectors} {
		d, s := made(t, n)
		wantDurable(t, d, s, n-122, nil)
	}
}

func TestFormatErrors(t *testing.T) { // J1, Z3
	for n := range 196 {
		if n == 0 {
			continue
		}
		d := mustNew(t, n)
		if err := Format(d); err != api.ErrFull {
			t.Fatalf("%d sectors: Format() = %v", n, err)
		}
		if slices.ContainsFunc(contents(t, d), func(s string) bool { return strings.Trim(s, "\x00") != "" }) {
			t.Fatalf("%d sectors: the error has changed the disk", n)
		}
	}
	for _, n := range []int{195, 196} {
		want := map[int]error{195: api.ErrFull, 196: api.ErrDown}[n]
		d := mustNew(t, n)
		d.Arm(0)
		if err := Format(d); err != want {
			t.Errorf("%d sectors, armed: Format() = %v, want %v", n, err, want)
		}
		d.Flush()
		if err := Format(d); err != want {
			t.Errorf("%d sectors, down: Format() = %v, want %v", n, err, want)
		}
	}
}

func TestFormatDestroysStores(t *testing.T) { // J1
	for checkpoints := range 5 {
		for formats := range 7 {
			for _, last := range []rows{{put("a", "2")}, nil} {
				d, s := made(t, 200)
				mustCommit(t, s, rows{put("a", "1"), put("b", "1")})
				for range checkpoints {
					mustCheckpoint(t, s)
				}
				if last != nil {
					mustCommit(t, s, last)
				}
				for range 1 + formats {
					mustFormat(t, d)
				}
				wantDurable(t, d, mustOpen(t, d), 78, nil)
				s = mustOpen(t, d)
				mustCommit(t, s, rows{put("c", "3")})
				wantDurable(t, d, s, 76, rows{put("c", "3")})
			}
		}
	}
}

// noHeaders returns what is no header.
func noHeaders() []string {
	return []string{
		"", strings.Repeat("x", api.Sector), title, strings.Repeat("\x01", api.Sector), "C" + title[1:] + "\x01\x00\x00",
		title + "\x00\x01\x00", title + "\x04\x00\x00", title + "\x01\x02\x00", title + "\x01\x00\x51",
	}
}

// headers returns what may be found where a header is.
func headers() []string {
	l := noHeaders()
	for turn := 1; turn <= 3; turn++ {
		for number := range byte(2) {
			for _, n := range []byte{0, 3, api.MaxRows} {
				l = append(l, title+string([]byte{byte(turn), number, n}))
			}
		}
	}
	return l
}

// raw returns a sector of a log (I1).
func raw(kind byte, number uint32, content string) string {
	b := binary.LittleEndian.AppendUint32([]byte{kind}, number)
	b = binary.LittleEndian.AppendUint16(b, uint16(len(content)))
	return string(b) + content
}

// TestFormatWhateverThereIs formats disks on which nearly everything may be
// read as a part of a store.
func TestFormatWhateverThereIs(t *testing.T) { // J1
	for _, a := range headers() {
		for _, b := range headers() {
			for number := range uint32(4) {
				d := mustNew(t, 196)
				mustWrite(t, d, 0, a)
				mustWrite(t, d, slotSectors, b)
				mustWrite(t, d, 1, "\x03\x00\x01z\x03\x00\x01y")
				for k := range uint32(70) {
					mustWrite(t, d, 122+int(k), raw("oc"[k%2], number+k, []string{"\x00\x01a1", "\x01\x00\x00\x00"}[k%2]))
				}
				mustFormat(t, d)
				s := mustOpen(t, d)
				wantDurable(t, d, s, 74, nil)
				mustCommit(t, s, rows{put("b", "1")})
				wantDurable(t, d, s, 72, rows{put("b", "1")})
				mustCheckpoint(t, s)
				wantDurable(t, d, s, 74, rows{put("b", "1")})
			}
		}
	}
}

func TestFormatJunk(t *testing.T) { // J1, Z1
	r := dice(1)
	for range 200 {
		d := mustNew(t, 196+r.roll(65))
		for k := range d.Sectors() {
			b := make([]byte, r.roll(api.Sector+1))
			for k := range b {
				b[k] = byte(r.roll(256))
			}
			mustWrite(t, d, k, string(b))
		}
		if s, err := Open(d); s != nil || err != api.ErrText {
			t.Fatalf("Open() = %v, %v", s, err)
		}
		mustFormat(t, d)
		wantDurable(t, d, mustOpen(t, d), d.Sectors()-122, nil)
	}
}

func TestOpenErrors(t *testing.T) { // J1, Z1, Z3
	for n := range api.Sectors {
		d := mustNew(t, n+1)
		if s, err := Open(d); s != nil || err != api.ErrText {
			t.Fatalf("%d sectors: Open() = %v, %v", n+1, s, err)
		}
		d.Arm(0)
		d.Flush()
		if s, err := Open(d); s != nil || err != api.ErrDown {
			t.Fatalf("%d sectors, down: Open() = %v, %v", n+1, s, err)
		}
	}
	d, s := made(t, 196)
	mustCommit(t, s, rows{put("a", "1")})
	l := contents(t, d)
	// Fewer sectors than a store has.
	if s, err := Open(filled(t, l[:195])); s != nil || err != api.ErrText {
		t.Errorf("Open() = %v, %v", s, err)
	}
	d.Arm(0)
	d.Flush()
	if s, err := Open(d); s != nil || err != api.ErrDown {
		t.Errorf("Open() = %v, %v", s, err)
	}
	d.Restart(0)
	wantStore(t, mustOpen(t, d), 72, rows{put("a", "1")})
}

func TestOpenWithoutHeader(t *testing.T) { // J1
	for _, a := range noHeaders() {
		for _, b := range noHeaders() {
			sectors := make([]string, 196)
			for k := range sectors {
				sectors[k] = strings.Repeat("\x03\x00\x01k", api.Sector/4)
			}
			sectors[0], sectors[slotSectors] = a, b
			if s, err := Open(filled(t, sectors)); s != nil || err != api.ErrText {
				t.Errorf("headers %q, %q: Open() = %v, %v", a, b, s, err)
			}
		}
	}
}

// TestOpenAnything: whatever is written to the disk by others, Open returns.
func TestOpenAnything(t *testing.T) { // Z1
	d, s := made(t, 196)
	mustCommit(t, s, many(api.MaxChanges))
	mustCheckpoint(t, s)
	mustCommit(t, s, rows{put("x", "1")})
	l := contents(t, d)
	r := dice(2)
	for range 2000 {
		spoilt := slices.Clone(l)
		for range 1 + r.roll(4) {
			at := []int{0, 1, 2, slotSectors, slotSectors + 1, slotSectors + 2, 122, 123, r.roll(196)}[r.roll(9)]
			b := []byte(spoilt[at])
			b[r.roll(r.roll(len(b))+1)] = byte(r.roll(256) >> r.roll(9))
			spoilt[at] = string(b)
		}
		s, err := Open(filled(t, spoilt))
		if (s == nil) != (err == api.ErrText) || s != nil && err != nil {
			t.Fatalf("Open() = %v, %v", s, err)
		}
	}
}

func TestOpenSpoiltRows(t *testing.T) { // Z1
	most := text(many(api.MaxRows - 1))
	for _, x := range []struct {
		rows byte
		text string
	}{
		{1, ""}, {1, "\x00"}, {1, "\x02\x00\x01"}, {1, "\x03\x02\x01a"}, {1, "\xff"}, {2, "\x03\x00\x01a"},
		{api.MaxRows, most}, {api.MaxRows, most + "\x3b"},
		// These would end behind the slot.
		{api.MaxRows, most + "\xff"}, {api.MaxRows, most + string([]byte{byte(60*api.Sector - len(most))})},
	} {
		sectors := make([]string, 196)
		sectors[0] = title + string([]byte{1, 0, x.rows})
		for k := 1; x.text != ""; k++ {
			n := min(len(x.text), api.Sector)
			sectors[k], x.text = x.text[:n], x.text[n:]
		}
		if s, err := Open(filled(t, sectors)); s != nil || err != api.ErrText {
			t.Errorf("%d rows: Open() = %v, %v", x.rows, s, err)
		}
	}
}

func TestCommit(t *testing.T) { // J2
	d, s := made(t, 200)
	mustCommit(t, s, rows{put("b", "2"), put("a", "1")})
	wantDurable(t, d, s, 75, rows{put("a", "1"), put("b", "2")})
	mustCommit(t, s, rows{drop("a"), put("c", "3"), put("b", ""), drop("none")})
	wantDurable(t, d, s, 70, rows{put("b", ""), put("c", "3")})
	mustCommit(t, s, nil)
	wantDurable(t, d, s, 69, rows{put("b", ""), put("c", "3")})
	s = mustOpen(t, d)
	mustCommit(t, s, rows{put("\x00\xff", "\xff\x00"), put("d", "1"), put("d", "2"), drop("c"), drop("d"), put("d", "3")})
	wantDurable(t, d, s, 62, rows{put("\x00\xff", "\xff\x00"), put("b", ""), put("d", "3")})
	mustCommit(t, s, rows{drop("b"), drop("d"), drop("\x00\xff")})
	wantDurable(t, d, s, 58, nil)
}

// TestLogOfStore finds what is committed in the log.
func TestLogOfStore(t *testing.T) { // J1, J2, I1
	d, s := made(t, 200)
	for range 3 {
		a, b := rows{put("b", "2"), drop("x")}, rows{put("a", "")}
		mustCommit(t, s, a)
		mustCommit(t, s, b)
		sector, _ := d.Read(122)
		first := int(binary.LittleEndian.Uint32([]byte(sector[1:5])))
		l, got, err := log.Open(d, 122, 78, first)
		if err != nil || !slices.EqualFunc(got, []rows{a, b}, slices.Equal[rows]) || l.Room() != s.Room() {
			t.Fatalf("%v, %v, Room() = %d", got, err, s.Room())
		}
		mustCheckpoint(t, s)
	}
}

func TestCommitErrors(t *testing.T) { // J2, Z1, Z3
	d, s := made(t, 200)
	mustCommit(t, s, many(api.MaxChanges))
	mustCommit(t, s, many(2))
	was := contents(t, d)
	wrong := api.Change{Key: "a", Val: "x", Gone: true}
	long := put("a", strings.Repeat("v", api.MaxVal+1))
	errors := []struct {
		l    rows
		want error
	}{
		{make(rows, api.MaxChanges+1), api.ErrMany},
		{make(rows, 1000), api.ErrMany},
		{many(api.MaxChanges + 1), api.ErrMany},
		{rows{{}}, api.ErrShape},
		{rows{put("a", "1"), wrong, long}, api.ErrShape},
		{rows{put("a", "1"), long, wrong}, api.ErrMany},
		{make(rows, api.MaxChanges), api.ErrShape},
		{append(many(api.MaxRows)[api.MaxChanges-1:], put("b", ""), drop("")), api.ErrShape},
		{append(many(api.MaxRows)[api.MaxChanges:], put("b", "")), api.ErrFull},
		{append(many(api.MaxRows)[api.MaxChanges:], drop("none"), put("b", "")), api.ErrFull},
	}
	for range 2 {
		for _, x := range errors {
			wantCommitError(t, s, x.l, x.want)
		}
		// None of them is a step, even if there is no room in the log.
		d.Arm(0)
	}
	if d.Down() || !slices.Equal(contents(t, d), was) {
		t.Error("an error has changed the disk")
	}
	wantDurable(t, d, s, 78-api.MaxChanges-1-3, many(api.MaxChanges))
	for _, l := range []rows{nil, {put("a", "1")}, many(api.MaxChanges)} {
		s = mustOpen(t, d)
		d.Arm(0)
		if err := s.Commit(l); err != api.ErrDown {
			t.Errorf("Commit of %d changes = %v", len(l), err)
		}
		for _, x := range errors {
			if err := s.Commit(x.l); err != x.want {
				t.Errorf("disk is down: Commit of %d changes = %v, want %v", len(x.l), err, x.want)
			}
		}
		if err := s.Checkpoint(); err != api.ErrDown {
			t.Errorf("Checkpoint() = %v", err)
		}
		d.Restart(0)
	}
}

func TestMostRows(t *testing.T) { // J2, J3
	d, s := made(t, 196)
	l := many(api.MaxRows)
	mustCommit(t, s, l[:40])
	mustCommit(t, s, l[40:])
	wantDurable(t, d, s, 33, l)
	wantCommitError(t, s, rows{put("z", "")}, api.ErrFull)
	wantCommitError(t, s, rows{drop("none"), put("z", "")}, api.ErrFull)
	// Only how many there are in the end counts.
	mustCommit(t, s, rows{put(l[0].Key, "")})
	mustCommit(t, s, rows{put("z", ""), drop(l[0].Key)})
	wantDurable(t, d, s, 28, append(slices.Clone(l[1:]), put("z", "")))
	mustCommit(t, s, rows{drop("z"), l[0]})
	wantDurable(t, d, s, 25, l)
	for range 3 {
		mustCheckpoint(t, s)
		wantDurable(t, d, s, 74, l)
	}
	mustCommit(t, s, l[:api.MaxChanges])
	wantDurable(t, d, s, 1, l)
	wantCommitError(t, s, rows{put("z", "")}, api.ErrFull)
}

func TestCommitWithoutRoom(t *testing.T) { // J2
	for _, n := range []int{196, 200, api.Sectors} {
		size := n - 122
		d, s := made(t, n)
		var l rows
		for round := range 4 {
			// As long as there is enough room, no Checkpoint is performed.
			for s.Room() > 1 {
				room := s.Room()
				c := many(min(room-1, 7+round))
				mustCommit(t, s, c)
				l = row.Apply(l, c)
				wantStore(t, s, room-len(c)-1, l)
			}
			if s.Room() == 1 && round%2 == 0 {
				mustCommit(t, s, nil)
			}
			wantDurable(t, d, s, s.Room(), l)
			c := many(1 + round)
			mustCommit(t, s, c)
			wantDurable(t, d, s, size-len(c)-1, l)
		}
		mustCheckpoint(t, s)
		mustCommit(t, s, many(api.MaxChanges))
		wantStore(t, s, size-api.MaxChanges-1, many(api.MaxChanges))
		// No log has room for two of these.
		mustCommit(t, s, many(api.MaxChanges))
		wantDurable(t, d, s, size-api.MaxChanges-1, many(api.MaxChanges))
	}
}

func TestCheckpoint(t *testing.T) { // J3
	d, s := made(t, 200)
	mustCheckpoint(t, s)
	wantDurable(t, d, s, 78, nil)
	var l rows
	for k := range 10 {
		c := rows{put(string([]byte{'k', 'a' + byte(k)}), "1"), put("same", strings.Repeat("v", k))}
		mustCommit(t, s, c)
		l = row.Apply(l, c)
		wantDurable(t, d, s, 75, l)
		// Without a commit in between, what is in the log stays unused.
		for range k {
			mustCheckpoint(t, s)
			wantDurable(t, d, s, 78, l)
		}
		mustCheckpoint(t, s)
		if k%2 == 0 {
			s = mustOpen(t, d)
		}
	}
}

func TestRowsAreNew(t *testing.T) { // Z2
	d, s := made(t, 196)
	c := rows{put("b", "2"), put("a", "1"), put("behind", "3")}
	mustCommit(t, s, c[:2])
	if !slices.Equal(c, rows{put("b", "2"), put("a", "1"), put("behind", "3")}) {
		t.Errorf("the argument has been modified: %v", c)
	}
	c[0], c[1] = drop("x"), drop("y")
	l, same := s.Rows(), s.Rows()
	l[0], l[1] = drop("x"), drop("y")
	l = append(l, drop("z"))
	if !slices.Equal(same, rows{put("a", "1"), put("b", "2")}) {
		t.Errorf("%v", same)
	}
	wantDurable(t, d, s, 71, rows{put("a", "1"), put("b", "2")})
	mustCheckpoint(t, s)
	wantDurable(t, d, s, 74, rows{put("a", "1"), put("b", "2")})
}

func TestStoresAreSeparate(t *testing.T) { // Z2
	d, s := made(t, 196)
	e, other := made(t, 200)
	mustCommit(t, s, rows{put("a", "1")})
	mustCommit(t, other, rows{put("b", "2")})
	wantDurable(t, d, s, 72, rows{put("a", "1")})
	wantDurable(t, e, other, 76, rows{put("b", "2")})
}

// dice is a fixed sequence of numbers, the same in each run.
type dice uint64

func (r *dice) roll(n int) int {
	*r = *r*6364136223846793005 + 1442695040888963407
	return int(uint64(*r) >> 33 % uint64(n))
}

func (r *dice) keep() uint64 {
	return uint64(r.roll(1<<31))<<33 ^ uint64(r.roll(1<<31))<<10 ^ uint64(r.roll(1<<10))
}

// keeps returns what may be kept of writes.
func keeps(r *dice) []uint64 {
	l := []uint64{0, 1, 2, 3, 1 << 63, math.MaxUint64 - 1, math.MaxUint64}
	for range 5 {
		l = append(l, r.keep())
	}
	return l
}

// failEverywhere lets a disk with these sectors fail at each step of an action,
// with several choices of what is kept, and opens the store again, which must
// have these rows or those. It returns whether both were seen.
func failEverywhere(t *testing.T, sectors []string, action func(*disk.Disk) error, these, those rows, r *dice) (bool, bool) {
	t.Helper()
	var seen [2]bool
	for n := 0; ; n++ {
		for _, keep := range keeps(r) {
			d := filled(t, sectors)
			d.Arm(n)
			err := action(d)
			if err == nil {
				return seen[0], seen[1]
			}
			if err != api.ErrDown || !d.Down() {
				t.Fatalf("step %d: %v, Down() = %v", n, err, d.Down())
			}
			d.Restart(keep)
			s := mustOpen(t, d)
			l := s.Rows()
			isBefore, isAfter := slices.Equal(l, these), slices.Equal(l, those)
			if !isBefore && !isAfter {
				t.Fatalf("step %d, keep %b: Rows() = %v, want %v or %v", n, keep, l, these, those)
			}
			seen[0], seen[1] = seen[0] || isBefore, seen[1] || isAfter
			// The store goes on.
			mustCommit(t, s, rows{put("!", "")})
			mustCommit(t, s, rows{drop("!")})
			wantDurable(t, d, s, s.Room(), l)
		}
	}
}

// situations returns disks with a store each, of up to 196 sectors: with an
// empty log, a log with some room, and a full log, after some checkpoints.
func situations(t *testing.T) [][]string {
	t.Helper()
	var l [][]string
	for checkpoints := range 4 {
		for _, full := range []bool{false, true} {
			d, s := made(t, 196)
			mustCommit(t, s, many(20))
			mustCommit(t, s, rows{put("x", "1"), put("y", "1")})
			for range checkpoints {
				mustCheckpoint(t, s)
				l = append(l, contents(t, d))
				mustCommit(t, s, rows{put("x", "2"), drop("y")})
			}
			for full && s.Room() > 0 {
				mustCommit(t, s, many(20)[:min(19, s.Room()-1)])
			}
			l = append(l, contents(t, d))
		}
	}
	return l
}

func TestFailuresOfCommit(t *testing.T) { // J4, W6
	r := dice(3)
	for k, sectors := range situations(t) {
		had := mustOpen(t, filled(t, sectors)).Rows()
		for _, c := range []rows{{put("z", "1")}, {drop("x"), put("y", "3"), put("y", "4")}, many(40)} {
			before, after := failEverywhere(t, sectors, func(d *disk.Disk) error {
				return mustOpen(t, d).Commit(c)
			}, had, row.Apply(had, c), &r)
			if !before || !after {
				t.Errorf("situation %d: seen before: %v, after: %v", k, before, after)
			}
		}
	}
}

func TestFailuresOfMostChanges(t *testing.T) { // J4, W6
	r := dice(4)
	d, s := made(t, 196)
	mustCommit(t, s, many(api.MaxChanges))
	mustCommit(t, s, rows{put("b", "")})
	var c rows
	for _, x := range many(api.MaxChanges) {
		c = append(c, put(x.Key, "new"))
	}
	had := s.Rows()
	before, after := failEverywhere(t, contents(t, d), func(d *disk.Disk) error {
		return mustOpen(t, d).Commit(c)
	}, had, row.Apply(had, c), &r)
	if !before || !after {
		t.Errorf("seen before: %v, after: %v", before, after)
	}
}

func TestFailuresOfCheckpoint(t *testing.T) { // J4, W6
	r := dice(5)
	for _, sectors := range situations(t) {
		had := mustOpen(t, filled(t, sectors)).Rows()
		failEverywhere(t, sectors, func(d *disk.Disk) error {
			return mustOpen(t, d).Checkpoint()
		}, had, had, &r)
	}
}

func TestFailuresOfFormat(t *testing.T) { // W6, J1
	r := dice(6)
	for k, sectors := range situations(t) {
		had := mustOpen(t, filled(t, sectors)).Rows()
		before, after := failEverywhere(t, sectors, Format, had, nil, &r)
		if !before || !after {
			t.Errorf("situation %d: seen before: %v, after: %v", k, before, after)
		}
	}
}

// TestFailuresOfFirstFormat: there is no store, or an empty one.
func TestFailuresOfFirstFormat(t *testing.T) { // W6, J1
	for n := 0; ; n++ {
		for keep := range uint64(8) {
			d := mustNew(t, 196)
			d.Arm(n)
			if Format(d) == nil {
				return
			}
			d.Restart(keep)
			if s, err := Open(d); err == nil {
				wantStore(t, s, 74, nil)
			} else if err != api.ErrText {
				t.Fatalf("Open() = %v", err)
			}
			mustFormat(t, d)
			wantStore(t, mustOpen(t, d), 74, nil)
		}
	}
}

// some returns changes that can be committed.
func some(r *dice) rows {
	var l rows
	for range []int{0, 1, 2, 3, 8, 40}[r.roll(6)] {
		c := api.Change{Key: string([]byte{'a' + byte(r.roll(40))}) + strings.Repeat("k", r.roll(2)), Gone: r.roll(3) == 0}
		if !c.Gone {
			c.Val = strings.Repeat(string([]byte{byte(r.roll(256))}), r.roll(api.MaxVal+1))
		}
		l = append(l, c)
	}
	return l
}

// after returns the rows of a model to which changes are applied.
func after(model map[string]string, l rows) (map[string]string, rows) {
	made := maps.Clone(model)
	for _, c := range l {
		if c.Gone {
			delete(made, c.Key)
		} else {
			made[c.Key] = c.Val
		}
	}
	var sorted rows
	for _, key := range slices.Sorted(maps.Keys(made)) {
		sorted = append(sorted, put(key, made[key]))
	}
	return made, sorted
}

// history is a store whose disk fails now and then, and what it must contain.
type history struct {
	d     *disk.Disk
	s     *Store
	model map[string]string
	room  int
}

// commit commits changes, and finds out after a failure whether they count.
func (h *history) commit(t *testing.T, r *dice, l rows) {
	t.Helper()
	model, want := after(h.model, l)
	err := h.s.Commit(l)
	switch {
	case len(want) > api.MaxRows:
		if err != api.ErrFull {
			t.Fatalf("Commit = %v with %d rows", err, len(want))
		}
		return
	case err == nil:
		if h.room < len(l)+1 {
			h.room = h.d.Sectors() - 122
		}
		h.room -= len(l) + 1
		h.model = model
	case err != api.ErrDown:
		t.Fatalf("Commit = %v", err)
	default:
		h.restart(t, r)
		if slices.Equal(h.s.Rows(), want) {
			h.model = model
		}
	}
}

func (h *history) restart(t *testing.T, r *dice) {
	t.Helper()
	h.d.Restart(r.keep())
	h.s = mustOpen(t, h.d)
	h.room = h.s.Room()
}

func TestLongHistories(t *testing.T) { // J1, J2, J3, J4, W6
	r := dice(7)
	for range 60 {
		d, s := made(t, 196+r.roll(65))
		h := &history{d, s, map[string]string{}, s.Room()}
		for range 150 {
			if r.roll(2) == 0 {
				d.Arm(r.roll(150))
			}
			switch r.roll(12) {
			case 0:
				h.restart(t, &r)
			case 1, 2:
				if err := h.s.Checkpoint(); err == nil {
					h.room = d.Sectors() - 122
				} else {
					h.restart(t, &r)
				}
			default:
				h.commit(t, &r, some(&r))
			}
			if d.Down() {
				t.Fatal("down")
			}
			_, want := after(h.model, nil)
			wantStore(t, h.s, h.room, want)
			wantStore(t, mustOpen(t, d), h.room, want)
		}
	}
}
