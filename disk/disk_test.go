package disk

import (
	"math"
	"strings"
	"testing"

	"counterfoil/api"
)

const all = math.MaxUint64

// padded returns what a sector contains after data was written to it.
func padded(data string) string {
	return data + strings.Repeat("\x00", api.Sector-len(data))
}

func mustNew(t *testing.T, n int) *Disk {
	t.Helper()
	d, err := New(n)
	if d == nil || err != nil {
		t.Fatalf("New(%d) = %v, %v", n, d, err)
	}
	return d
}

func mustWrite(t *testing.T, d *Disk, at int, data string) {
	t.Helper()
	if err := d.Write(at, data); err != nil {
		t.Fatalf("Write(%d, %q) = %v", at, data, err)
	}
}

func mustFlush(t *testing.T, d *Disk) {
	t.Helper()
	if err := d.Flush(); err != nil {
		t.Fatalf("Flush() = %v", err)
	}
}

func wantSectors(t *testing.T, d *Disk, want ...string) {
	t.Helper()
	if d.Sectors() != len(want) {
		t.Fatalf("Sectors() = %d, want %d", d.Sectors(), len(want))
	}
	for at, data := range want {
		if s, err := d.Read(at); s != padded(data) || err != nil {
			t.Fatalf("Read(%d) = %q, %v, want %q", at, s, err, data)
		}
	}
}

// wantDown asks a disk that is down in all ways.
func wantDown(t *testing.T, d *Disk) {
	t.Helper()
	if !d.Down() {
		t.Fatal("not down")
	}
	for _, at := range []int{0, d.Sectors() - 1, d.Sectors(), -1} {
		if s, err := d.Read(at); s != "" || err != api.ErrDown {
			t.Errorf("Read(%d) = %q, %v", at, s, err)
		}
	}
	if err := d.Write(0, "x"); err != api.ErrDown {
		t.Errorf("Write = %v", err)
	}
	if err := d.Flush(); err != api.ErrDown {
		t.Errorf("Flush = %v", err)
	}
	if !d.Down() {
		t.Error("no longer down")
	}
}

func TestNew(t *testing.T) { // G1, Z1
	for _, n := range []int{1, 2, 196, api.Sectors - 1, api.Sectors} {
		d := mustNew(t, n)
		wantSectors(t, d, make([]string, n)...)
		if d.Down() {
			t.Error("down")
		}
	}
	for _, n := range []int{math.MinInt, -1, 0, api.Sectors + 1, math.MaxInt} {
		if d, err := New(n); d != nil || err != api.ErrBound {
			t.Errorf("New(%d) = %v, %v", n, d, err)
		}
	}
}

func TestWrite(t *testing.T) { // G1
	d := mustNew(t, 3)
	mustWrite(t, d, 1, "hay and oats")
	mustWrite(t, d, 2, strings.Repeat("\xff", api.Sector))
	wantSectors(t, d, "", "hay and oats", strings.Repeat("\xff", api.Sector))
	mustWrite(t, d, 1, "rye")
	mustWrite(t, d, 2, "")
	mustWrite(t, d, 0, "\x00a\x00")
	wantSectors(t, d, "\x00a\x00", "rye", "")
	mustFlush(t, d)
	wantSectors(t, d, "\x00a\x00", "rye", "")
}

func TestBounds(t *testing.T) { // G1, Z1, Z3
	d := mustNew(t, 2)
	mustWrite(t, d, 0, "hay")
	mustWrite(t, d, 1, "oats")
	d.Arm(1)
	for _, at := range []int{math.MinInt, -1, 2, api.Sectors, math.MaxInt} {
		if s, err := d.Read(at); s != "" || err != api.ErrBound {
			t.Errorf("Read(%d) = %q, %v", at, s, err)
		}
		if err := d.Write(at, "x"); err != api.ErrBound {
			t.Errorf("Write(%d) = %v", at, err)
		}
	}
	for _, many := range []int{api.Sector + 1, 2 * api.Sector, 10000} {
		if err := d.Write(0, strings.Repeat("x", many)); err != api.ErrBound {
			t.Errorf("Write of %d bytes = %v", many, err)
		}
	}
	wantSectors(t, d, "hay", "oats")
	// None of these was a step, or is one of the writes that have a number.
	mustWrite(t, d, 0, "rye")
	if err := d.Flush(); err != api.ErrDown {
		t.Fatalf("Flush = %v", err)
	}
	// Of Write's errors, that of the bounds is the first one.
	if err := d.Write(2, "x"); err != api.ErrBound {
		t.Errorf("Write = %v", err)
	}
	if err := d.Write(0, strings.Repeat("x", api.Sector+1)); err != api.ErrBound {
		t.Errorf("Write = %v", err)
	}
	wantDown(t, d)
	d.Restart(0b100)
	wantSectors(t, d, "rye", "")
}

func TestBoundsOfAnArmedDisk(t *testing.T) { // G1, G2
	d := mustNew(t, 1)
	d.Arm(0)
	if err := d.Write(1, "x"); err != api.ErrBound || d.Down() {
		t.Errorf("Write = %v, Down() = %v", err, d.Down())
	}
}

func TestArm(t *testing.T) { // G2
	for n := range 5 {
		d := mustNew(t, 2)
		d.Arm(n)
		for k := range n {
			if d.Down() {
				t.Fatalf("Arm(%d): down after %d steps", n, k)
			}
			if k%2 == 0 {
				mustWrite(t, d, k%2, "hay")
			} else {
				mustFlush(t, d)
			}
			// These are no steps.
			d.Read(0)
			d.Sectors()
		}
		if d.Down() {
			t.Fatalf("Arm(%d): down after as many steps", n)
		}
		if n%2 == 0 {
			if err := d.Write(0, "x"); err != api.ErrDown {
				t.Errorf("Arm(%d): Write = %v", n, err)
			}
		} else if err := d.Flush(); err != api.ErrDown {
			t.Errorf("Arm(%d): Flush = %v", n, err)
		}
		wantDown(t, d)
	}
}

func TestArmAgain(t *testing.T) { // G2, Z1
	d := mustNew(t, 1)
	for _, n := range []int{-1, math.MinInt, math.MaxInt} {
		d.Arm(0)
		d.Arm(n)
		for range 200 {
			mustWrite(t, d, 0, "hay")
			mustFlush(t, d)
		}
	}
	d.Arm(1)
	mustFlush(t, d)
	d.Arm(1)
	mustFlush(t, d)
	if err := d.Flush(); err != api.ErrDown {
		t.Fatalf("Flush = %v", err)
	}
	for _, n := range []int{-1, 0, 5} {
		d.Arm(n)
		wantDown(t, d)
	}
	d.Restart(0)
	wantSectors(t, d, "hay")
}

func TestWriteThatFails(t *testing.T) { // G2, G3, Z1
	d := mustNew(t, 2)
	mustWrite(t, d, 0, "hay")
	d.Arm(0)
	if err := d.Write(1, "oats"); err != api.ErrDown {
		t.Fatalf("Write = %v", err)
	}
	if err := d.Write(0, "rye"); err != api.ErrDown {
		t.Fatalf("Write = %v", err)
	}
	d.Restart(all)
	wantSectors(t, d, "hay", "")
}

func TestFlushThatFails(t *testing.T) { // G2, G3, Z1
	d := mustNew(t, 2)
	mustWrite(t, d, 0, "hay")
	mustFlush(t, d)
	mustWrite(t, d, 0, "rye")
	d.Arm(0)
	if err := d.Flush(); err != api.ErrDown {
		t.Fatalf("Flush = %v", err)
	}
	d.Restart(0)
	wantSectors(t, d, "hay", "")
}

func TestRestart(t *testing.T) { // G3
	for keep, want := range [][]string{
		{"hay", ""}, {"a", ""}, {"hay", "b"}, {"a", "b"},
		{"c", ""}, {"c", ""}, {"c", "b"}, {"c", "b"},
	} {
		for _, fails := range []bool{false, true} {
			d := mustNew(t, 2)
			mustWrite(t, d, 0, "hay")
			mustFlush(t, d)
			mustWrite(t, d, 0, "a")
			mustWrite(t, d, 1, "b")
			mustWrite(t, d, 0, "c")
			if fails {
				d.Arm(0)
				d.Flush()
			}
			d.Restart(uint64(keep))
			if d.Down() {
				t.Fatal("down")
			}
			wantSectors(t, d, want...)
			// What is there is durable now.
			d.Restart(0)
			wantSectors(t, d, want...)
		}
	}
}

func TestRestartDisarms(t *testing.T) { // G3
	for _, n := range []int{0, 1, 2} {
		d := mustNew(t, 1)
		d.Arm(n)
		d.Restart(0)
		for range 4 {
			mustWrite(t, d, 0, "hay")
			mustFlush(t, d)
		}
	}
}

func TestRestartAfterManyWrites(t *testing.T) { // G3
	for _, keep := range []uint64{0, 1, 1 << 5, 1 << 63, 0xaaaaaaaaaaaaaaaa, 0x8000000000000001, all} {
		d := mustNew(t, 200)
		want := make([]string, 200)
		for at := range want {
			mustWrite(t, d, at, "x")
			if keep&(1<<(at%64)) != 0 {
				want[at] = "x"
			}
		}
		d.Restart(keep)
		wantSectors(t, d, want...)
	}
}

func TestNumbersOfWritesBeginAgain(t *testing.T) { // G3
	d := mustNew(t, 3)
	mustWrite(t, d, 0, "a")
	mustFlush(t, d)
	mustWrite(t, d, 1, "b")
	mustWrite(t, d, 2, "c")
	d.Restart(1)
	wantSectors(t, d, "a", "b", "")
	mustWrite(t, d, 1, "d")
	mustWrite(t, d, 2, "e")
	d.Restart(2)
	wantSectors(t, d, "a", "b", "e")
}

func TestDisksAreSeparate(t *testing.T) { // Z2
	d, e := mustNew(t, 1), mustNew(t, 1)
	mustWrite(t, d, 0, "hay")
	was, _ := d.Read(0)
	mustWrite(t, d, 0, "rye")
	d.Arm(0)
	d.Flush()
	wantSectors(t, e, "")
	if e.Down() || was != padded("hay") {
		t.Errorf("Down() = %v, %q", e.Down(), was)
	}
}

// dice is a fixed sequence of numbers, the same in each run.
type dice uint64

func (r *dice) roll(n int) int {
	*r = *r*6364136223846793005 + 1442695040888963407
	return int(uint64(*r) >> 33 % uint64(n))
}

// model tells what a disk contains from all that was written to it.
type model struct {
	durable [3]string
	writes  []string // the sector, and then the data
	armed   bool
	left    int
	down    bool
}

func (m *model) step() bool {
	if m.armed && m.left == 0 {
		m.down = true
	}
	m.left--
	return !m.down
}

func (m *model) after(keep func(k int) bool) [3]string {
	l := m.durable
	for k, w := range m.writes {
		if keep(k) {
			l[w[0]-'0'] = w[1:]
		}
	}
	return l
}

// act does the same with a disk and its model.
func act(t *testing.T, d *Disk, m *model, r *dice) {
	t.Helper()
	var err error
	ok := true
	switch k := r.roll(20); {
	case k < 12:
		s := string([]byte{'0' + byte(r.roll(3))}) + strings.Repeat("x", r.roll(4)) + string([]byte{byte(r.roll(256))})
		err = d.Write(int(s[0]-'0'), s[1:])
		if ok = m.step(); ok {
			m.writes = append(m.writes, s)
		}
	case k < 15:
		err = d.Flush()
		if ok = m.step(); ok {
			m.durable, m.writes = m.after(func(int) bool { return true }), nil
		}
	case k < 17:
		n := r.roll(30) - 5
		d.Arm(n)
		m.armed, m.left = n >= 0, n
	case k < 18 || m.down:
		keep := uint64(r.roll(1<<30))<<34 ^ uint64(r.roll(1<<30))
		d.Restart(keep)
		*m = model{durable: m.after(func(k int) bool { return keep&(1<<(k%64)) != 0 })}
	}
	if ok != (err == nil) || !ok && err != api.ErrDown {
		t.Fatalf("%v, want it to succeed: %v", err, ok)
	}
}

func TestLongHistories(t *testing.T) { // G1, G2, G3
	r := dice(1)
	for range 100 {
		d, m := mustNew(t, 3), &model{}
		for range 500 {
			act(t, d, m, &r)
			if m.down {
				wantDown(t, d)
				continue
			}
			if d.Down() {
				t.Fatal("down")
			}
			now := m.after(func(int) bool { return true })
			wantSectors(t, d, now[:]...)
		}
	}
}
