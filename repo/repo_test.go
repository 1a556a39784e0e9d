package repo

import (
	"encoding/binary"
	"math"
	"slices"
	"strings"
	"testing"

	"counterfoil/api"
	"counterfoil/disk"
	"counterfoil/image"
	"counterfoil/log"
	"counterfoil/store"
	"counterfoil/vault"
)

type (
	rows = []api.Change
	puts = []api.Put
)

// logAt is the first sector of the log of a store (J1).
const logAt = 122

// noNumbers returns numbers that no point, session or mount has.
func noNumbers() []int { return []int{math.MinInt, -1, 0, 1000, math.MaxInt} }

func mustNew(t *testing.T, n int) *disk.Disk {
	t.Helper()
	d, err := disk.New(n)
	if err != nil {
		t.Fatal(err)
	}
	return d
}

func mustFormat(t *testing.T, d *disk.Disk) {
	t.Helper()
	if err := Format(d); err != nil {
		t.Fatalf("Format() = %v", err)
	}
}

func mustOpen(t *testing.T, d *disk.Disk) *Repo {
	t.Helper()
	r, err := Open(d)
	if r == nil || err != nil {
		t.Fatalf("Open() = %v, %v", r, err)
	}
	return r
}

// made returns a new repository on a disk of n sectors.
func made(t *testing.T, n int) (*disk.Disk, *Repo) {
	t.Helper()
	d := mustNew(t, n)
	mustFormat(t, d)
	return d, mustOpen(t, d)
}

// contents returns all sectors of a disk, to be written again by filled.
func contents(t *testing.T, d *disk.Disk) []string {
	t.Helper()
	l := make([]string, d.Sectors())
	for k := range l {
		var err error
		if l[k], err = d.Read(k); err != nil {
			t.Fatal(err)
		}
	}
	return l
}

func filled(t *testing.T, sectors []string) *disk.Disk {
	t.Helper()
	d := mustNew(t, len(sectors))
	for k, s := range sectors {
		if err := d.Write(k, s); err != nil {
			t.Fatal(err)
		}
	}
	if err := d.Flush(); err != nil {
		t.Fatal(err)
	}
	return d
}

// isSame compares all that two vaults contain.
func isSame(v, w *vault.Vault) bool { return slices.Equal(image.Rows(v), image.Rows(w)) }

func wantVault(t *testing.T, r *Repo, want *vault.Vault) {
	t.Helper()
	if v := r.Vault(); v == nil || !isSame(v, want) {
		t.Fatalf("Vault() = %v, want %v", image.Rows(v), image.Rows(want))
	}
}

// wantStored compares the vault, also after a restart of the disk that loses
// whatever may be lost, and the rows of the store.
func wantStored(t *testing.T, d *disk.Disk, r *Repo, want *vault.Vault) {
	t.Helper()
	wantVault(t, r, want)
	d.Restart(0)
	wantVault(t, mustOpen(t, d), want)
	s, err := store.Open(d)
	if err != nil || !slices.Equal(s.Rows(), image.Rows(want)) {
		t.Fatalf("the store has %v, want %v", s.Rows(), image.Rows(want))
	}
}

func wantNumber(t *testing.T, call string, n int, err error, want int, fail error) {
	t.Helper()
	if n != want || err != fail {
		t.Fatalf("%s = %d, %v, want %d, %v", call, n, err, want, fail)
	}
}

func wantBegin(t *testing.T, r *Repo, base, disk, size, want int) {
	t.Helper()
	n, err := r.Begin(base, disk, size)
	wantNumber(t, "Begin", n, err, want, nil)
}

func wantBeginError(t *testing.T, r *Repo, base, disk, size int, want error) {
	t.Helper()
	if n, err := r.Begin(base, disk, size); n != 0 || err != want {
		t.Errorf("Begin(%d, %d, %d) = %d, %v, want %v", base, disk, size, n, err, want)
	}
}

func wantFinish(t *testing.T, r *Repo, id, want int, fail error) {
	t.Helper()
	n, err := r.Finish(id)
	wantNumber(t, "Finish", n, err, want, fail)
}

func wantAgain(t *testing.T, r *Repo, id, want int, fail error) {
	t.Helper()
	n, err := r.Again(id)
	wantNumber(t, "Again", n, err, want, fail)
}

func wantMount(t *testing.T, r *Repo, id, want int, fail error) {
	t.Helper()
	n, err := r.Mount(id)
	wantNumber(t, "Mount", n, err, want, fail)
}

func wantError(t *testing.T, call string, err, want error) {
	t.Helper()
	if err != want {
		t.Fatalf("%s = %v, want %v", call, err, want)
	}
}

func wantPut(t *testing.T, r *Repo, id int, l ...api.Put) {
	t.Helper()
	for _, p := range l {
		wantError(t, "Put", r.Put(id, p.At, p.Data), nil)
	}
}

func wantKeep(t *testing.T, r *Repo, disk, many int, want ...int) {
	t.Helper()
	if l, err := r.Keep(disk, many); err != nil || !slices.Equal(l, want) {
		t.Fatalf("Keep(%d, %d) = %v, %v, want %v", disk, many, l, err, want)
	}
}

// add makes a point.
func add(t *testing.T, r *Repo, base, disk, size int, l ...api.Put) int {
	t.Helper()
	id, err := r.Begin(base, disk, size)
	if err != nil {
		t.Fatalf("Begin() = %v", err)
	}
	wantPut(t, r, id, l...)
	point, err := r.Finish(id)
	if err != nil {
		t.Fatalf("Finish() = %v", err)
	}
	return point
}

func ingest(t *testing.T, v *vault.Vault, base, disk, size int, l ...api.Put) {
	t.Helper()
	if _, err := v.Ingest(base, disk, size, l); err != nil {
		t.Fatalf("Ingest() = %v", err)
	}
}

// everywhere returns puts of one text at all positions from one to another.
func everywhere(from, to int, data string) puts {
	var l puts
	for at := from; at < to; at++ {
		l = append(l, api.Put{At: at, Data: data})
	}
	return l
}

func TestFormat(t *testing.T) { // K1
	for _, n := range []int{196, 197, api.Sectors} {
		d := mustNew(t, n)
		mustFormat(t, d)
		d.Restart(0)
		s, err := store.Open(d)
		if err != nil || !slices.Equal(s.Rows(), rows{{Key: "x", Val: "001"}}) {
			t.Fatalf("%d sectors: %v, %v", n, s.Rows(), err)
		}
		wantStored(t, d, mustOpen(t, d), vault.New())
	}
}

func TestFormatWhateverThereIs(t *testing.T) { // K1
	d, r := made(t, 196)
	add(t, r, 0, 1, 8, api.Put{At: 2, Data: "hay"})
	for _, save := range []bool{false, true} {
		if save {
			wantError(t, "Save", r.Save(), nil)
		}
		e := filled(t, contents(t, d))
		mustFormat(t, e)
		wantStored(t, e, mustOpen(t, e), vault.New())
		if n := add(t, mustOpen(t, e), 0, 1, 8); n != 1 {
			t.Errorf("the first point is %d", n)
		}
	}
	junk := slices.Repeat([]string{strings.Repeat("c\xff", api.Sector/2)}, 196)
	d = filled(t, junk)
	mustFormat(t, d)
	wantStored(t, d, mustOpen(t, d), vault.New())
}

func TestFormatErrors(t *testing.T) { // K1, Z1, Z3
	for n := 1; n < 196; n++ {
		d := mustNew(t, n)
		was := contents(t, d)
		wantError(t, "Format", Format(d), api.ErrFull)
		if !slices.Equal(contents(t, d), was) {
			t.Fatalf("%d sectors: the error has changed the disk", n)
		}
	}
	d := mustNew(t, 195)
	d.Arm(0)
	d.Flush()
	wantError(t, "Format of a small disk that is down", Format(d), api.ErrFull)
	n := 0
	for {
		d := mustNew(t, 196)
		d.Arm(n)
		err := Format(d)
		if err == nil {
			break
		}
		wantError(t, "Format", err, api.ErrDown)
		wantError(t, "Format of a disk that is down", Format(d), api.ErrDown)
		d.Restart(0)
		mustFormat(t, d)
		wantStored(t, d, mustOpen(t, d), vault.New())
		n++
	}
	// The store and its first commit take at least a write and a flush each.
	if n < 4 {
		t.Errorf("Format takes %d steps", n)
	}
}

func TestOpenErrors(t *testing.T) { // K1, Z1, Z3
	wantNone := func(d *disk.Disk, want error) {
		t.Helper()
		if r, err := Open(d); r != nil || err != want {
			t.Fatalf("Open() = %v, %v, want %v", r, err, want)
		}
	}
	for _, n := range []int{1, 195, 196, api.Sectors} {
		d := mustNew(t, n)
		wantNone(d, api.ErrText)
		d.Arm(0)
		d.Flush()
		wantNone(d, api.ErrDown)
	}
	for _, l := range []rows{
		nil, {{Key: "x", Val: "000"}}, {{Key: "x", Val: "1"}}, {{Key: "x"}}, {{Key: "y", Val: "001"}},
		{{Key: "x", Val: "001"}, {Key: "y", Val: "001"}},
		{{Key: "p001", Val: "001008000"}}, {{Key: "p001", Val: "001008000"}, {Key: "x", Val: "001"}},
		{{Key: "p001", Val: "001008001"}, {Key: "x", Val: "002"}}, {{Key: "b001", Val: "001hay"}, {Key: "x", Val: "001"}},
	} {
		d := mustNew(t, 196)
		wantError(t, "store.Format", store.Format(d), nil)
		s, err := store.Open(d)
		wantError(t, "store.Open", err, nil)
		wantError(t, "Commit", s.Commit(l), nil)
		wantNone(d, api.ErrText)
		d.Arm(0)
		d.Flush()
		wantNone(d, api.ErrDown)
	}
}

func TestOpenReadsTheRows(t *testing.T) { // K1
	d := mustNew(t, 196)
	wantError(t, "store.Format", store.Format(d), nil)
	s, err := store.Open(d)
	wantError(t, "store.Open", err, nil)
	v := vault.New()
	ingest(t, v, 0, 7, 16, api.Put{At: 0, Data: "\x00\xff"}, api.Put{At: 15, Data: "123456"})
	ingest(t, v, 1, 7, 9, api.Put{At: 8, Data: "1"})
	wantError(t, "Commit", s.Commit(image.Rows(v)), nil)
	r := mustOpen(t, d)
	wantStored(t, d, r, v)
	r = mustOpen(t, d)
	if n := add(t, r, 2, 7, 9); n != 3 {
		t.Errorf("the next point is %d", n)
	}
	ingest(t, v, 2, 7, 9)
	wantStored(t, d, r, v)
}

// Sessions and mounts are not stored, and nothing on the disk tells of them.
func TestOpenWithoutSessionsAndMounts(t *testing.T) { // K1, K2, K6
	d, r := made(t, 196)
	add(t, r, 0, 1, 8, api.Put{At: 2, Data: "hay"})
	was, v := contents(t, d), r.Vault()
	// None of these calls is a step.
	d.Arm(0)
	wantBegin(t, r, 1, 1, 8, 2)
	wantBegin(t, r, 0, 1, 8, 3)
	wantMount(t, r, 1, 4, nil)
	wantMount(t, r, 1, 5, nil)
	wantPut(t, r, 2, api.Put{At: 0, Data: "x"})
	wantError(t, "Write", r.Write(4, 2, "straw"), nil)
	wantError(t, "Abort", r.Abort(3), nil)
	wantError(t, "Unmount", r.Unmount(5), nil)
	if d.Down() || !slices.Equal(contents(t, d), was) {
		t.Fatal("the disk has changed")
	}
	wantStored(t, d, r, v)
	r = mustOpen(t, d)
	for id := 1; id <= 6; id++ {
		wantError(t, "Put", r.Put(id, 0, "x"), api.ErrNone)
		wantFinish(t, r, id, 0, api.ErrNone)
		wantError(t, "Abort", r.Abort(id), api.ErrNone)
		wantNoMount(t, r, id)
	}
	wantBegin(t, r, 0, 1, 8, 1)
	wantMount(t, r, 1, 2, nil)
	wantRead(t, r, 2, 2, "hay")
	wantError(t, "Unmount", r.Unmount(2), nil)
	wantError(t, "Drop", r.Drop(1), nil)
}

// Sessions and mounts have one sequence of numbers, of which none is used
// again; errors use none.
func TestNumbersOfSessionsAndMounts(t *testing.T) { // K1, K2, K6
	_, r := made(t, 196)
	wantBegin(t, r, 0, 1, 8, 1)
	wantFinish(t, r, 1, 1, nil)
	wantMount(t, r, 1, 2, nil)
	wantBegin(t, r, 1, 1, 8, 3)
	wantMount(t, r, 1, 4, nil)
	wantError(t, "Unmount", r.Unmount(4), nil)
	wantError(t, "Abort", r.Abort(3), nil)
	wantBeginError(t, r, 0, 0, 8, api.ErrBound)
	wantBeginError(t, r, 9, 1, 8, api.ErrNone)
	wantBeginError(t, r, 1, 2, 8, api.ErrShape)
	wantMount(t, r, 9, 0, api.ErrNone)
	wantMount(t, r, 1, 5, nil)
	wantMount(t, r, 1, 6, nil)
	wantMount(t, r, 1, 0, api.ErrFull)
	wantBegin(t, r, 0, 1, 8, 7)
	wantBegin(t, r, 0, 1, 8, 8)
	wantBegin(t, r, 0, 1, 8, 9)
	wantBeginError(t, r, 0, 1, 8, api.ErrFull)
	wantError(t, "Unmount", r.Unmount(2), nil)
	wantMount(t, r, 1, 10, nil)
	wantError(t, "Abort", r.Abort(9), nil)
	// There is no highest number.
	for n := 11; n < 1100; n++ {
		wantBegin(t, r, 0, 1, 8, n)
		wantError(t, "Abort", r.Abort(n), nil)
	}
}

func TestVaultIsACopy(t *testing.T) { // K1, Z2
	d, r := made(t, 196)
	add(t, r, 0, 1, 8, api.Put{At: 2, Data: "hay"}, api.Put{At: 5, Data: "oats"})
	add(t, r, 1, 1, 8, api.Put{At: 5, Data: "bran"})
	want, v, other := r.Vault().Copy(), r.Vault(), r.Vault()
	v.L[0].Size, v.L[1].Root, v.Next = 1, 0, 99
	v.L = append(v.L, api.Point{ID: 3})
	clear(v.X.N)
	clear(v.X.P.L)
	wantStored(t, d, r, want)
	if !isSame(other, want) {
		t.Error("two copies share memory")
	}
	// A copy stays as it was, whatever happens to the repository.
	r = mustOpen(t, d)
	was := r.Vault()
	wantError(t, "Drop", r.Drop(1), nil)
	add(t, r, 2, 1, 3, api.Put{At: 0, Data: "x"})
	if !isSame(was, want) {
		t.Error("a copy has changed")
	}
}

// lastEntry returns the last entry of the log of a store, and how many sectors
// are free.
func lastEntry(t *testing.T, d *disk.Disk) (rows, int) {
	t.Helper()
	sector, err := d.Read(logAt)
	if err != nil {
		t.Fatal(err)
	}
	first := int(binary.LittleEndian.Uint32([]byte(sector[1:5])))
	l, entries, err := log.Open(d, logAt, d.Sectors()-logAt, first)
	if err != nil || len(entries) == 0 {
		t.Fatalf("%v, %v", entries, err)
	}
	return entries[len(entries)-1], l.Room()
}

// TestOneCommit finds the changes of each call in the log.
func TestOneCommit(t *testing.T) { // K1, K3, K4, K5
	d, r := made(t, api.Sectors)
	v := vault.New()
	_, room := lastEntry(t, d)
	want := func(action func() error) {
		t.Helper()
		was := image.Rows(v)
		wantError(t, "an action", action(), nil)
		changes := image.Changes(was, image.Rows(v))
		got, left := lastEntry(t, d)
		if room -= len(changes) + 1; !slices.Equal(got, changes) || left != room {
			t.Fatalf("entry %v, room %d, want %v, %d", got, left, changes, room)
		}
		wantVault(t, r, v)
	}
	want(func() error {
		ingest(t, v, 0, 1, 8, api.Put{At: 2, Data: "hay"}, api.Put{At: 5, Data: "oats"})
		add(t, r, 0, 1, 8, api.Put{At: 2, Data: "hay"}, api.Put{At: 5, Data: "oats"})
		return nil
	})
	want(func() error {
		ingest(t, v, 1, 1, 3)
		add(t, r, 1, 1, 3)
		return nil
	})
	want(func() error {
		v.Again(2)
		wantAgain(t, r, 2, 3, nil)
		return nil
	})
	want(func() error {
		v.Drop(1)
		return r.Drop(1)
	})
	want(func() error {
		v.Drop(2)
		wantKeep(t, r, 1, 1, 2)
		return nil
	})
	// Without a change nothing is committed.
	wantKeep(t, r, 1, 1)
	if _, left := lastEntry(t, d); left != room {
		t.Errorf("room %d, want %d", left, room)
	}
	wantStored(t, d, r, v)
}

// Each point that Keep drops is a commit of its own.
func TestCommitsOfKeep(t *testing.T) { // K1, K5
	d, r := made(t, api.Sectors)
	for range 4 {
		add(t, r, 0, 1, 8, api.Put{At: 2, Data: "hay"})
	}
	v := r.Vault()
	_, room := lastEntry(t, d)
	var changes rows
	for id := 1; id <= 3; id++ {
		was := image.Rows(v)
		v.Drop(id)
		changes = image.Changes(was, image.Rows(v))
		room -= len(changes) + 1
	}
	wantKeep(t, r, 1, 1, 1, 2, 3)
	if got, left := lastEntry(t, d); !slices.Equal(got, changes) || left != room {
		t.Errorf("entry %v, room %d, want %v, %d", got, left, changes, room)
	}
}

func TestAgain(t *testing.T) { // K4
	d, r := made(t, 196)
	add(t, r, 0, 3, 8, api.Put{At: 2, Data: "hay"})
	v := r.Vault()
	for _, id := range append(noNumbers(), 2) {
		wantAgain(t, r, id, 0, api.ErrNone)
	}
	for id := 2; id <= api.MaxPoints; id++ {
		v.Again(id - 1)
		wantAgain(t, r, id-1, id, nil)
	}
	wantAgain(t, r, 1, 0, api.ErrFull)
	wantAgain(t, r, 7, 0, api.ErrNone)
	wantStored(t, d, r, v)
	r = mustOpen(t, d)
	// A point that is in use can be had again.
	wantError(t, "Drop", r.Drop(6), nil)
	wantMount(t, r, 1, 1, nil)
	wantBegin(t, r, 1, 3, 8, 2)
	wantAgain(t, r, 1, 7, nil)
	wantError(t, "Drop", r.Drop(7), nil)
}

func TestDropErrors(t *testing.T) { // K4, W5, Z1, Z3
	d, r := made(t, 196)
	add(t, r, 0, 1, 8, api.Put{At: 2, Data: "hay"})
	wantAgain(t, r, 1, 2, nil)
	v := r.Vault()
	wantBegin(t, r, 1, 1, 8, 2)
	// A session without a base uses no point, not even one with the number 0.
	wantBegin(t, r, 0, 1, 8, 3)
	wantMount(t, r, 2, 4, nil)
	for _, id := range append(noNumbers(), 3, 4) {
		wantError(t, "Drop", r.Drop(id), api.ErrNone)
	}
	for _, id := range []int{1, 2} {
		wantError(t, "Drop", r.Drop(id), api.ErrBusy)
	}
	wantVault(t, r, v)
	wantStored(t, d, mustOpen(t, d), v)
}

func TestDropOfWhatWasUsed(t *testing.T) { // K4, W5
	for _, free := range []func(*Repo) error{
		func(r *Repo) error { return r.Abort(2) },
		func(r *Repo) error { _, err := r.Finish(2); return err },
	} {
		_, r := made(t, 196)
		add(t, r, 0, 1, 8, api.Put{At: 2, Data: "hay"})
		wantBegin(t, r, 1, 1, 8, 2)
		wantError(t, "Drop", r.Drop(1), api.ErrBusy)
		wantError(t, "closing", free(r), nil)
		wantError(t, "Drop", r.Drop(1), nil)
		wantError(t, "Drop", r.Drop(1), api.ErrNone)
	}
	_, r := made(t, 196)
	add(t, r, 0, 1, 8)
	wantMount(t, r, 1, 2, nil)
	wantError(t, "Drop", r.Drop(1), api.ErrBusy)
	wantError(t, "Unmount", r.Unmount(2), nil)
	wantError(t, "Drop", r.Drop(1), nil)
}

// A point is free when the last of those that use it is closed.
func TestDropOfWhatManyUse(t *testing.T) { // K4, W5
	d, r := made(t, 196)
	add(t, r, 0, 1, 8, api.Put{At: 2, Data: "hay"})
	for id := 2; id <= 4; id++ {
		wantBegin(t, r, 1, 1, 8, id)
	}
	for id := 5; id <= 7; id++ {
		wantMount(t, r, 1, id, nil)
	}
	for _, close := range []func() error{
		func() error { return r.Abort(2) }, func() error { return r.Unmount(5) },
		func() error { _, err := r.Finish(3); return err }, func() error { return r.Unmount(7) },
		func() error { return r.Unmount(6) }, func() error { return r.Abort(4) },
	} {
		wantError(t, "Drop", r.Drop(1), api.ErrBusy)
		wantKeep(t, r, 1, 1)
		wantError(t, "closing", close(), nil)
	}
	v := r.Vault()
	v.Drop(1)
	wantError(t, "Drop", r.Drop(1), nil)
	wantStored(t, d, r, v)
	if s, err := v.Read(2, 2); s != "hay" || err != nil {
		t.Errorf("the point that was based on it has %q, %v", s, err)
	}
}

func TestNothingIsLeftOver(t *testing.T) { // K4, K5, W4
	d, r := made(t, 196)
	add(t, r, 0, 1, 16, everywhere(0, 16, "a")...)
	add(t, r, 1, 1, 16, everywhere(3, 9, "b")...)
	add(t, r, 2, 1, 5, everywhere(0, 2, "c")...)
	for _, id := range []int{2, 1, 3} {
		wantError(t, "Drop", r.Drop(id), nil)
	}
	v := vault.New()
	v.Next = 4
	wantStored(t, d, r, v)
}

func TestKeep(t *testing.T) { // K5, W5
	disks := []int{1, 2, 1, 1, 2, 1} // of the points 1 to 6
	for _, x := range []struct {
		disk, many int
		want       []int
	}{
		{1, 0, []int{1, 3, 4, 6}}, {1, 1, []int{1, 3, 4}}, {1, 2, []int{1, 3}}, {1, 3, []int{1}}, {1, 4, nil}, {1, 5, nil},
		{1, math.MaxInt, nil}, {2, 0, []int{2, 5}}, {2, 1, []int{2}}, {2, 2, nil}, {3, 0, nil},
		{0, 0, nil}, {-1, 0, nil}, {math.MinInt, 0, nil}, {math.MaxInt, 0, nil},
	} {
		d, r := made(t, 196)
		for _, disk := range disks {
			add(t, r, 0, disk, 8, api.Put{At: 2, Data: "hay"})
		}
		v := r.Vault()
		for _, id := range x.want {
			v.Drop(id)
		}
		wantKeep(t, r, x.disk, x.many, x.want...)
		wantKeep(t, r, x.disk, x.many)
		wantStored(t, d, r, v)
	}
}

// Points that are in use count among the newest ones, but are not dropped.
func TestKeepOfWhatIsUsed(t *testing.T) { // K5, W5
	for _, x := range []struct {
		session, mount, many int
		want                 []int
	}{
		{1, 2, 0, []int{3, 4, 5}}, {1, 2, 2, []int{3}}, {5, 4, 2, []int{1, 2, 3}}, {5, 5, 1, []int{1, 2, 3, 4}},
		{3, 1, 1, []int{2, 4}}, {2, 2, 3, []int{1}}, {1, 2, 3, nil}, {5, 4, 0, []int{1, 2, 3}},
	} {
		d, r := made(t, 196)
		for range 5 {
			add(t, r, 0, 1, 8, api.Put{At: 2, Data: "hay"})
		}
		wantBegin(t, r, x.session, 1, 8, 6)
		wantMount(t, r, x.mount, 7, nil)
		v := r.Vault()
		for _, id := range x.want {
			v.Drop(id)
		}
		wantKeep(t, r, 1, x.many, x.want...)
		wantRead(t, r, 7, 2, "hay")
		wantStored(t, d, r, v)
	}
}

func TestKeepErrors(t *testing.T) { // K5, Z1
	d, r := made(t, 196)
	for range 3 {
		add(t, r, 0, 1, 8)
	}
	v := r.Vault()
	for _, many := range []int{-1, -2, math.MinInt} {
		for _, disk := range []int{1, 2, 0, -1} {
			if l, err := r.Keep(disk, many); len(l) != 0 || err != api.ErrBound {
				t.Errorf("Keep(%d, %d) = %v, %v", disk, many, l, err)
			}
		}
	}
	wantStored(t, d, r, v)
	// Some of them have been dropped, but with an error none is returned.
	for n := range 12 {
		d, r := made(t, 196)
		for range 3 {
			add(t, r, 0, 1, 8)
		}
		d.Arm(n)
		if l, err := r.Keep(1, 0); len(l) != 0 || err != api.ErrDown {
			t.Errorf("step %d: Keep() = %v, %v", n, l, err)
		}
	}
}

func TestListOfKeepIsNew(t *testing.T) { // K5, Z2
	_, r := made(t, 196)
	for range 4 {
		add(t, r, 0, 1, 8)
	}
	l, _ := r.Keep(1, 2)
	other, _ := r.Keep(1, 1)
	l = append(l, 9, 9)
	clear(l)
	if !slices.Equal(other, []int{3}) {
		t.Errorf("%v", other)
	}
	wantKeep(t, r, 1, 0, 4)
}

func TestTheLastID(t *testing.T) { // K1, K3, K4
	d, r := made(t, 196)
	add(t, r, 0, 1, 8, api.Put{At: 2, Data: "hay"})
	for id := 2; id <= api.MaxID; id++ {
		wantAgain(t, r, id-1, id, nil)
		wantError(t, "Drop", r.Drop(id-1), nil)
	}
	v := r.Vault()
	for range 2 {
		wantAgain(t, r, api.MaxID, 0, api.ErrFull)
		wantBegin(t, r, 0, 1, 8, r.last+1)
		wantFinish(t, r, r.last, 0, api.ErrFull)
		wantFinish(t, r, r.last, 0, api.ErrFull)
		wantError(t, "Abort", r.Abort(r.last), nil)
		wantStored(t, d, r, v)
		r = mustOpen(t, d)
	}
	wantError(t, "Drop", r.Drop(api.MaxID), nil)
	wantError(t, "Save", r.Save(), nil)
	v.Drop(api.MaxID)
	wantStored(t, d, r, v)
}

func TestSave(t *testing.T) { // K6
	d, r := made(t, 196)
	add(t, r, 0, 1, 8, api.Put{At: 2, Data: "hay"})
	wantBegin(t, r, 1, 1, 8, 2)
	wantPut(t, r, 2, api.Put{At: 0, Data: "x"})
	wantMount(t, r, 1, 3, nil)
	wantError(t, "Write", r.Write(3, 2, "straw"), nil)
	v := r.Vault()
	for range 3 {
		wantError(t, "Save", r.Save(), nil)
		wantVault(t, r, v)
		s, err := store.Open(d)
		if err != nil || s.Room() != 196-logAt || !slices.Equal(s.Rows(), image.Rows(v)) {
			t.Fatalf("rows %v, room %d, %v", s.Rows(), s.Room(), err)
		}
	}
	// Sessions and mounts go on, and nothing of them is saved.
	wantRead(t, r, 3, 2, "straw")
	wantFinish(t, r, 2, 2, nil)
	ingest(t, v, 1, 1, 8, api.Put{At: 0, Data: "x"})
	wantStored(t, d, r, v)
	r = mustOpen(t, d)
	d.Arm(0)
	wantError(t, "Save", r.Save(), api.ErrDown)
	wantStored(t, d, r, v)
}

func TestReposAreSeparate(t *testing.T) { // Z2
	d, r := made(t, 196)
	e, other := made(t, 200)
	add(t, r, 0, 1, 8, api.Put{At: 2, Data: "hay"})
	add(t, other, 0, 2, 3)
	wantBegin(t, r, 0, 1, 8, 2)
	wantBegin(t, other, 0, 1, 8, 2)
	wantMount(t, r, 1, 3, nil)
	wantError(t, "Write", r.Write(3, 0, "x"), nil)
	wantMount(t, other, 1, 3, nil)
	wantRead(t, other, 3, 0, "")
	wantPut(t, r, 2, api.Put{At: 7, Data: "x"})
	wantFinish(t, other, 2, 2, nil)
	v, w := vault.New(), vault.New()
	ingest(t, v, 0, 1, 8, api.Put{At: 2, Data: "hay"})
	ingest(t, w, 0, 2, 3)
	ingest(t, w, 0, 1, 8)
	wantStored(t, d, r, v)
	wantStored(t, e, other, w)
}
