package carrier

import (
	"math"
	"slices"
	"testing"

	"counterfoil/api"
	"counterfoil/area"
	"counterfoil/disk"
	"counterfoil/image"
	"counterfoil/repo"
	"counterfoil/vault"
	"counterfoil/vdisk"
)

type puts = []api.Put

// pages returns how many blocks may be put at a time.
func pages() []int { return []int{1, 2, 3, 5, 15, 16, 17, math.MaxInt} }

func newDisk(t *testing.T, size int) *vdisk.Disk {
	t.Helper()
	d, err := vdisk.New(size)
	if err != nil {
		t.Fatal(err)
	}
	return d
}

func newRepo(t *testing.T) (*disk.Disk, *repo.Repo) {
	t.Helper()
	d, err := disk.New(api.Sectors)
	if err != nil {
		t.Fatal(err)
	}
	if err := repo.Format(d); err != nil {
		t.Fatal(err)
	}
	return d, mustOpen(t, d)
}

func mustOpen(t *testing.T, d *disk.Disk) *repo.Repo {
	t.Helper()
	r, err := repo.Open(d)
	if err != nil {
		t.Fatal(err)
	}
	return r
}

func write(t *testing.T, d *vdisk.Disk, l ...api.Put) {
	t.Helper()
	for _, p := range l {
		if err := d.Write(p.At, p.Data); err != nil {
			t.Fatal(err)
		}
	}
}

func resize(t *testing.T, d *vdisk.Disk, size int) {
	t.Helper()
	if err := d.Resize(size); err != nil {
		t.Fatal(err)
	}
}

func snap(t *testing.T, d *vdisk.Disk) int {
	t.Helper()
	id, err := d.Snap()
	if err != nil {
		t.Fatal(err)
	}
	return id
}

func wantFull(t *testing.T, d *vdisk.Disk, r *repo.Repo, disk, snap, page, want int, fail error) {
	t.Helper()
	if n, err := Full(d, r, disk, snap, page); n != want || err != fail {
		t.Fatalf("Full(%d, %d, %d) = %d, %v, want %d, %v", disk, snap, page, n, err, want, fail)
	}
}

func wantMore(t *testing.T, d *vdisk.Disk, r *repo.Repo, disk, snap, since, base, page, want int, fail error) {
	t.Helper()
	if n, err := More(d, r, disk, snap, since, base, page); n != want || err != fail {
		t.Fatalf("More(%d, %d, %d, %d, %d) = %d, %v, want %d, %v", disk, snap, since, base, page, n, err, want, fail)
	}
}

func isSame(v, w *vault.Vault) bool { return slices.Equal(image.Rows(v), image.Rows(w)) }

func wantVault(t *testing.T, r *repo.Repo, want *vault.Vault) {
	t.Helper()
	if v := r.Vault(); !isSame(v, want) {
		t.Fatalf("Vault() = %v, want %v", image.Rows(v), image.Rows(want))
	}
}

func ingest(t *testing.T, v *vault.Vault, base, disk, size int, l puts) {
	t.Helper()
	if _, err := v.Ingest(base, disk, size, l); err != nil {
		t.Fatalf("Ingest() = %v", err)
	}
}

// wantPoint compares a point with a snapshot.
func wantPoint(t *testing.T, r *repo.Repo, point, disk int, d *vdisk.Disk, snap int) {
	t.Helper()
	size, err := d.SizeOf(snap)
	p, ok := r.Vault().Find(point)
	if err != nil || !ok || p.Disk != disk || p.Size != size {
		t.Fatalf("point %v, %v, size %d, %v", p, ok, size, err)
	}
	for at := range size {
		want, _, _ := d.Read(snap, at)
		if s, err := r.Vault().Read(point, at); s != want || err != nil {
			t.Fatalf("point %d has %q at %d, %v, want %q", point, s, at, err, want)
		}
	}
}

// wantNoSession finds out whether a session was left open: all of them can be
// opened, the first one with a given number.
func wantNoSession(t *testing.T, r *repo.Repo, first int) {
	t.Helper()
	for k := range api.MaxSessions {
		if n, err := r.Begin(0, 1, 1); n != first+k || err != nil {
			t.Fatalf("Begin() = %d, %v, want %d", n, err, first+k)
		}
	}
	for k := range api.MaxSessions {
		if err := r.Abort(first + k); err != nil {
			t.Fatalf("Abort(%d) = %v", first+k, err)
		}
	}
}

// putsOf returns what is put of the areas of a snapshot.
func putsOf(t *testing.T, d *vdisk.Disk, snap int, l []api.Area) puts {
	t.Helper()
	size, err := d.SizeOf(snap)
	if err != nil {
		t.Fatal(err)
	}
	var made puts
	for at := range size {
		if area.Has(l, at) {
			data, _, _ := d.Read(snap, at)
			made = append(made, api.Put{At: at, Data: data})
		}
	}
	return made
}

// all returns an area with all blocks that there can be.
func all() []api.Area { return []api.Area{{From: 0, Many: api.MaxBlocks}} }

func TestFull(t *testing.T) { // L1, W1
	for size := 1; size <= api.MaxBlocks; size++ {
		for _, page := range pages() {
			d := newDisk(t, size)
			for at := range size {
				if at%3 != 1 {
					write(t, d, api.Put{At: at, Data: "abcdefghijklmnop"[at : at+1]})
				}
			}
			id := snap(t, d)
			// What happens later is not in the snapshot.
			write(t, d, api.Put{At: 0, Data: "later"})
			resize(t, d, 1+size%api.MaxBlocks)
			_, r := newRepo(t)
			wantFull(t, d, r, 7, id, page, 1, nil)
			wantPoint(t, r, 1, 7, d, id)
			v := vault.New()
			ingest(t, v, 0, 7, size, putsOf(t, d, id, all()))
			wantVault(t, r, v)
			wantNoSession(t, r, 2)
		}
	}
}

// A full backup has no base, whatever points there are.
func TestFullAgain(t *testing.T) { // L1
	d := newDisk(t, 8)
	write(t, d, api.Put{At: 2, Data: "hay"}, api.Put{At: 5, Data: "oats"})
	snap(t, d)
	_, r := newRepo(t)
	v := vault.New()
	for id := 1; id <= 3; id++ {
		wantFull(t, d, r, 1, 1, 3, id, nil)
		ingest(t, v, 0, 1, 8, puts{{At: 2, Data: "hay"}, {At: 5, Data: "oats"}})
	}
	wantVault(t, r, v)
	for id := 1; id <= 3; id++ {
		if err := r.Drop(id); err != nil {
			t.Errorf("Drop(%d) = %v", id, err)
		}
	}
}

// fillSessions opens as many sessions as there may be.
func fillSessions(t *testing.T, r *repo.Repo) {
	t.Helper()
	for range api.MaxSessions {
		if _, err := r.Begin(0, 1, 1); err != nil {
			t.Fatal(err)
		}
	}
}

func TestFullErrors(t *testing.T) { // L1, Z1, Z3
	d := newDisk(t, 8)
	snap(t, d)
	snap(t, d)
	if err := d.Drop(2); err != nil {
		t.Fatal(err)
	}
	_, r := newRepo(t)
	wantFull(t, d, r, 1, 1, 1, 1, nil)
	v := r.Vault()
	check := func() {
		t.Helper()
		for _, id := range []int{math.MinInt, -1, 0, 2, 3, 999, math.MaxInt} {
			wantFull(t, d, r, 1, id, 3, 0, api.ErrNone)
			wantFull(t, d, r, 0, id, 0, 0, api.ErrNone)
		}
		for _, n := range []int{math.MinInt, -1, 0} {
			wantFull(t, d, r, 1, 1, n, 0, api.ErrBound)
			wantFull(t, d, r, n, 1, 3, 0, api.ErrBound)
		}
		wantFull(t, d, r, api.MaxID+1, 1, 3, 0, api.ErrBound)
	}
	check()
	// None of these calls has opened a session.
	wantNoSession(t, r, 2)
	fillSessions(t, r)
	check()
	wantFull(t, d, r, 1, 1, 3, 0, api.ErrFull)
	wantVault(t, r, v)
}

// When a session cannot be finished, it is aborted.
func TestFullWithoutRoom(t *testing.T) { // L1, Z1
	d := newDisk(t, 16)
	for at := range 16 {
		write(t, d, api.Put{At: at, Data: "x"})
	}
	snap(t, d)
	_, r := newRepo(t)
	wantFull(t, d, r, 1, 1, 3, 1, nil)
	wantFull(t, d, r, 1, 1, 3, 2, nil)
	v := r.Vault()
	for k := range 5 {
		wantFull(t, d, r, 1, 1, 1+k, 0, api.ErrFull)
		wantVault(t, r, v)
	}
	wantNoSession(t, r, 8)
	if err := r.Drop(1); err != nil {
		t.Fatal(err)
	}
	wantFull(t, d, r, 1, 1, 3, 3, nil)
	wantPoint(t, r, 3, 1, d, 1)
}

// The session that could not be finished no longer uses its base.
func TestMoreWithoutRoom(t *testing.T) { // L1, L2, Z1
	d := newDisk(t, 8)
	snap(t, d)
	_, r := newRepo(t)
	for id := 1; id <= api.MaxPoints; id++ {
		wantFull(t, d, r, 1, 1, 3, id, nil)
	}
	for range 4 {
		wantMore(t, d, r, 1, 1, 1, 6, 3, 0, api.ErrFull)
	}
	wantNoSession(t, r, 11)
	if err := r.Drop(6); err != nil {
		t.Errorf("Drop(6) = %v", err)
	}
}

// twoSnapshots returns a disk with the snapshots 1 and 2, of 8 and 12 blocks.
func twoSnapshots(t *testing.T) *vdisk.Disk {
	t.Helper()
	d := newDisk(t, 8)
	write(t, d, puts{{At: 2, Data: "hay"}, {At: 5, Data: "oats"}, {At: 6, Data: "rye"}}...)
	snap(t, d)
	write(t, d, puts{{At: 5, Data: "bran"}, {At: 6}}...)
	resize(t, d, 12)
	write(t, d, api.Put{At: 9, Data: "peas"})
	snap(t, d)
	return d
}

func TestMore(t *testing.T) { // L2, W1
	for _, page := range pages() {
		d := twoSnapshots(t)
		_, r := newRepo(t)
		v := vault.New()
		wantFull(t, d, r, 1, 1, page, 1, nil)
		ingest(t, v, 0, 1, 8, putsOf(t, d, 1, all()))
		wantMore(t, d, r, 1, 2, 1, 1, page, 2, nil)
		ingest(t, v, 1, 1, 12, puts{{At: 5, Data: "bran"}, {At: 6}, {At: 8}, {At: 9, Data: "peas"}, {At: 10}, {At: 11}})
		wantVault(t, r, v)
		wantPoint(t, r, 1, 1, d, 1)
		wantPoint(t, r, 2, 1, d, 2)
		wantNoSession(t, r, 3)
	}
}

// From a later snapshot back to an earlier one: blocks beyond the size of this
// one are not put.
func TestMoreBackwards(t *testing.T) { // L1, L2, W1
	for _, page := range pages() {
		d := twoSnapshots(t)
		_, r := newRepo(t)
		v := vault.New()
		wantFull(t, d, r, 1, 2, page, 1, nil)
		ingest(t, v, 0, 1, 12, putsOf(t, d, 2, all()))
		wantMore(t, d, r, 1, 1, 2, 1, page, 2, nil)
		ingest(t, v, 1, 1, 8, puts{{At: 5, Data: "oats"}, {At: 6, Data: "rye"}})
		wantVault(t, r, v)
		wantPoint(t, r, 2, 1, d, 1)
	}
}

func TestMoreOfASmallerDisk(t *testing.T) { // L1, L2, W1
	for size := 1; size <= 8; size++ {
		d := twoSnapshots(t)
		write(t, d, api.Put{At: 0, Data: "new"}, api.Put{At: 11, Data: "end"})
		resize(t, d, size)
		resize(t, d, 1+size/2)
		snap(t, d)
		_, r := newRepo(t)
		wantFull(t, d, r, 1, 2, 3, 1, nil)
		wantMore(t, d, r, 1, 3, 2, 1, 3, 2, nil)
		wantPoint(t, r, 2, 1, d, 3)
		wantMore(t, d, r, 1, 2, 3, 2, 3, 3, nil)
		wantPoint(t, r, 3, 1, d, 2)
	}
}

// Only what changed is put; all else is that of the base, whatever it is.
func TestMoreWithAnotherBase(t *testing.T) { // L2
	d := twoSnapshots(t)
	_, r := newRepo(t)
	other := puts{{At: 0, Data: "a"}, {At: 2, Data: "b"}, {At: 5, Data: "c"}, {At: 11, Data: "d"}, {At: 13, Data: "e"}}
	id, _ := r.Begin(0, 3, 16)
	for _, p := range other {
		r.Put(id, p.At, p.Data)
	}
	if _, err := r.Finish(id); err != nil {
		t.Fatal(err)
	}
	wantMore(t, d, r, 3, 2, 1, 1, 3, 2, nil)
	wantTexts(t, r, 2, "a", "", "b", "", "", "bran", "", "", "", "peas", "", "")
	// Without a base there is nothing else.
	wantMore(t, d, r, 4, 2, 1, 0, 3, 3, nil)
	wantTexts(t, r, 3, "", "", "", "", "", "bran", "", "", "", "peas", "", "")
}

func wantTexts(t *testing.T, r *repo.Repo, point int, want ...string) {
	t.Helper()
	if p, ok := r.Vault().Find(point); !ok || p.Size != len(want) {
		t.Fatalf("point %v, %v, want size %d", p, ok, len(want))
	}
	for at, data := range want {
		if s, err := r.Vault().Read(point, at); s != data || err != nil {
			t.Errorf("block %d is %q, %v, want %q", at, s, err, data)
		}
	}
}

// What changed between a snapshot and itself is nothing.
func TestMoreOfNothing(t *testing.T) { // L2
	d := twoSnapshots(t)
	_, r := newRepo(t)
	wantFull(t, d, r, 1, 1, 3, 1, nil)
	wantMore(t, d, r, 1, 1, 1, 1, 3, 2, nil)
	wantPoint(t, r, 2, 1, d, 1)
	a, _ := r.Vault().Find(1)
	b, _ := r.Vault().Find(2)
	if a.Root != b.Root {
		t.Errorf("the points do not share all: %v, %v", a, b)
	}
}

func TestMoreErrors(t *testing.T) { // L2, Z1, Z3
	d := twoSnapshots(t)
	_, r := newRepo(t)
	wantFull(t, d, r, 1, 1, 3, 1, nil)
	snap(t, d)
	d.Forget()
	snap(t, d)
	v := r.Vault()
	none := []int{math.MinInt, -1, 0, 5, 999, math.MaxInt}
	check := func() {
		t.Helper()
		for _, id := range none {
			wantMore(t, d, r, 1, 2, id, 1, 3, 0, api.ErrNone)
			wantMore(t, d, r, 1, id, 1, 1, 3, 0, api.ErrNone)
			wantMore(t, d, r, 0, id, 1, 9, 0, 0, api.ErrNone)
		}
		for _, x := range [][2]int{{4, 3}, {3, 4}, {4, 1}, {1, 4}} {
			wantMore(t, d, r, 1, x[0], x[1], 1, 3, 0, api.ErrStale)
			wantMore(t, d, r, 0, x[0], x[1], 9, 0, 0, api.ErrStale)
		}
		for _, n := range []int{math.MinInt, -1, 0} {
			wantMore(t, d, r, 1, 2, 1, 1, n, 0, api.ErrBound)
			wantMore(t, d, r, 1, 2, 1, 9, n, 0, api.ErrBound)
			wantMore(t, d, r, n, 2, 1, 9, 3, 0, api.ErrBound)
		}
		for _, base := range []int{math.MinInt, -1, 2, math.MaxInt} {
			wantMore(t, d, r, 1, 2, 1, base, 3, 0, api.ErrNone)
		}
		wantMore(t, d, r, 2, 2, 1, 1, 3, 0, api.ErrShape)
	}
	check()
	wantNoSession(t, r, 2)
	fillSessions(t, r)
	check()
	wantMore(t, d, r, 1, 2, 1, 1, 3, 0, api.ErrFull)
	wantVault(t, r, v)
}

// What is not known is not guessed: after Forget a full backup is needed, and
// later ones can be based on it.
func TestMoreAfterForget(t *testing.T) { // L2, W1
	d := twoSnapshots(t)
	_, r := newRepo(t)
	wantFull(t, d, r, 1, 2, 3, 1, nil)
	write(t, d, api.Put{At: 0, Data: "lost"})
	d.Forget()
	snap(t, d)
	wantMore(t, d, r, 1, 3, 2, 1, 3, 0, api.ErrStale)
	wantFull(t, d, r, 1, 3, 3, 2, nil)
	write(t, d, api.Put{At: 1, Data: "new"})
	snap(t, d)
	wantMore(t, d, r, 1, 4, 3, 2, 3, 3, nil)
	wantPoint(t, r, 3, 1, d, 4)
}

// Snapshots between two others that no longer exist do not matter.
func TestMoreOverDropped(t *testing.T) { // L2, W1, W2
	d := twoSnapshots(t)
	_, r := newRepo(t)
	wantFull(t, d, r, 1, 1, 3, 1, nil)
	write(t, d, api.Put{At: 0, Data: "new"})
	snap(t, d)
	if err := d.Drop(2); err != nil {
		t.Fatal(err)
	}
	wantMore(t, d, r, 1, 3, 1, 1, 3, 2, nil)
	wantPoint(t, r, 2, 1, d, 3)
}

// A backup changes nothing of the disk that it reads.
func TestTheDiskStays(t *testing.T) { // Z2
	d := twoSnapshots(t)
	_, r := newRepo(t)
	wantFull(t, d, r, 1, 1, 3, 1, nil)
	wantMore(t, d, r, 1, 2, 1, 1, 3, 2, nil)
	l, err := d.Changed(1, 2)
	if err != nil || !slices.Equal(l, []api.Area{{From: 5, Many: 2}, {From: 8, Many: 4}}) {
		t.Errorf("Changed() = %v, %v", l, err)
	}
	if !slices.Equal(d.Snaps(), []int{1, 2}) || d.Size() != 12 {
		t.Errorf("snapshots %v, size %d", d.Snaps(), d.Size())
	}
}

// TestExampleSession makes the backups of the document's example.
func TestExampleSession(t *testing.T) { // L1, L2, K1, K4, K5, K6
	d := newDisk(t, 8)
	s, r := newRepo(t)
	write(t, d, api.Put{At: 2, Data: "hay"}, api.Put{At: 5, Data: "oats"})
	snap(t, d)
	wantFull(t, d, r, 1, 1, 3, 1, nil)
	write(t, d, api.Put{At: 5, Data: "bran"})
	resize(t, d, 12)
	write(t, d, api.Put{At: 9, Data: "peas"})
	snap(t, d)
	wantMore(t, d, r, 1, 2, 1, 1, 3, 2, nil)
	wantCounts(t, r, 4, 6)
	d.Drop(1)
	write(t, d, api.Put{At: 2})
	snap(t, d)
	d.Forget()
	write(t, d, api.Put{At: 0, Data: "rye"})
	snap(t, d)
	wantMore(t, d, r, 1, 3, 2, 2, 3, 3, nil)
	wantMore(t, d, r, 1, 4, 3, 3, 3, 0, api.ErrStale)
	wantFull(t, d, r, 1, 4, 3, 4, nil)
	wantPoint(t, r, 4, 1, d, 4)
	if n, err := r.Again(2); n != 5 || err != nil {
		t.Errorf("Again(2) = %d, %v", n, err)
	}
	// Four sessions were opened before.
	if n, err := r.Mount(2); n != 5 || err != nil {
		t.Errorf("Mount(2) = %d, %v", n, err)
	}
	if err := r.Drop(2); err != api.ErrBusy {
		t.Errorf("Drop(2) = %v", err)
	}
	if l, err := r.Keep(1, 2); err != nil || !slices.Equal(l, []int{1, 3}) {
		t.Errorf("Keep(1, 2) = %v, %v", l, err)
	}
	wantCounts(t, r, 6, 8)
	if err := r.Save(); err != nil {
		t.Errorf("Save() = %v", err)
	}
	s.Restart(0)
	r = mustOpen(t, s)
	for _, id := range []int{4, 5} {
		if err := r.Drop(id); err != nil {
			t.Errorf("Drop(%d) = %v", id, err)
		}
	}
	wantCounts(t, r, 3, 4)
	wantPoint(t, r, 2, 1, d, 2)
}

func wantCounts(t *testing.T, r *repo.Repo, blocks, nodes int) {
	t.Helper()
	if v := r.Vault(); len(v.X.P.L) != blocks || len(v.X.N) != nodes {
		t.Errorf("%d blocks, %d nodes, want %d, %d", len(v.X.P.L), len(v.X.N), blocks, nodes)
	}
}
