package carrier

import (
	"maps"
	"math"
	"slices"
	"testing"

	"counterfoil/api"
	"counterfoil/disk"
	"counterfoil/image"
	"counterfoil/repo"
	"counterfoil/vault"
	"counterfoil/vdisk"
)

// dice is a fixed sequence of numbers, the same in each run.
type dice uint64

func (r *dice) roll(n int) int {
	*r = *r*6364136223846793005 + 1442695040888963407
	return int(uint64(*r) >> 33 % uint64(n))
}

func (r *dice) keep() uint64 { return uint64(r.roll(1<<31))<<33 ^ uint64(r.roll(1<<31))<<5 }

// failEverywhere lets the disk of a repository fail at each step of a backup
// that is made after another one; then there is the new point as a whole, or
// only the other one.
func failEverywhere(t *testing.T, d *vdisk.Disk, action func(*repo.Repo) error, after *vault.Vault) {
	t.Helper()
	g := dice(1)
	var seen [2]bool
	for n := 0; ; n++ {
		for _, keep := range []uint64{0, 1, 2, math.MaxUint64 - 1, math.MaxUint64, g.keep(), g.keep(), g.keep()} {
			s, r := newRepo(t)
			wantFull(t, d, r, 1, 1, 3, 1, nil)
			before := r.Vault()
			s.Arm(n)
			err := action(r)
			if err == nil {
				wantVault(t, r, after)
				if !seen[0] || !seen[1] {
					t.Errorf("seen: %v", seen)
				}
				return
			}
			if err != api.ErrDown {
				t.Fatalf("step %d: %v", n, err)
			}
			s.Restart(keep)
			v := mustOpen(t, s).Vault()
			isBefore, isAfter := isSame(v, before), isSame(v, after)
			if !isBefore && !isAfter {
				t.Fatalf("step %d, keep %b: %v", n, keep, image.Rows(v))
			}
			seen[0], seen[1] = seen[0] || isBefore, seen[1] || isAfter
		}
	}
}

func TestFailuresOfBackups(t *testing.T) { // W6, L1, L2
	d := twoSnapshots(t)
	v := vault.New()
	ingest(t, v, 0, 1, 8, putsOf(t, d, 1, all()))
	w := v.Copy()
	ingest(t, v, 0, 2, 12, putsOf(t, d, 2, all()))
	failEverywhere(t, d, func(r *repo.Repo) error { return backup(Full(d, r, 2, 2, 3)) }, v)
	changed, err := d.Changed(1, 2)
	if err != nil {
		t.Fatal(err)
	}
	ingest(t, w, 1, 1, 12, putsOf(t, d, 2, changed))
	failEverywhere(t, d, func(r *repo.Repo) error { return backup(More(d, r, 1, 2, 1, 1, 3)) }, w)
}

// backup returns the error of a backup, if there is no point beside it.
func backup(point int, err error) error {
	if (point == 0) != (err != nil) {
		return api.ErrText
	}
	return err
}

// content is what a disk, a snapshot or a point has.
type content struct {
	size  int
	texts [api.MaxBlocks]string
}

// history is a disk of which backups are made, into a repository whose own disk
// fails now and then.
type history struct {
	d      *vdisk.Disk
	s      *disk.Disk
	r      *repo.Repo
	now    content
	snaps  map[int]content // those that exist
	points map[int]content // those that exist
	of     map[int]int     // the snapshot that a point is right for
	last   int             // session
}

// change writes, resizes, makes snapshots and drops them.
func (h *history) change(t *testing.T, g *dice) {
	t.Helper()
	for range 1 + g.roll(4) {
		at, data := g.roll(h.now.size), []string{"", "a", "b", "hay", "oats", "123456"}[g.roll(6)]
		write(t, h.d, api.Put{At: at, Data: data})
		h.now.texts[at] = data
	}
	if g.roll(4) == 0 {
		size := 1 + g.roll(api.MaxBlocks)
		resize(t, h.d, size)
		for at := min(size, h.now.size); at < api.MaxBlocks; at++ {
			h.now.texts[at] = ""
		}
		h.now.size = size
	}
	if g.roll(12) == 0 {
		h.d.Forget()
	}
}

func (h *history) snap(t *testing.T, g *dice) {
	t.Helper()
	if len(h.snaps) == api.MaxSnaps || g.roll(6) == 0 {
		id := h.pick(g, slices.Collect(maps.Keys(h.snaps)))
		h.d.Drop(id)
		delete(h.snaps, id)
	}
	if len(h.snaps) < api.MaxSnaps {
		h.snaps[snap(t, h.d)] = h.now
	}
}

// pick returns one of some numbers, or now and then another one.
func (h *history) pick(g *dice, l []int) int {
	if len(l) == 0 || g.roll(10) == 0 {
		return g.roll(12)
	}
	slices.Sort(l)
	return l[g.roll(len(l))]
}

func (h *history) full(t *testing.T, g *dice) {
	t.Helper()
	id, page := h.pick(g, slices.Collect(maps.Keys(h.snaps))), 1+g.roll(20)
	made, ok := h.snaps[id]
	if !ok {
		wantFull(t, h.d, h.r, 1, id, page, 0, api.ErrNone)
		return
	}
	v := h.r.Vault()
	want, fail := v.Ingest(0, 1, made.size, putsOf(t, h.d, id, all()))
	n, err := Full(h.d, h.r, 1, id, page)
	h.take(t, g, n, err, want, fail, made, id)
}

func (h *history) more(t *testing.T, g *dice) {
	t.Helper()
	id, page := h.pick(g, slices.Collect(maps.Keys(h.snaps))), 1+g.roll(20)
	base := h.pick(g, slices.Collect(maps.Keys(h.points)))
	since, isRight := h.of[base], true
	if g.roll(4) == 0 {
		since, isRight = h.pick(g, slices.Collect(maps.Keys(h.snaps))), false
	}
	changed, err := h.d.Changed(since, id)
	if err != nil {
		wantMore(t, h.d, h.r, 1, id, since, base, page, 0, err)
		return
	}
	if _, ok := h.points[base]; !ok && base != 0 {
		wantMore(t, h.d, h.r, 1, id, since, base, page, 0, api.ErrNone)
		return
	}
	made := h.snaps[id]
	l := putsOf(t, h.d, id, changed)
	v := h.r.Vault()
	want, fail := v.Ingest(base, 1, made.size, l)
	n, err := More(h.d, h.r, 1, id, since, base, page)
	if isRight {
		h.take(t, g, n, err, want, fail, made, id)
		return
	}
	made = content{size: made.size}
	old := h.points[base].texts
	copy(made.texts[:made.size], old[:])
	for _, p := range l {
		made.texts[p.At] = p.Data
	}
	if made == h.snaps[id] {
		h.take(t, g, n, err, want, fail, made, id)
	} else {
		h.take(t, g, n, err, want, fail, made, 0)
	}
}

// take compares the result of a backup, and keeps what the point must have.
func (h *history) take(t *testing.T, g *dice, n int, err error, want int, fail error, made content, id int) {
	t.Helper()
	h.last++
	if h.s.Down() {
		h.failed(t, g, err, want, fail, made, id)
		return
	}
	if n != want || err != fail {
		t.Fatalf("a backup = %d, %v, want %d, %v", n, err, want, fail)
	}
	if err == nil {
		h.points[n], h.of[n] = made, id
	}
}

// failed restarts the disk of the repository; the point is there or not.
func (h *history) failed(t *testing.T, g *dice, err error, want int, fail error, made content, id int) {
	t.Helper()
	if err != api.ErrDown || fail != nil {
		t.Fatalf("a backup = %v, want %v", err, fail)
	}
	h.s.Restart(g.keep())
	h.r, h.last = mustOpen(t, h.s), 0
	if _, ok := h.r.Vault().Find(want); ok {
		h.points[want], h.of[want] = made, id
	}
}

// drop makes room for points.
func (h *history) drop(t *testing.T, g *dice) {
	t.Helper()
	if g.roll(2) == 0 && h.r.Save() != nil {
		h.s.Restart(g.keep())
		h.r, h.last = mustOpen(t, h.s), 0
	}
	for range g.roll(4) {
		id := h.pick(g, slices.Collect(maps.Keys(h.points)))
		err := h.r.Drop(id)
		if h.s.Down() {
			h.s.Restart(g.keep())
			h.r, h.last = mustOpen(t, h.s), 0
		}
		if _, ok := h.r.Vault().Find(id); ok && err == nil {
			t.Fatalf("point %d is still there", id)
		} else if !ok {
			delete(h.points, id)
			delete(h.of, id)
		}
	}
}

func (h *history) check(t *testing.T) {
	t.Helper()
	v := h.r.Vault()
	if len(v.L) != len(h.points) {
		t.Fatalf("points %v, want %v", v.L, h.points)
	}
	for _, p := range v.L {
		has := content{size: p.Size}
		for at := range p.Size {
			has.texts[at], _ = v.Read(p.ID, at)
		}
		if has != h.points[p.ID] {
			t.Fatalf("point %d has %v, want %v", p.ID, has, h.points[p.ID])
		}
	}
	wantNoSession(t, h.r, h.last+1)
	h.last += api.MaxSessions
}

// Whatever is written, resized, recorded and forgotten: a point has what its
// snapshot has, and it stays so.
func TestLongHistories(t *testing.T) { // L1, L2, W1, W2, W3, W6
	g := dice(2)
	for range 150 {
		size := 1 + g.roll(api.MaxBlocks)
		h := &history{d: newDisk(t, size), now: content{size: size}, snaps: map[int]content{}, points: map[int]content{}, of: map[int]int{}}
		h.s, h.r = newRepo(t)
		for range 100 {
			if g.roll(10) == 0 {
				h.s.Arm(g.roll(100))
			}
			h.change(t, &g)
			switch g.roll(6) {
			case 0, 1:
				h.snap(t, &g)
			case 2:
				h.full(t, &g)
			case 3, 4:
				h.more(t, &g)
			default:
				h.drop(t, &g)
			}
			h.check(t)
		}
	}
}
