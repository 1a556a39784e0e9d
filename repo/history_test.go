package repo

import (
	"maps"
	"slices"
	"testing"

	"counterfoil/api"
	"counterfoil/disk"
	"counterfoil/image"
	"counterfoil/vault"
)

// texts is what a point has at each position.
type texts [api.MaxBlocks]string

// filling is a session of the model.
type filling struct {
	base, disk, size int
	l                puts
}

// view is a mount of the model.
type view struct {
	point int
	has   texts
}

// history is a repository whose disk fails now and then, and what it must have:
// the vault with all numbers, and, independently of it, the texts of points.
type history struct {
	d        *disk.Disk
	r        *Repo
	v        *vault.Vault
	points   map[int]texts
	sessions map[int]filling
	mounts   map[int]view
	last     int
}

func newHistory(t *testing.T, n int) *history {
	t.Helper()
	d, r := made(t, n)
	return &history{d: d, r: r, v: vault.New(), points: map[int]texts{}, sessions: map[int]filling{}, mounts: map[int]view{}}
}

// pick returns one of some numbers, or now and then another one.
func pick(g *dice, l []int) int {
	if len(l) == 0 || g.roll(8) == 0 {
		return g.roll(30) - 2
	}
	slices.Sort(l)
	return l[g.roll(len(l))]
}

func (h *history) pickPoint(g *dice) int   { return pick(g, slices.Collect(maps.Keys(h.points))) }
func (h *history) pickSession(g *dice) int { return pick(g, slices.Collect(maps.Keys(h.sessions))) }
func (h *history) pickMount(g *dice) int   { return pick(g, slices.Collect(maps.Keys(h.mounts))) }

func data(g *dice) string {
	return []string{"", "a", "b", "hay", "oats", "123456", "\x00\xff", "1234567"}[g.roll(8)]
}

func (h *history) isUsed(point int) bool {
	for _, s := range h.sessions {
		if s.base == point {
			return true
		}
	}
	for _, m := range h.mounts {
		if m.point == point {
			return true
		}
	}
	return false
}

func (h *history) begin(t *testing.T, g *dice) {
	t.Helper()
	base, disk, size := 0, 1+g.roll(2), 1+g.roll(api.MaxBlocks)
	if g.roll(3) > 0 {
		base = h.pickPoint(g)
	}
	if g.roll(10) == 0 {
		disk, size = g.roll(3), g.roll(19)
	}
	p, ok := h.v.Find(base)
	var want error
	switch {
	case disk < 1 || size < 1 || size > api.MaxBlocks:
		want = api.ErrBound
	case base != 0 && !ok:
		want = api.ErrNone
	case base != 0 && p.Disk != disk:
		want = api.ErrShape
	case len(h.sessions) == api.MaxSessions:
		want = api.ErrFull
	}
	if want != nil {
		wantBeginError(t, h.r, base, disk, size, want)
		return
	}
	h.last++
	wantBegin(t, h.r, base, disk, size, h.last)
	h.sessions[h.last] = filling{base: base, disk: disk, size: size}
}

func (h *history) put(t *testing.T, g *dice) {
	t.Helper()
	id := h.pickSession(g)
	for range 1 + g.roll(12) {
		at, data := g.roll(18)-1, data(g)
		s, ok := h.sessions[id]
		var want error
		switch {
		case !ok:
			want = api.ErrNone
		case at < 0 || at >= s.size:
			want = api.ErrBound
		case len(data) > api.MaxData:
			want = api.ErrMany
		default:
			s.l = append(without(s.l, at), api.Put{At: at, Data: data})
			h.sessions[id] = s
		}
		wantError(t, "Put", h.r.Put(id, at, data), want)
	}
}

func (h *history) finish(t *testing.T, g *dice) {
	t.Helper()
	id := h.pickSession(g)
	s, ok := h.sessions[id]
	v := h.v.Copy()
	want, fail := 0, error(api.ErrNone)
	if ok {
		want, fail = v.Ingest(s.base, s.disk, s.size, s.l)
	}
	n, err := h.r.Finish(id)
	if h.failed(t, g, err, v) {
		return
	}
	wantNumber(t, "Finish", n, err, want, fail)
	if err != nil {
		return
	}
	has := texts{}
	if s.base != 0 {
		old := h.points[s.base]
		copy(has[:s.size], old[:])
	}
	for _, p := range s.l {
		has[p.At] = p.Data
	}
	h.v, h.points[n] = v, has
	delete(h.sessions, id)
}

func (h *history) again(t *testing.T, g *dice) {
	t.Helper()
	id := h.pickPoint(g)
	v := h.v.Copy()
	want, fail := v.Again(id)
	n, err := h.r.Again(id)
	if h.failed(t, g, err, v) {
		return
	}
	wantNumber(t, "Again", n, err, want, fail)
	if err == nil {
		h.v, h.points[n] = v, h.points[id]
	}
}

func (h *history) drop(t *testing.T, g *dice) {
	t.Helper()
	id := h.pickPoint(g)
	v := h.v.Copy()
	want := v.Drop(id)
	if want == nil && h.isUsed(id) {
		want = api.ErrBusy
	}
	err := h.r.Drop(id)
	if h.failed(t, g, err, v) {
		return
	}
	wantError(t, "Drop", err, want)
	if err == nil {
		h.v = v
		delete(h.points, id)
	}
}

func (h *history) keep(t *testing.T, g *dice) {
	t.Helper()
	disk, many := 1+g.roll(2), g.roll(5)
	steps := []*vault.Vault{}
	v := h.v.Copy()
	var want []int
	for _, id := range h.v.Eldest(disk, many) {
		if !h.isUsed(id) {
			v.Drop(id)
			want = append(want, id)
			steps = append(steps, v.Copy())
		}
	}
	l, err := h.r.Keep(disk, many)
	if h.failed(t, g, err, steps...) {
		return
	}
	if err != nil || !slices.Equal(l, want) {
		t.Fatalf("Keep(%d, %d) = %v, %v, want %v", disk, many, l, err, want)
	}
	h.v = v
	for _, id := range want {
		delete(h.points, id)
	}
}

func (h *history) mount(t *testing.T, g *dice) {
	t.Helper()
	id := h.pickPoint(g)
	_, ok := h.points[id]
	switch {
	case !ok:
		wantMount(t, h.r, id, 0, api.ErrNone)
	case len(h.mounts) == api.MaxMounts:
		wantMount(t, h.r, id, 0, api.ErrFull)
	default:
		h.last++
		wantMount(t, h.r, id, h.last, nil)
		h.mounts[h.last] = view{id, h.points[id]}
	}
}

func (h *history) write(t *testing.T, g *dice) {
	t.Helper()
	id, at, data := h.pickMount(g), g.roll(18)-1, data(g)
	m, ok := h.mounts[id]
	p, _ := h.v.Find(m.point)
	var want error
	switch {
	case !ok:
		want = api.ErrNone
	case at < 0 || at >= p.Size:
		want = api.ErrBound
	case len(data) > api.MaxData:
		want = api.ErrMany
	default:
		m.has[at] = data
		h.mounts[id] = m
	}
	wantError(t, "Write", h.r.Write(id, at, data), want)
}

// close closes a session or a mount without a point.
func (h *history) close(t *testing.T, g *dice) {
	t.Helper()
	id := h.pickSession(g)
	_, ok := h.sessions[id]
	wantError(t, "Abort", h.r.Abort(id), map[bool]error{false: api.ErrNone}[ok])
	delete(h.sessions, id)
	id = h.pickMount(g)
	_, ok = h.mounts[id]
	wantError(t, "Unmount", h.r.Unmount(id), map[bool]error{false: api.ErrNone}[ok])
	delete(h.mounts, id)
}

// failed restarts a disk that is down: then everything is as it was before, or
// as it would have been.
func (h *history) failed(t *testing.T, g *dice, err error, after ...*vault.Vault) bool {
	t.Helper()
	if !h.d.Down() {
		return false
	}
	wantError(t, "a call when the disk fails", err, api.ErrDown)
	h.restart(t, g)
	v := h.r.Vault()
	k := slices.IndexFunc(append(after, h.v), func(w *vault.Vault) bool { return isSame(v, w) })
	if k < 0 {
		t.Fatalf("after a failure: %v", image.Rows(v))
	}
	h.v = v
	h.takePoints(t)
	return true
}

func (h *history) restart(t *testing.T, g *dice) {
	t.Helper()
	h.d.Restart(g.keep())
	h.r = mustOpen(t, h.d)
	clear(h.sessions)
	clear(h.mounts)
	h.last = 0
}

// takePoints makes the texts those of the vault, where points are new or gone.
func (h *history) takePoints(t *testing.T) {
	t.Helper()
	maps.DeleteFunc(h.points, func(id int, _ texts) bool {
		_, ok := h.v.Find(id)
		return !ok
	})
	for _, p := range h.v.L {
		if _, ok := h.points[p.ID]; !ok {
			h.points[p.ID] = read(t, h.v, p)
		}
	}
}

func read(t *testing.T, v *vault.Vault, p api.Point) texts {
	t.Helper()
	has := texts{}
	for at := range p.Size {
		var err error
		if has[at], err = v.Read(p.ID, at); err != nil {
			t.Fatalf("Read(%d, %d) = %v", p.ID, at, err)
		}
	}
	return has
}

func (h *history) check(t *testing.T) {
	t.Helper()
	wantVault(t, h.r, h.v)
	v := h.r.Vault()
	if len(v.L) != len(h.points) {
		t.Fatalf("points %v, want %v", v.L, h.points)
	}
	for _, p := range v.L {
		if has := read(t, v, p); has != h.points[p.ID] {
			t.Fatalf("point %v has %q, want %q", p, has, h.points[p.ID])
		}
	}
	for id, m := range h.mounts {
		p, ok := v.Find(m.point)
		if !ok {
			t.Fatalf("point %d is mounted and gone", m.point)
		}
		for at := range p.Size {
			wantRead(t, h.r, id, at, m.has[at])
		}
	}
	if w, err := image.Parse(image.Rows(v)); err != nil || !isSame(v, w) {
		t.Fatalf("the vault is not consistent: %v", image.Rows(v))
	}
}

func (h *history) step(t *testing.T, g *dice) {
	t.Helper()
	if g.roll(20) == 0 {
		h.d.Arm(g.roll(120))
	}
	switch g.roll(13) {
	case 0, 1:
		h.begin(t, g)
	case 2, 3, 4:
		h.put(t, g)
	case 5, 6:
		h.finish(t, g)
	case 7:
		h.again(t, g)
	case 8:
		h.drop(t, g)
	case 9:
		h.mount(t, g)
	case 10:
		for range 1 + g.roll(6) {
			h.write(t, g)
		}
	case 11:
		h.close(t, g)
	default:
		h.seldom(t, g)
	}
}

func (h *history) seldom(t *testing.T, g *dice) {
	t.Helper()
	switch g.roll(4) {
	case 0:
		h.restart(t, g)
	case 1:
		if err := h.r.Save(); !h.failed(t, g, err) {
			wantError(t, "Save", err, nil)
		}
	default:
		h.keep(t, g)
	}
}

func TestLongHistories(t *testing.T) { // K1 to K6, W3, W4, W5, W6
	g := dice(2)
	for range 60 {
		h := newHistory(t, 196+g.roll(65))
		for range 300 {
			h.step(t, &g)
			h.check(t)
		}
		// When all points have been dropped, nothing is stored.
		h.restart(t, &g)
		for _, p := range h.r.Vault().L {
			wantError(t, "Drop", h.r.Drop(p.ID), nil)
		}
		v := vault.New()
		v.Next = h.v.Next
		wantStored(t, h.d, h.r, v)
	}
}
