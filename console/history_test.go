package console

import (
	"maps"
	"math/rand"
	"slices"
	"strconv"
	"strings"
	"testing"

	"counterfoil/api"
	"counterfoil/vault"
)

// texts is what a disk, a snapshot or a mount has at each position.
type texts [api.MaxBlocks]string

// moment is a disk as it was, and how many events had happened before it.
type moment struct {
	size, events int
	has          texts
}

// forgotten is an event; the others are the numbers of touched blocks.
const forgotten = -1

// view is a mount of the model.
type view struct {
	point int
	has   texts
}

// history is what a session must have: in plain texts what is read, and in a
// vault what the blocks and nodes are, and whether there is room for them.
type history struct {
	dice   *rand.Rand
	now    moment
	events []int
	snaps  map[int]moment
	last   int // snapshot
	v      *vault.Vault
	points map[int]texts
	mounts map[int]view
	used   int // numbers of sessions and mounts
}

func newHistory(seed int64) *history {
	return &history{dice: rand.New(rand.NewSource(seed)), now: moment{size: 8}, snaps: map[int]moment{}, v: vault.New(), points: map[int]texts{}, mounts: map[int]view{}}
}

func failed(err api.Errno) string { return "error " + strconv.Itoa(int(err)) }

// pick returns a number of a map, or now and then another one.
func pick[T any](h *history, m map[int]T) int {
	l := slices.Sorted(maps.Keys(m))
	if len(l) == 0 || h.dice.Intn(12) == 0 {
		return h.dice.Intn(12)
	}
	return l[h.dice.Intn(len(l))]
}

func (h *history) data() (string, string) {
	s := []string{"", "a", "b", "hay", "oats", "straw", "123456", "1234567"}[h.dice.Intn(8)]
	return s, wordFor(s)
}

// spell writes a line.
func spell(name string, numbers ...int) string {
	for _, n := range numbers {
		name += " " + strconv.Itoa(n)
	}
	return name
}

// step returns a line and its result.
func (h *history) step() (string, string) {
	steps := []func() (string, string){h.write, h.write, h.write, h.write, h.resize, h.snap, h.snap, h.unsnap, h.changed, h.changed, h.full, h.more, h.more, h.more, h.again, h.drop, h.keep, h.list, h.show, h.show, h.show, h.blocks, h.mount, h.unmount, h.over, h.over, h.read, h.read, h.saveAll, h.restart, h.forget, h.noCommand}
	return steps[h.dice.Intn(len(steps))]()
}

func (h *history) touch(from, to int) {
	for at := from; at < to; at++ {
		h.events = append(h.events, at)
	}
}

func (h *history) write() (string, string) {
	at := h.dice.Intn(h.now.size + 1)
	data, w := h.data()
	line := spell("write", at) + " " + w
	switch {
	case at >= h.now.size:
		return line, failed(api.ErrBound)
	case len(data) > api.MaxData:
		return line, failed(api.ErrMany)
	}
	h.now.has[at] = data
	h.touch(at, at+1)
	return line, "ok"
}

func (h *history) resize() (string, string) {
	size := h.dice.Intn(18)
	line := spell("size", size)
	if size < 1 || size > api.MaxBlocks {
		return line, failed(api.ErrBound)
	}
	for at := min(size, h.now.size); at < api.MaxBlocks; at++ {
		h.now.has[at] = ""
	}
	h.touch(min(size, h.now.size), max(size, h.now.size))
	h.now.size = size
	return line, "ok"
}

func (h *history) forget() (string, string) {
	if h.dice.Intn(3) > 0 {
		return h.write()
	}
	h.events = append(h.events, forgotten)
	return "forget", "ok"
}

func (h *history) snap() (string, string) {
	if len(h.snaps) == api.MaxSnaps {
		return "snap", failed(api.ErrFull)
	}
	h.last++
	h.now.events = len(h.events)
	h.snaps[h.last] = h.now
	return "snap", strconv.Itoa(h.last)
}

func (h *history) unsnap() (string, string) {
	id := pick(h, h.snaps)
	if _, ok := h.snaps[id]; !ok {
		return spell("unsnap", id), failed(api.ErrNone)
	}
	delete(h.snaps, id)
	return spell("unsnap", id), "ok"
}

// between returns the blocks that were touched between two snapshots.
func (h *history) between(a, b int) ([api.MaxBlocks]bool, api.Errno) {
	var touched [api.MaxBlocks]bool
	x, okA := h.snaps[a]
	y, okB := h.snaps[b]
	if !okA || !okB {
		return touched, api.ErrNone
	}
	part := h.events[min(x.events, y.events):max(x.events, y.events)]
	if slices.Contains(part, forgotten) {
		return touched, api.ErrStale
	}
	for _, at := range part {
		touched[at] = true
	}
	return touched, api.OK
}

func (h *history) changed() (string, string) {
	a, b := pick(h, h.snaps), pick(h, h.snaps)
	line := spell("changed", a, b)
	touched, err := h.between(a, b)
	if err != api.OK {
		return line, failed(err)
	}
	result := ""
	for at := 0; at < api.MaxBlocks; at++ {
		from := at
		for at < api.MaxBlocks && touched[at] {
			at++
		}
		if at > from {
			result += " " + strconv.Itoa(from) + "+" + strconv.Itoa(at-from)
		}
	}
	if result == "" {
		return line, "-"
	}
	return line, result[1:]
}

// save makes a point of some blocks of a snapshot; it must have given texts.
func (h *history) save(base int, m moment, touched [api.MaxBlocks]bool, has texts) string {
	h.used++
	var puts []api.Put
	for at := range m.size {
		if touched[at] {
			puts = append(puts, api.Put{At: at, Data: m.has[at]})
		}
	}
	v := h.v.Copy()
	id, err := v.Ingest(base, 1, m.size, puts)
	if err != nil {
		return failed(err.(api.Errno))
	}
	h.v = v
	h.points[id] = has
	return strconv.Itoa(id)
}

func (h *history) full() (string, string) {
	id := pick(h, h.snaps)
	m, ok := h.snaps[id]
	if !ok {
		return spell("full", id), failed(api.ErrNone)
	}
	var all [api.MaxBlocks]bool
	for at := range all {
		all[at] = true
	}
	return spell("full", id), h.save(0, m, all, m.has)
}

func (h *history) more() (string, string) {
	id, since, base := pick(h, h.snaps), pick(h, h.snaps), pick(h, h.points)
	line := spell("more", id, since, base)
	touched, err := h.between(id, since)
	if err != api.OK {
		return line, failed(err)
	}
	has, ok := h.points[base]
	if !ok && base != 0 {
		return line, failed(api.ErrNone)
	}
	m := h.snaps[id]
	for at := range has {
		switch {
		case at >= m.size:
			has[at] = ""
		case touched[at]:
			has[at] = m.has[at]
		}
	}
	return line, h.save(base, m, touched, has)
}

func (h *history) again() (string, string) {
	id := pick(h, h.points)
	made, err := h.v.Again(id)
	if err != nil {
		return spell("again", id), failed(err.(api.Errno))
	}
	h.points[made] = h.points[id]
	return spell("again", id), strconv.Itoa(made)
}

func (h *history) isMounted(id int) bool {
	for _, m := range h.mounts {
		if m.point == id {
			return true
		}
	}
	return false
}

func (h *history) remove(id int) {
	h.v.Drop(id)
	delete(h.points, id)
}

func (h *history) drop() (string, string) {
	id := pick(h, h.points)
	line := spell("drop", id)
	if _, ok := h.points[id]; !ok {
		return line, failed(api.ErrNone)
	}
	if h.isMounted(id) {
		return line, failed(api.ErrBusy)
	}
	h.remove(id)
	return line, "ok"
}

func (h *history) keep() (string, string) {
	disk, many := 1, h.dice.Intn(8)
	if h.dice.Intn(5) == 0 {
		disk = h.dice.Intn(3)
	}
	line := spell("keep", disk, many)
	l := slices.Sorted(maps.Keys(h.points))
	var dropped []string
	for k, id := range l {
		if disk == 1 && k < len(l)-many && !h.isMounted(id) {
			h.remove(id)
			dropped = append(dropped, strconv.Itoa(id))
		}
	}
	if len(dropped) == 0 {
		return line, "-"
	}
	return line, strings.Join(dropped, " ")
}

func (h *history) list() (string, string) {
	var l []string
	for _, id := range slices.Sorted(maps.Keys(h.points)) {
		p, _ := h.v.Find(id)
		l = append(l, spell("", id)[1:]+spell(" disk", 1)+spell(" size", p.Size))
	}
	if len(l) == 0 {
		return "points", "-"
	}
	return "points", strings.Join(l, "; ")
}

func (h *history) show() (string, string) {
	id := pick(h, h.points)
	has, ok := h.points[id]
	if !ok {
		return spell("show", id), failed(api.ErrNone)
	}
	p, _ := h.v.Find(id)
	result := ""
	for _, s := range has[:p.Size] {
		if s == "" {
			s = "-"
		}
		result += " " + s
	}
	return spell("show", id), result[1:]
}

func (h *history) blocks() (string, string) {
	return "blocks", spell(strconv.Itoa(len(h.v.X.P.L)), len(h.v.X.N))
}

func (h *history) mount() (string, string) {
	id := pick(h, h.points)
	line := spell("mount", id)
	has, ok := h.points[id]
	switch {
	case !ok:
		return line, failed(api.ErrNone)
	case len(h.mounts) == api.MaxMounts:
		return line, failed(api.ErrFull)
	}
	h.used++
	h.mounts[h.used] = view{point: id, has: has}
	return line, strconv.Itoa(h.used)
}

func (h *history) unmount() (string, string) {
	id := pick(h, h.mounts)
	line := spell("unmount", id)
	if _, ok := h.mounts[id]; !ok {
		return line, failed(api.ErrNone)
	}
	delete(h.mounts, id)
	return line, "ok"
}

// block returns a mount, a block of it, and what reading it must return.
func (h *history) block() (id, at int, err api.Errno) {
	id = pick(h, h.mounts)
	m, ok := h.mounts[id]
	if !ok {
		return id, h.dice.Intn(20), api.ErrNone
	}
	p, _ := h.v.Find(m.point)
	at = h.dice.Intn(p.Size + 1)
	if at == p.Size {
		return id, at, api.ErrBound
	}
	return id, at, api.OK
}

func (h *history) over() (string, string) {
	id, at, err := h.block()
	data, w := h.data()
	line := spell("over", id, at) + " " + w
	if err == api.OK && len(data) > api.MaxData {
		err = api.ErrMany
	}
	if err != api.OK {
		return line, failed(err)
	}
	m := h.mounts[id]
	m.has[at] = data
	h.mounts[id] = m
	return line, "ok"
}

func (h *history) read() (string, string) {
	id, at, err := h.block()
	if err != api.OK {
		return spell("read", id, at), failed(err)
	}
	s := h.mounts[id].has[at]
	if s == "" {
		s = "-"
	}
	return spell("read", id, at), s
}

func (h *history) saveAll() (string, string) { return "save", "ok" }

func (h *history) restart() (string, string) {
	if h.dice.Intn(3) > 0 {
		return h.saveAll()
	}
	clear(h.mounts)
	h.used = 0
	return spell("restart", h.dice.Intn(1000)), "ok"
}

func (h *history) noCommand() (string, string) {
	l := []string{"", " ", "fly", "snap ", "write 0", "write 00 x", "drop 1000", "points 1", "size 08", "more 1 1", "keep 1 -1"}
	return l[h.dice.Intn(len(l))], failed(api.ErrText)
}

// M1, M2, W1 to W5: long sessions have the results of a model that keeps the
// texts of each snapshot, point and mount for itself.
func TestHistories(t *testing.T) {
	seen := map[string]int{}
	for seed := range int64(3000) {
		h := newHistory(seed)
		var in, want []string
		for range api.MaxLines {
			line, result := h.step()
			in, want = append(in, line), append(want, result)
			name, _, _ := strings.Cut(line, " ")
			if !strings.HasPrefix(result, "error") {
				result = "done"
			}
			seen[name+" "+result]++
		}
		wantResults(t, in, want)
		if t.Failed() {
			t.Fatalf("seed %d: %q", seed, in)
		}
	}
	for _, s := range []string{"write done", "write error 1", "write error 2", "size done", "size error 1", "forget done", "snap done", "snap error 8", "unsnap done", "unsnap error 5", "changed done", "changed error 5", "changed error 7", "full done", "full error 5", "full error 8", "more done", "more error 5", "more error 7", "more error 8", "again done", "again error 5", "again error 8", "drop done", "drop error 5", "drop error 6", "keep done", "points done", "show done", "show error 5", "blocks done", "mount done", "mount error 5", "mount error 8", "unmount done", "unmount error 5", "over done", "over error 1", "over error 2", "over error 5", "read done", "read error 1", "read error 5", "save done", "restart done"} {
		if seen[s] < 20 {
			t.Errorf("%q was tested %d times", s, seen[s])
		}
	}
}

// M2, Z1: after the first arm, each line still has a result, and those before
// it are as they were without it.
func TestArmed(t *testing.T) {
	for seed := range int64(3000) {
		h := newHistory(seed)
		var in, want []string
		for range api.MaxLines {
			line, result := h.step()
			in, want = append(in, line), append(want, result)
		}
		first := h.dice.Intn(len(in))
		for k := first; k < len(in); k += 1 + h.dice.Intn(12) {
			in[k] = spell("arm", h.dice.Intn(30))
			if next := k + 1 + h.dice.Intn(6); next < len(in) {
				in[next] = spell("restart", h.dice.Intn(1000))
			}
		}
		in[first] = spell("arm", h.dice.Intn(30))
		out := mustRun(t, in)
		if !slices.Equal(out[:first], want[:first]) {
			t.Fatalf("seed %d: %q => %q, want %q", seed, in[:first], out[:first], want[:first])
		}
		for k, s := range out {
			if s == "" {
				t.Fatalf("seed %d: %q has an empty result", seed, in[k])
			}
		}
	}
}
