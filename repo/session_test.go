package repo

import (
	"math"
	"strings"
	"testing"

	"counterfoil/api"
	"counterfoil/vault"
)

func TestBeginErrors(t *testing.T) { // K2, Z1, Z3
	d, r := made(t, 196)
	add(t, r, 0, 1, 8)
	add(t, r, 0, api.MaxID, 8)
	add(t, r, 0, 1, 8)
	wantError(t, "Drop", r.Drop(3), nil)
	v := r.Vault()
	for _, full := range []bool{false, true} {
		if full {
			for range api.MaxSessions {
				wantBegin(t, r, 0, 1, 8, r.last+1)
			}
		}
		for _, base := range []int{math.MinInt, -1, 0, 1, 2, 3, 9} {
			for _, n := range []int{math.MinInt, -1, 0, api.MaxID + 1, math.MaxInt} {
				wantBeginError(t, r, base, n, 8, api.ErrBound)
			}
			for _, n := range []int{math.MinInt, -1, 0, api.MaxBlocks + 1, math.MaxInt} {
				wantBeginError(t, r, base, 1, n, api.ErrBound)
			}
		}
		for _, base := range []int{math.MinInt, -1, 3, 4, 1000, math.MaxInt} {
			wantBeginError(t, r, base, 1, 8, api.ErrNone)
		}
		for _, x := range [][2]int{{1, 2}, {1, api.MaxID}, {2, 1}, {2, 998}} {
			wantBeginError(t, r, x[0], x[1], 8, api.ErrShape)
		}
	}
	wantBeginError(t, r, 0, 1, 8, api.ErrFull)
	wantBeginError(t, r, 1, 1, 8, api.ErrFull)
	wantBeginError(t, r, 2, api.MaxID, api.MaxBlocks, api.ErrFull)
	wantStored(t, d, r, v)
}

func TestMostSessions(t *testing.T) { // K2, K3
	_, r := made(t, 196)
	for _, id := range []int{1, 2, 3} {
		wantBegin(t, r, 0, id, id, id)
	}
	wantBeginError(t, r, 0, 1, 1, api.ErrFull)
	wantError(t, "Abort", r.Abort(2), nil)
	wantBegin(t, r, 0, 1, 8, 4)
	wantBeginError(t, r, 0, 1, 1, api.ErrFull)
	wantFinish(t, r, 1, 1, nil)
	wantBegin(t, r, 1, 1, 8, 5)
	wantBeginError(t, r, 0, 1, 1, api.ErrFull)
	// Mounts are no sessions.
	for id := 6; id < 9; id++ {
		wantMount(t, r, 1, id, nil)
	}
	wantError(t, "Unmount", r.Unmount(6), nil)
	wantBeginError(t, r, 0, 1, 1, api.ErrFull)
}

// All disks and sizes that may be become those of the point.
func TestBeginBounds(t *testing.T) { // K2, K3
	for _, disk := range []int{1, 2, 998, api.MaxID} {
		for _, size := range []int{1, 2, 15, api.MaxBlocks} {
			d, r := made(t, 196)
			point := add(t, r, 0, disk, size, api.Put{At: size - 1, Data: "hay"})
			add(t, r, point, disk, api.MaxBlocks)
			add(t, r, point, disk, 1)
			v := vault.New()
			ingest(t, v, 0, disk, size, api.Put{At: size - 1, Data: "hay"})
			ingest(t, v, 1, disk, api.MaxBlocks)
			ingest(t, v, 1, disk, 1)
			wantStored(t, d, r, v)
		}
	}
}

func TestPutErrors(t *testing.T) { // K2, Z1, Z3
	d, r := made(t, 196)
	add(t, r, 0, 1, 16, api.Put{At: 2, Data: "hay"})
	long := []string{"1234567", "éééx", strings.Repeat("x", 10000)}
	wantBegin(t, r, 1, 1, 8, 2)
	wantBegin(t, r, 1, 1, 3, 3)
	wantMount(t, r, 1, 4, nil)
	wantPut(t, r, 2, api.Put{At: 7, Data: "oats"}, api.Put{At: 0, Data: "123456"})
	for _, data := range append(long, "", "x") {
		for _, id := range append(noNumbers(), 1, 4, 5) {
			for _, at := range []int{0, -1, 99} {
				wantError(t, "Put", r.Put(id, at, data), api.ErrNone)
			}
		}
		for _, at := range []int{math.MinInt, -1, 8, 9, 15, 16, math.MaxInt} {
			wantError(t, "Put", r.Put(2, at, data), api.ErrBound)
		}
		wantError(t, "Put", r.Put(3, 3, data), api.ErrBound)
	}
	for _, data := range long {
		for _, at := range []int{0, 1, 7} {
			wantError(t, "Put", r.Put(2, at, data), api.ErrMany)
		}
	}
	// An error has not removed what was put before.
	wantFinish(t, r, 2, 2, nil)
	wantFinish(t, r, 3, 3, nil)
	for _, id := range []int{2, 3} {
		wantError(t, "Put", r.Put(id, 0, "x"), api.ErrNone)
	}
	v := vault.New()
	ingest(t, v, 0, 1, 16, api.Put{At: 2, Data: "hay"})
	ingest(t, v, 1, 1, 8, api.Put{At: 7, Data: "oats"}, api.Put{At: 0, Data: "123456"})
	ingest(t, v, 1, 1, 3)
	wantStored(t, d, r, v)
}

// The numbers of nodes and blocks tell in which order the texts were stored.
func TestPutsInOrder(t *testing.T) { // K2, K3
	for _, x := range []struct{ put, want puts }{
		{puts{{At: 5, Data: "b"}, {At: 0, Data: "a"}}, puts{{At: 5, Data: "b"}, {At: 0, Data: "a"}}},
		{puts{{At: 0, Data: "a"}, {At: 5, Data: "b"}, {At: 0, Data: "c"}}, puts{{At: 5, Data: "b"}, {At: 0, Data: "c"}}},
		{puts{{At: 0, Data: "a"}, {At: 5, Data: "b"}, {At: 0, Data: "a"}}, puts{{At: 5, Data: "b"}, {At: 0, Data: "a"}}},
		{puts{{At: 2, Data: "x"}, {At: 6, Data: "y"}, {At: 2}}, puts{{At: 6, Data: "y"}, {At: 2}}},
		{puts{{At: 2}, {At: 6, Data: "y"}, {At: 2, Data: "x"}, {At: 6}}, puts{{At: 2, Data: "x"}, {At: 6}}},
		{
			puts{{At: 0, Data: "a"}, {At: 4, Data: "b"}, {At: 7, Data: "c"}, {At: 4, Data: "d"}, {At: 0, Data: "e"}, {At: 4, Data: "f"}},
			puts{{At: 7, Data: "c"}, {At: 0, Data: "e"}, {At: 4, Data: "f"}},
		},
		{puts{{At: 3, Data: "hay"}, {At: 3}, {At: 3, Data: "hay"}, {At: 3}}, puts{{At: 3}}},
	} {
		for base := range 2 {
			d, r := made(t, 196)
			v := vault.New()
			first := puts{{At: 2, Data: "hay"}, {At: 5, Data: "oats"}}
			add(t, r, 0, 1, 8, first...)
			ingest(t, v, 0, 1, 8, first...)
			add(t, r, base, 1, 8, x.put...)
			ingest(t, v, base, 1, 8, x.want...)
			wantStored(t, d, r, v)
		}
	}
}

// While a text is stored that is replaced later, there may be no room for it:
// only the last one counts.
func TestPutInPlaceNeedsNoRoom(t *testing.T) { // K2, K3
	d, r := made(t, 196)
	v := vault.New()
	for k, n := range []int{16, 16, 7} {
		data := "abc"[k : k+1]
		add(t, r, 0, 1, 16, everywhere(0, n, data)...)
		ingest(t, v, 0, 1, 16, everywhere(0, n, data)...)
	}
	// There is room for one more block, and for no second one.
	add(t, r, 3, 1, 16, api.Put{At: 8, Data: "d"}, api.Put{At: 9, Data: "e"}, api.Put{At: 8})
	ingest(t, v, 3, 1, 16, api.Put{At: 9, Data: "e"}, api.Put{At: 8})
	wantStored(t, d, r, v)
}

func TestSessionsAreSeparate(t *testing.T) { // K2, K3, W3
	d, r := made(t, 196)
	add(t, r, 0, 1, 8, api.Put{At: 2, Data: "hay"})
	wantBegin(t, r, 1, 1, 8, 2)
	wantBegin(t, r, 1, 1, 4, 3)
	wantBegin(t, r, 0, 2, 8, 4)
	wantPut(t, r, 2, api.Put{At: 0, Data: "a"}, api.Put{At: 1, Data: "b"})
	wantPut(t, r, 3, api.Put{At: 0, Data: "c"})
	wantPut(t, r, 4, api.Put{At: 0, Data: "d"})
	wantPut(t, r, 2, api.Put{At: 0, Data: "e"})
	wantError(t, "Abort", r.Abort(3), nil)
	// In another order than they were opened.
	wantFinish(t, r, 4, 2, nil)
	wantFinish(t, r, 2, 3, nil)
	v := vault.New()
	ingest(t, v, 0, 1, 8, api.Put{At: 2, Data: "hay"})
	ingest(t, v, 0, 2, 8, api.Put{At: 0, Data: "d"})
	ingest(t, v, 1, 1, 8, api.Put{At: 1, Data: "b"}, api.Put{At: 0, Data: "e"})
	wantStored(t, d, r, v)
}

func TestFinishErrors(t *testing.T) { // K3, Z1, Z3
	_, r := made(t, 196)
	add(t, r, 0, 1, 8)
	wantMount(t, r, 1, 2, nil)
	wantBegin(t, r, 1, 1, 8, 3)
	wantBegin(t, r, 1, 1, 8, 4)
	wantError(t, "Abort", r.Abort(4), nil)
	wantFinish(t, r, 3, 2, nil)
	for _, id := range append(noNumbers(), 1, 2, 3, 4, 5) {
		wantFinish(t, r, id, 0, api.ErrNone)
		wantError(t, "Abort", r.Abort(id), api.ErrNone)
	}
	wantRead(t, r, 2, 0, "")
}

// After an error the session is still open, with all that was put.
func TestFinishWithoutRoom(t *testing.T) { // K1, K3, Z1
	full := func(t *testing.T, r *Repo) {
		add(t, r, 0, 1, 16, everywhere(0, 16, "a")...)
		add(t, r, 0, 1, 16, everywhere(0, 16, "b")...)
	}
	many := func(t *testing.T, r *Repo) {
		for range api.MaxPoints {
			add(t, r, 0, 1, 16)
		}
	}
	for _, x := range []struct {
		prepare    func(*testing.T, *Repo)
		base, size int
		l          puts
		id         int
	}{
		{full, 0, 16, everywhere(0, 9, "c"), 3}, // too many blocks
		{full, 2, 16, everywhere(2, 11, "c"), 3},
		{many, 0, 16, puts{{At: 3, Data: "c"}}, 7}, // too many points
		{many, 6, 2, nil, 7},
	} {
		d, r := made(t, 196)
		x.prepare(t, r)
		was, v := contents(t, d), r.Vault()
		id, err := r.Begin(x.base, 1, x.size)
		wantError(t, "Begin", err, nil)
		wantPut(t, r, id, x.l...)
		for range 3 {
			wantFinish(t, r, id, 0, api.ErrFull)
			wantVault(t, r, v)
		}
		if now := contents(t, d); strings.Join(now, "") != strings.Join(was, "") {
			t.Fatal("the error has changed the disk")
		}
		if x.base != 0 {
			wantError(t, "Drop", r.Drop(x.base), api.ErrBusy)
		}
		wantError(t, "Drop", r.Drop(1), nil)
		wantPut(t, r, id, api.Put{At: 0, Data: "new"})
		wantFinish(t, r, id, x.id, nil)
		v.Drop(1)
		ingest(t, v, x.base, 1, x.size, append(without(x.l, 0), api.Put{At: 0, Data: "new"})...)
		wantStored(t, d, r, v)
		wantError(t, "Abort", r.Abort(id), api.ErrNone)
	}
}

func without(l puts, at int) puts {
	var made puts
	for _, p := range l {
		if p.At != at {
			made = append(made, p)
		}
	}
	return made
}

// If the disk fails, the session is still open as well.
func TestFinishOnADiskThatFails(t *testing.T) { // K1, K3, Z1
	d, r := made(t, 196)
	add(t, r, 0, 1, 8)
	v := r.Vault()
	wantBegin(t, r, 1, 1, 8, 2)
	d.Arm(0)
	wantFinish(t, r, 2, 0, api.ErrDown)
	wantAgain(t, r, 1, 0, api.ErrDown)
	wantVault(t, r, v)
	wantError(t, "Drop", r.Drop(1), api.ErrBusy)
	wantPut(t, r, 2, api.Put{At: 0, Data: "x"})
	wantError(t, "Abort", r.Abort(2), nil)
	wantError(t, "Drop", r.Drop(1), api.ErrDown)
	wantStored(t, d, r, v)
}

func TestAbort(t *testing.T) { // K3
	d, r := made(t, 196)
	add(t, r, 0, 1, 8, api.Put{At: 2, Data: "hay"})
	v := r.Vault()
	wantBegin(t, r, 1, 1, 8, 2)
	wantBegin(t, r, 1, 1, 8, 3)
	wantPut(t, r, 2, api.Put{At: 0, Data: "x"})
	wantError(t, "Abort", r.Abort(2), nil)
	for range 2 {
		wantError(t, "Abort", r.Abort(2), api.ErrNone)
		wantError(t, "Put", r.Put(2, 0, "x"), api.ErrNone)
		wantFinish(t, r, 2, 0, api.ErrNone)
	}
	wantVault(t, r, v)
	wantFinish(t, r, 3, 2, nil)
	ingest(t, v, 1, 1, 8)
	wantStored(t, d, r, v)
}
