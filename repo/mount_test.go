package repo

import (
	"math"
	"strings"
	"testing"

	"counterfoil/api"
	"counterfoil/vault"
)

func wantRead(t *testing.T, r *Repo, id, at int, want string) {
	t.Helper()
	if s, err := r.Read(id, at); s != want || err != nil {
		t.Fatalf("Read(%d, %d) = %q, %v, want %q", id, at, s, err, want)
	}
}

func wantReadError(t *testing.T, r *Repo, id, at int, want error) {
	t.Helper()
	if s, err := r.Read(id, at); s != "" || err != want {
		t.Fatalf("Read(%d, %d) = %q, %v, want %v", id, at, s, err, want)
	}
}

// wantNoMount asks for a mount that is not there in all ways.
func wantNoMount(t *testing.T, r *Repo, id int) {
	t.Helper()
	for _, at := range []int{0, -1, 99} {
		wantReadError(t, r, id, at, api.ErrNone)
		wantError(t, "Write", r.Write(id, at, "x"), api.ErrNone)
		wantError(t, "Write", r.Write(id, at, "1234567"), api.ErrNone)
	}
	wantError(t, "Unmount", r.Unmount(id), api.ErrNone)
}

func TestMount(t *testing.T) { // K6
	d, r := made(t, 196)
	add(t, r, 0, 1, 8, api.Put{At: 2, Data: "hay"}, api.Put{At: 5, Data: "oats"})
	v := r.Vault()
	wantMount(t, r, 1, 2, nil)
	for at, want := range []string{"", "", "hay", "", "", "oats", "", ""} {
		wantRead(t, r, 2, at, want)
	}
	for _, data := range []string{"straw", "123456", "", "ééé", "\x00\xff", "hay", ""} {
		for _, at := range []int{2, 0, 7} {
			wantError(t, "Write", r.Write(2, at, data), nil)
			wantRead(t, r, 2, at, data)
		}
		wantRead(t, r, 2, 5, "oats")
	}
	wantStored(t, d, r, v)
}

func TestMountErrors(t *testing.T) { // K6, Z1, Z3
	_, r := made(t, 196)
	add(t, r, 0, 1, 8)
	add(t, r, 0, 1, 8)
	wantError(t, "Drop", r.Drop(2), nil)
	none := append(noNumbers(), 2, 3)
	for _, id := range none {
		wantMount(t, r, id, 0, api.ErrNone)
		wantNoMount(t, r, id)
	}
	for id := 3; id <= 5; id++ {
		wantMount(t, r, 1, id, nil)
	}
	wantMount(t, r, 1, 0, api.ErrFull)
	for _, id := range none {
		wantMount(t, r, id, 0, api.ErrNone)
	}
	// Sessions are no mounts.
	wantBegin(t, r, 0, 1, 8, 6)
	wantNoMount(t, r, 6)
	wantError(t, "Abort", r.Abort(6), nil)
	wantMount(t, r, 1, 0, api.ErrFull)
	wantError(t, "Unmount", r.Unmount(4), nil)
	wantNoMount(t, r, 4)
	wantMount(t, r, 1, 7, nil)
	wantMount(t, r, 1, 0, api.ErrFull)
}

func TestReadAndWriteErrors(t *testing.T) { // K6, Z1, Z3
	d, r := made(t, 196)
	add(t, r, 0, 1, 8, api.Put{At: 2, Data: "hay"})
	add(t, r, 0, 1, 16)
	v := r.Vault()
	wantMount(t, r, 1, 3, nil)
	wantMount(t, r, 2, 4, nil)
	wantError(t, "Write", r.Write(3, 7, "oats"), nil)
	wantError(t, "Write", r.Write(4, 8, "bran"), nil)
	long := []string{"1234567", "éééx", strings.Repeat("x", 10000)}
	for _, at := range []int{math.MinInt, -1, 8, 15, 16, math.MaxInt} {
		wantReadError(t, r, 3, at, api.ErrBound)
		for _, data := range append(long, "", "x") {
			wantError(t, "Write", r.Write(3, at, data), api.ErrBound)
		}
		wantReadError(t, r, 3, at, api.ErrBound)
	}
	for _, data := range long {
		for _, at := range []int{0, 2, 7} {
			wantError(t, "Write", r.Write(3, at, data), api.ErrMany)
		}
	}
	for at, want := range []string{"", "", "hay", "", "", "", "", "oats"} {
		wantRead(t, r, 3, at, want)
	}
	wantRead(t, r, 4, 8, "bran")
	wantReadError(t, r, 4, 16, api.ErrBound)
	wantStored(t, d, r, v)
}

// What is written to a mount is read from this mount only.
func TestMountsAreSeparate(t *testing.T) { // K6, W3
	d, r := made(t, 196)
	add(t, r, 0, 1, 8, api.Put{At: 2, Data: "hay"})
	wantAgain(t, r, 1, 2, nil)
	wantMount(t, r, 1, 2, nil)
	wantMount(t, r, 1, 3, nil)
	wantMount(t, r, 2, 4, nil)
	wantError(t, "Write", r.Write(2, 2, "straw"), nil)
	wantError(t, "Write", r.Write(4, 2, ""), nil)
	wantRead(t, r, 2, 2, "straw")
	wantRead(t, r, 3, 2, "hay")
	wantRead(t, r, 4, 2, "")
	// A session that is based on the point, and a copy of it, have its texts.
	add(t, r, 1, 1, 8, api.Put{At: 0, Data: "new"})
	wantAgain(t, r, 1, 4, nil)
	wantRead(t, r, 2, 0, "")
	wantError(t, "Unmount", r.Unmount(2), nil)
	wantRead(t, r, 3, 2, "hay")
	// Mounted again, the point has nothing of what was written.
	wantMount(t, r, 1, 6, nil)
	wantRead(t, r, 6, 2, "hay")
	v := vault.New()
	ingest(t, v, 0, 1, 8, api.Put{At: 2, Data: "hay"})
	v.Again(1)
	ingest(t, v, 1, 1, 8, api.Put{At: 0, Data: "new"})
	v.Again(1)
	wantStored(t, d, r, v)
}

// A mount reads its point, whatever points are made and dropped meanwhile.
func TestMountStays(t *testing.T) { // K6, W3, W5
	_, r := made(t, 196)
	add(t, r, 0, 1, 16, everywhere(0, 16, "a")...)
	add(t, r, 1, 1, 16, everywhere(4, 8, "b")...)
	wantMount(t, r, 2, 3, nil)
	wantError(t, "Write", r.Write(3, 5, "own"), nil)
	check := func() {
		t.Helper()
		for at := range 16 {
			want := "a"
			if at >= 4 && at < 8 {
				want = "b"
			}
			if at == 5 {
				want = "own"
			}
			wantRead(t, r, 3, at, want)
		}
	}
	check()
	wantError(t, "Drop", r.Drop(1), nil)
	check()
	add(t, r, 2, 1, 3, everywhere(0, 3, "c")...)
	add(t, r, 0, 1, 16, everywhere(0, 16, "d")...)
	check()
	wantKeep(t, r, 1, 0, 3, 4)
	wantError(t, "Save", r.Save(), nil)
	check()
}
