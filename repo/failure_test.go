package repo

import (
	"math"
	"slices"
	"testing"

	"counterfoil/api"
	"counterfoil/disk"
	"counterfoil/image"
	"counterfoil/vault"
)

// dice is a fixed sequence of numbers, the same in each run.
type dice uint64

func (r *dice) roll(n int) int {
	*r = *r*6364136223846793005 + 1442695040888963407
	return int(uint64(*r) >> 33 % uint64(n))
}

func (r *dice) keep() uint64 { return uint64(r.roll(1<<31))<<33 ^ uint64(r.roll(1<<31))<<5 }

// keeps returns what may be kept of many writes.
func keeps(r *dice) []uint64 {
	l := []uint64{0, 1, 2, 3, math.MaxUint64 - 1, math.MaxUint64}
	for range 5 {
		l = append(l, r.keep())
	}
	return l
}

// allKeeps returns whatever may be kept of up to 7 writes.
func allKeeps() []uint64 {
	var l []uint64
	for keep := range uint64(1 << 7) {
		l = append(l, keep)
	}
	return l
}

// failEverywhere lets a disk with these sectors fail at each step of an action,
// with each of these choices of what is kept, and opens the repository again,
// which must have one of these vaults. It returns which of them were seen.
func failEverywhere(t *testing.T, sectors []string, action func(*Repo) error, vaults []*vault.Vault, keeps []uint64) []bool {
	t.Helper()
	seen := make([]bool, len(vaults))
	for n := 0; ; n++ {
		for _, keep := range keeps {
			d := filled(t, sectors)
			repo := mustOpen(t, d)
			d.Arm(n)
			err := action(repo)
			if err == nil {
				wantStored(t, d, repo, vaults[len(vaults)-1])
				return seen
			}
			if err != api.ErrDown || !d.Down() {
				t.Fatalf("step %d: %v, Down() = %v", n, err, d.Down())
			}
			d.Restart(keep)
			repo = mustOpen(t, d)
			v := repo.Vault()
			k := slices.IndexFunc(vaults, func(w *vault.Vault) bool { return isSame(v, w) })
			if k < 0 {
				t.Fatalf("step %d, keep %b: %v", n, keep, image.Rows(v))
			}
			seen[k] = true
			wantGoesOn(t, d, repo)
		}
	}
}

// wantGoesOn uses a repository after a failure.
func wantGoesOn(t *testing.T, d *disk.Disk, r *Repo) {
	t.Helper()
	v := r.Vault()
	id := v.L[0].ID
	wantBegin(t, r, id, v.L[0].Disk, v.L[0].Size, 1)
	wantError(t, "Drop", r.Drop(id), api.ErrBusy)
	wantError(t, "Abort", r.Abort(1), nil)
	v.Drop(id)
	wantError(t, "Drop", r.Drop(id), nil)
	wantStored(t, d, r, v)
}

// situations returns disks with a repository each, which has the points 1 to 4
// and an empty log, a log with some room, or one with hardly any.
func situations(t *testing.T) [][]string {
	t.Helper()
	d, r := made(t, 196)
	add(t, r, 0, 1, 16, everywhere(0, 16, "a")...)
	add(t, r, 1, 1, 16, everywhere(2, 11, "b")...)
	add(t, r, 2, 1, 9, api.Put{At: 0, Data: "c"})
	wantAgain(t, r, 3, 4, nil)
	l := [][]string{contents(t, d)}
	for range 2 {
		wantError(t, "Save", r.Save(), nil)
		l = append(l, contents(t, d))
	}
	for {
		wantAgain(t, r, 3, r.Vault().Next, nil)
		if _, room := lastEntry(t, d); room < 10 {
			return append(l, contents(t, d))
		}
		wantError(t, "Drop", r.Drop(r.Vault().Next-1), nil)
		if _, room := lastEntry(t, d); room < 10 {
			return append(l, contents(t, d))
		}
	}
}

// wantFailures lets the disk fail in all situations; after returns the vaults
// that may be there, apart from the one that was there before.
func wantFailures(t *testing.T, action func(*Repo) error, after func(*vault.Vault) []*vault.Vault) {
	t.Helper()
	r := dice(1)
	for k, sectors := range situations(t) {
		v := mustOpen(t, filled(t, sectors)).Vault()
		vaults := append([]*vault.Vault{v}, after(v)...)
		if seen := failEverywhere(t, sectors, action, vaults, keeps(&r)); slices.Contains(seen, false) {
			t.Errorf("situation %d: seen: %v", k, seen)
		}
	}
}

func TestFailuresOfFinish(t *testing.T) { // W6, K1, K3
	for _, x := range []struct {
		base, size int
		l          puts
	}{{0, 8, nil}, {3, 4, puts{{At: 1, Data: "x"}}}, {2, 16, everywhere(5, 12, "y")}} {
		wantFailures(t, func(r *Repo) error {
			id, _ := r.Begin(x.base, 1, x.size)
			wantPut(t, r, id, x.l...)
			_, err := r.Finish(id)
			return err
		}, func(v *vault.Vault) []*vault.Vault {
			w := v.Copy()
			ingest(t, w, x.base, 1, x.size, x.l...)
			return []*vault.Vault{w}
		})
	}
}

func TestFailuresOfAgain(t *testing.T) { // W6, K1, K4
	wantFailures(t, func(r *Repo) error {
		_, err := r.Again(2)
		return err
	}, func(v *vault.Vault) []*vault.Vault {
		w := v.Copy()
		w.Again(2)
		return []*vault.Vault{w}
	})
}

func TestFailuresOfDrop(t *testing.T) { // W6, K1, K4
	for _, id := range []int{1, 2, 4} {
		wantFailures(t, func(r *Repo) error { return r.Drop(id) }, func(v *vault.Vault) []*vault.Vault {
			w := v.Copy()
			w.Drop(id)
			return []*vault.Vault{w}
		})
	}
}

// What Keep has dropped before the failure is dropped, and each as a whole.
func TestFailuresOfKeep(t *testing.T) { // W6, K1, K5
	wantFailures(t, func(r *Repo) error {
		_, err := r.Keep(1, 1)
		return err
	}, func(v *vault.Vault) []*vault.Vault {
		var l []*vault.Vault
		for _, id := range v.Eldest(1, 1) {
			v = v.Copy()
			v.Drop(id)
			l = append(l, v)
		}
		return l
	})
}

func TestFailuresOfSave(t *testing.T) { // W6, K6
	wantFailures(t, (*Repo).Save, func(*vault.Vault) []*vault.Vault { return nil })
}

// TestFailuresWithAnyWrites tries all choices of writes that are kept, where
// there are only a few changes.
func TestFailuresWithAnyWrites(t *testing.T) { // W6, K1, K3, K4, K6
	d, r := made(t, 196)
	add(t, r, 0, 1, 8, api.Put{At: 2, Data: "hay"})
	wantAgain(t, r, 1, 2, nil)
	v := r.Vault()
	finished, again, dropped := v.Copy(), v.Copy(), v.Copy()
	ingest(t, finished, 0, 1, 3, api.Put{At: 0, Data: "x"})
	again.Again(2)
	dropped.Drop(2)
	finish := func(r *Repo) error {
		id, _ := r.Begin(0, 1, 3)
		wantPut(t, r, id, api.Put{At: 0, Data: "x"})
		_, err := r.Finish(id)
		return err
	}
	for _, sectors := range [][]string{contents(t, d), saved(t, d)} {
		for _, x := range []struct {
			action func(*Repo) error
			after  *vault.Vault
		}{
			{finish, finished},
			{func(r *Repo) error { _, err := r.Again(2); return err }, again},
			{func(r *Repo) error { return r.Drop(2) }, dropped},
			{(*Repo).Save, v},
		} {
			failEverywhere(t, sectors, x.action, []*vault.Vault{v, x.after}, allKeeps())
		}
	}
}

// saved returns the sectors of a disk after a Save, over a log with entries.
func saved(t *testing.T, d *disk.Disk) []string {
	t.Helper()
	wantError(t, "Save", mustOpen(t, d).Save(), nil)
	return contents(t, d)
}
