package repo

import (
	"slices"

	"counterfoil/api"
	"counterfoil/vault"
)

// session is what will become a point.
type session struct {
	base, disk, size int
	puts             []api.Put // at most one for each block
}

// Begin is described in doc/11-repo.md.
func (r *Repo) Begin(base, disk, size int) (int, error) {
	if disk < 1 || disk > api.MaxID || size < 1 || size > api.MaxBlocks {
		return 0, api.ErrBound
	}
	if base != 0 {
		p, ok := r.vault.Find(base)
		if !ok {
			return 0, api.ErrNone
		}
		if p.Disk != disk {
			return 0, api.ErrShape
		}
	}
	if len(r.sessions) >= api.MaxSessions {
		return 0, api.ErrFull
	}
	id := r.number()
	r.sessions[id] = &session{base: base, disk: disk, size: size}
	return id, nil
}

// Put is described in doc/11-repo.md.
func (r *Repo) Put(id, at int, data string) error {
	s, ok := r.sessions[id]
	if !ok {
		return api.ErrNone
	}
	if at < 0 || at >= s.size {
		return api.ErrBound
	}
	if len(data) > api.MaxData {
		return api.ErrMany
	}
	others := slices.DeleteFunc(s.puts, func(p api.Put) bool { return p.At == at })
	s.puts = append(others, api.Put{At: at, Data: data})
	return nil
}

// Finish is described in doc/11-repo.md.
func (r *Repo) Finish(id int) (int, error) {
	s, ok := r.sessions[id]
	if !ok {
		return 0, api.ErrNone
	}
	point, err := r.change(func(v *vault.Vault) (int, error) {
		return v.Ingest(s.base, s.disk, s.size, s.puts)
	})
	if err != nil {
		return 0, err
	}
	delete(r.sessions, id)
	return point, nil
}

// Abort is described in doc/11-repo.md.
func (r *Repo) Abort(id int) error { return remove(r.sessions, id) }
