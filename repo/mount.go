package repo

import "counterfoil/api"

// mount is a view of a point. What is written to it is kept beside the point,
// which does not change.
type mount struct {
	point   int
	written map[int]string // also empty texts, which hide those of the point
}

// Mount is described in doc/11-repo.md.
func (r *Repo) Mount(id int) (int, error) {
	if _, ok := r.vault.Find(id); !ok {
		return 0, api.ErrNone
	}
	if len(r.mounts) >= api.MaxMounts {
		return 0, api.ErrFull
	}
	made := r.number()
	r.mounts[made] = &mount{point: id, written: map[int]string{}}
	return made, nil
}

// Unmount is described in doc/11-repo.md.
func (r *Repo) Unmount(id int) error { return remove(r.mounts, id) }

// Read is described in doc/11-repo.md.
func (r *Repo) Read(id, at int) (string, error) {
	m, ok := r.mounts[id]
	if !ok {
		return "", api.ErrNone
	}
	had, err := r.vault.Read(m.point, at)
	if err != nil {
		return "", err
	}
	if data, ok := m.written[at]; ok {
		return data, nil
	}
	return had, nil
}

// Write is described in doc/11-repo.md.
func (r *Repo) Write(id, at int, data string) error {
	if _, err := r.Read(id, at); err != nil {
		return err
	}
	if len(data) > api.MaxData {
		return api.ErrMany
	}
	r.mounts[id].written[at] = data
	return nil
}
