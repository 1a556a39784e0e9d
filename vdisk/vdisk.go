// Package vdisk is described in doc/02-vdisk.md.
package vdisk

import (
	"slices"

	"counterfoil/api"
	"counterfoil/area"
)

// content is what a disk has at one moment. The texts from size on are always
// empty, so that a block that is added is empty whatever it had before.
type content struct {
	size  int
	texts [api.MaxBlocks]string
}

// snapshot also records what happened since it was made, up to the next one.
// With this direction, what came before the eldest snapshot, which nobody can
// ask for, has no place to be stored.
type snapshot struct {
	id      int
	was     content
	touched []api.Area
	forgot  bool
}

// Disk is described in doc/02-vdisk.md.
type Disk struct {
	now   content
	last  int        // number of the last snapshot made, which may be dropped
	snaps []snapshot // by increasing numbers
}

// New is described in doc/02-vdisk.md.
func New(size int) (*Disk, error) {
	if !isSize(size) {
		return nil, api.ErrBound
	}
	return &Disk{now: content{size: size}}, nil
}

// Size is described in doc/02-vdisk.md.
func (d *Disk) Size() int { return d.now.size }

// Write is described in doc/02-vdisk.md.
func (d *Disk) Write(at int, data string) error {
	if !d.now.has(at) {
		return api.ErrBound
	}
	if len(data) > api.MaxData {
		return api.ErrMany
	}
	d.now.texts[at] = data
	d.touch(api.Area{From: at, Many: 1})
	return nil
}

// Resize is described in doc/02-vdisk.md.
func (d *Disk) Resize(size int) error {
	if !isSize(size) {
		return api.ErrBound
	}
	low, high := min(size, d.now.size), max(size, d.now.size)
	if low == high {
		return nil
	}
	clear(d.now.texts[low:high])
	d.now.size = size
	d.touch(api.Area{From: low, Many: high - low})
	return nil
}

// Snap is described in doc/02-vdisk.md.
func (d *Disk) Snap() (int, error) {
	if len(d.snaps) >= api.MaxSnaps || d.last >= api.MaxID {
		return 0, api.ErrFull
	}
	d.last++
	d.snaps = append(d.snaps, snapshot{id: d.last, was: d.now})
	return d.last, nil
}

// Snaps is described in doc/02-vdisk.md.
func (d *Disk) Snaps() []int {
	var l []int
	for _, s := range d.snaps {
		l = append(l, s.id)
	}
	return l
}

// Drop is described in doc/02-vdisk.md.
func (d *Disk) Drop(id int) error {
	k := d.find(id)
	if k < 0 {
		return api.ErrNone
	}
	if k > 0 {
		d.snaps[k-1].extend(d.snaps[k])
	}
	d.snaps = slices.Delete(d.snaps, k, k+1)
	return nil
}

// Forget is described in doc/02-vdisk.md.
func (d *Disk) Forget() {
	if s := d.newest(); s != nil {
		s.touched, s.forgot = nil, true
	}
}

// Read is described in doc/02-vdisk.md.
func (d *Disk) Read(id, at int) (data string, size int, err error) {
	k := d.find(id)
	if k < 0 {
		return "", 0, api.ErrNone
	}
	was := &d.snaps[k].was
	if !was.has(at) {
		return "", 0, api.ErrBound
	}
	return was.texts[at], was.size, nil
}

// SizeOf is described in doc/02-vdisk.md.
func (d *Disk) SizeOf(id int) (int, error) {
	k := d.find(id)
	if k < 0 {
		return 0, api.ErrNone
	}
	return d.snaps[k].was.size, nil
}

// Changed is described in doc/02-vdisk.md.
func (d *Disk) Changed(a, b int) ([]api.Area, error) {
	i, j := d.find(a), d.find(b)
	if i < 0 || j < 0 {
		return nil, api.ErrNone
	}
	var l []api.Area
	for _, s := range d.snaps[min(i, j):max(i, j)] {
		if s.forgot {
			return nil, api.ErrStale
		}
		l = area.Union(l, s.touched)
	}
	return l, nil
}

// find returns the position of a snapshot in the list, or -1.
func (d *Disk) find(id int) int {
	return slices.IndexFunc(d.snaps, func(s snapshot) bool { return s.id == id })
}

// newest returns the snapshot that records what happens now, or nil.
func (d *Disk) newest() *snapshot {
	if len(d.snaps) == 0 {
		return nil
	}
	return &d.snaps[len(d.snaps)-1]
}

// touch records blocks as touched.
func (d *Disk) touch(a api.Area) {
	if s := d.newest(); s != nil {
		s.touched = area.Union(s.touched, []api.Area{a})
	}
}

// extend takes over what the next snapshot, which is dropped, has recorded.
func (s *snapshot) extend(next snapshot) {
	s.touched = area.Union(s.touched, next.touched)
	s.forgot = s.forgot || next.forgot
}

func (c *content) has(at int) bool { return at >= 0 && at < c.size }

func isSize(size int) bool { return size >= 1 && size <= api.MaxBlocks }
