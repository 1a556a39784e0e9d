// Package area is described in doc/01-area.md.
package area

import "counterfoil/api"

// marks has a flag for each block that a disk can have. Areas that are marked
// in it and listed again are valid, however they overlapped or adjoined.
type marks [api.MaxBlocks]bool

// Check is described in doc/01-area.md.
func Check(l []api.Area) error {
	for k, a := range l {
		// From + Many could overflow, MaxBlocks - From cannot.
		if a.From < 0 || a.Many < 1 || a.Many > api.MaxBlocks-a.From {
			return api.ErrBound
		}
		if k > 0 && a.From <= l[k-1].From+l[k-1].Many {
			return api.ErrShape
		}
	}
	return nil
}

// Has is described in doc/01-area.md.
func Has(l []api.Area, at int) bool {
	for _, a := range l {
		if at >= a.From && at-a.From < a.Many {
			return true
		}
	}
	return false
}

// Union is described in doc/01-area.md.
func Union(a, b []api.Area) []api.Area {
	var m marks
	m.add(a)
	m.add(b)
	return m.areas()
}

// Cut is described in doc/01-area.md.
func Cut(l []api.Area, size int) []api.Area {
	var m marks
	m.add(l)
	for at := max(size, 0); at < len(m); at++ {
		m[at] = false
	}
	return m.areas()
}

// Page is described in doc/01-area.md.
func Page(l []api.Area, from, many int) ([]api.Area, int) {
	var all, page marks
	all.add(l)
	for at := max(from, 0); at < len(all); at++ {
		if !all[at] {
			continue
		}
		if many < 1 {
			return page.areas(), at
		}
		page[at] = true
		many--
	}
	return page.areas(), -1
}

// Count is described in doc/01-area.md.
func Count(l []api.Area) int {
	n := 0
	for _, a := range l {
		n += a.Many
	}
	return n
}

// add marks the blocks of a list. A list that is not valid may name blocks that
// no disk has; leaving an area at the first of them also bounds the loop.
func (m *marks) add(l []api.Area) {
	for _, a := range l {
		for k := range a.Many {
			at := a.From + k
			if at < 0 || at >= len(m) {
				break
			}
			m[at] = true
		}
	}
}

// areas lists the marked blocks.
func (m *marks) areas() []api.Area {
	var l []api.Area
	for at, marked := range m {
		switch {
		case !marked:
		case at > 0 && m[at-1]:
			l[len(l)-1].Many++
		default:
			l = append(l, api.Area{From: at, Many: 1})
		}
	}
	return l
}
