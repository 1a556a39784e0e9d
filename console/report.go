package console

import (
	"strconv"

	"counterfoil/api"
)

// report performs a command whose result is a text or a list.
func (s *session) report(c command) (string, error) {
	switch c.name {
	case "changed":
		return s.changed(c.numbers[0], c.numbers[1])
	case "keep":
		return s.keep(c.numbers[0], c.numbers[1])
	case "points":
		return s.points(), nil
	case "show":
		return s.show(c.numbers[0])
	case "blocks":
		return s.blocks(), nil
	case "read":
		data, err := s.repo.Read(c.numbers[0], c.numbers[1])
		return wordFor(data), err
	}
	return "", api.ErrText
}

func (s *session) changed(a, b int) (string, error) {
	l, err := s.tracked.Changed(a, b)
	if err != nil {
		return "", err
	}
	var areas []string
	for _, x := range l {
		areas = append(areas, strconv.Itoa(x.From)+"+"+strconv.Itoa(x.Many))
	}
	return spaced(areas...), nil
}

func (s *session) keep(disk, many int) (string, error) {
	l, err := s.repo.Keep(disk, many)
	if err != nil {
		return "", err
	}
	var dropped []string
	for _, id := range l {
		dropped = append(dropped, strconv.Itoa(id))
	}
	return spaced(dropped...), nil
}

func (s *session) points() string {
	var l []string
	for _, p := range s.repo.Vault().L {
		l = append(l, spaced(strconv.Itoa(p.ID), "disk", strconv.Itoa(p.Disk), "size", strconv.Itoa(p.Size)))
	}
	return list("; ", l...)
}

func (s *session) show(id int) (string, error) {
	v := s.repo.Vault()
	p, ok := v.Find(id)
	if !ok {
		return "", api.ErrNone
	}
	var texts []string
	for at := range p.Size {
		data, err := v.Read(id, at)
		if err != nil {
			return "", err
		}
		texts = append(texts, wordFor(data))
	}
	return spaced(texts...), nil
}

func (s *session) blocks() string {
	x := s.repo.Vault().X
	return spaced(strconv.Itoa(len(x.P.Numbers())), strconv.Itoa(len(x.Numbers())))
}
