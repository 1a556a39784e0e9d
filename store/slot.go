package store

import (
	"iter"
	"strings"

	"counterfoil/api"
	"counterfoil/disk"
	"counterfoil/row"
)

// A slot is one sector with a header, and then rows. There are two of them, so
// that the rows of one are kept while those of the other one are written.
const (
	slots       = 2
	slotSectors = 61
)

// How many turns and logs there are before the first one is used again.
const (
	turns = 3
	logs  = 2
)

// title is what a header begins with.
const title = "counterfoil store"

// header tells which rows and which log a store has. Its numbers go round
// rather than up, so there is a next one, whatever a disk contains.
type header struct {
	slot int
	turn int // from 1 to turns: the header counts whose turn is after that of the other one; 0: there is none
	log  int // from 0 to logs - 1: the sectors of one log have other numbers than those of the other one
	rows int // how many there are
}

// newest returns the header that counts.
func newest(d *disk.Disk) (header, error) {
	var found header
	for k := range slots {
		s, err := d.Read(k * slotSectors)
		if err != nil {
			return header{}, err
		}
		h := parseHeader(k, s)
		if found.turn == 0 || h.turn == found.turn%turns+1 {
			found = h
		}
	}
	return found, nil
}

// parseHeader returns the header of a slot; its turn is 0 if there is none.
func parseHeader(slot int, s string) header {
	b := s[len(title):]
	h := header{slot: slot, turn: int(b[0]), log: int(b[1]), rows: int(b[2])}
	if !strings.HasPrefix(s, title) || h.turn > turns || h.log >= logs || h.rows > api.MaxRows {
		return header{slot: slot}
	}
	return h
}

func (h header) text() string {
	return title + string([]byte{byte(h.turn), byte(h.log), byte(h.rows)})
}

// next returns the header for rows that are written now. A log with entries is
// followed by the other one, of which these are no sectors. An empty log stays:
// the disk may still have entries of the other one.
func (h header) next(rows int, isLogEmpty bool) header {
	made := header{slot: (h.slot + 1) % slots, turn: h.turn%turns + 1, log: h.log, rows: rows}
	if !isLogEmpty {
		made.log = (h.log + 1) % logs
	}
	return made
}

// first returns the number of the first sector of the log.
func (h header) first() int { return 1 + h.log }

// sector returns the first sector of the slot.
func (h header) sector() int { return h.slot * slotSectors }

// write writes the slot, durably. The header is written when the rows are
// durable: until then, the other one counts.
func (h header) write(d *disk.Disk, rows []api.Change) error {
	for k, s := range pieces(rows) {
		if err := d.Write(h.sector()+1+k, s); err != nil {
			return err
		}
	}
	if err := d.Flush(); err != nil {
		return err
	}
	if err := d.Write(h.sector(), h.text()); err != nil {
		return err
	}
	return d.Flush()
}

// read returns the rows of the slot.
func (h header) read(d *disk.Disk) ([]api.Change, error) {
	if h.turn == 0 {
		return nil, api.ErrText
	}
	var b strings.Builder
	for k := 1; k < slotSectors; k++ {
		s, err := d.Read(h.sector() + k)
		if err != nil {
			return nil, err
		}
		b.WriteString(s)
	}
	return parse(b.String(), h.rows)
}

// pieces yields rows as bytes, each one after its length, in pieces that fit
// into a sector, with their indexes.
func pieces(rows []api.Change) iter.Seq2[int, string] {
	return func(yield func(int, string) bool) {
		rest := text(rows)
		for k := 0; rest != ""; k++ {
			many := min(len(rest), api.Sector)
			if !yield(k, rest[:many]) {
				return
			}
			rest = rest[many:]
		}
	}
}

func text(rows []api.Change) string {
	var b strings.Builder
	for _, r := range rows {
		// There is no error: only rows that have been checked are kept.
		s, _ := row.Bytes(r)
		b.WriteByte(byte(len(s)))
		b.WriteString(s)
	}
	return b.String()
}

// parse returns the rows with which a text begins.
func parse(s string, many int) ([]api.Change, error) {
	var rows []api.Change
	for range many {
		if s == "" || int(s[0]) >= len(s) {
			return nil, api.ErrText
		}
		end := 1 + int(s[0])
		r, err := row.Parse(s[1:end])
		if err != nil {
			return nil, err
		}
		rows = append(rows, r)
		s = s[end:]
	}
	return rows, nil
}
