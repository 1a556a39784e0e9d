package console

import (
	"slices"
	"strconv"
	"strings"
	"sync"
	"testing"

	"counterfoil/api"
	"counterfoil/store"
)

// lines returns the lines of a session that is written as in the document: a
// line, ` => ` and its result.
func lines(t *testing.T, session string) (in, want []string) {
	t.Helper()
	for _, l := range strings.Split(strings.Trim(session, "\n\t"), "\n") {
		line, result, ok := strings.Cut(strings.TrimLeft(l, "\t"), " => ")
		if !ok {
			t.Fatalf("%q has no result", l)
		}
		in, want = append(in, line), append(want, result)
	}
	return in, want
}

func mustRun(t *testing.T, in []string) []string {
	t.Helper()
	out, err := Run(in)
	if err != nil || len(out) != len(in) {
		t.Fatalf("Run() = %d results, %v, want %d", len(out), err, len(in))
	}
	return out
}

func wantResults(t *testing.T, in, want []string) {
	t.Helper()
	for k, s := range mustRun(t, in) {
		if s != want[k] {
			t.Errorf("%d: %q => %q, want %q", k, in[k], s, want[k])
		}
	}
}

func wantSession(t *testing.T, session string) {
	t.Helper()
	in, want := lines(t, session)
	wantResults(t, in, want)
}

// wantAll tests lines that all have the same result.
func wantAll(t *testing.T, result string, in []string) {
	t.Helper()
	for part := range slices.Chunk(in, api.MaxLines) {
		wantResults(t, part, slices.Repeat([]string{result}, len(part)))
	}
}

// example is the session of the document.
const example = `
	write 2 hay => ok
	write 5 oats => ok
	snap => 1
	full 1 => 1
	points => 1 disk 1 size 8
	show 1 => - - hay - - oats - -
	write 5 bran => ok
	size 12 => ok
	write 9 peas => ok
	snap => 2
	changed 1 2 => 5+1 8+4
	changed 2 1 => 5+1 8+4
	more 2 1 1 => 2
	show 2 => - - hay - - bran - - - peas - -
	blocks => 4 6
	unsnap 1 => ok
	changed 1 2 => error 5
	write 2 - => ok
	snap => 3
	forget => ok
	write 0 rye => ok
	snap => 4
	changed 2 3 => 2+1
	changed 3 4 => error 7
	more 3 2 2 => 3
	more 4 3 3 => error 7
	full 4 => 4
	show 4 => rye - - - - bran - - - peas - -
	again 2 => 5
	mount 2 => 5
	over 1 2 straw => error 5
	read 1 2 => error 5
	read 1 3 => error 5
	show 2 => - - hay - - bran - - - peas - -
	drop 2 => error 6
	keep 1 2 => 1 3
	points => 2 disk 1 size 12; 4 disk 1 size 12; 5 disk 1 size 12
	unmount 1 => error 5
	drop 2 => error 6
	blocks => 6 8
	save => ok
	restart 0 => ok
	points => 2 disk 1 size 12; 4 disk 1 size 12; 5 disk 1 size 12
	show 3 => error 5
	size 99 => error 1
	write 99 x => error 1
	drop 9 => error 5
	mount 9 => error 5
	drop 3 => error 5
	drop 4 => ok
	drop 5 => ok
	drop 6 => error 5
	blocks => 3 4
	fly high => error 4
`

// M1, M2: the session of the document.
func TestExample(t *testing.T) { wantSession(t, example) }

// M1: what there is at the beginning of a session.
func TestBeginning(t *testing.T) {
	wantSession(t, `
	points => -
	blocks => 0 0
	changed 1 1 => error 5
	write 7 x => ok
	write 8 x => error 1
	snap => 1
	full 1 => 1
	show 1 => - - - - - - - x
	points => 1 disk 1 size 8
	mount 1 => 2
	`)
}

// M1: one result for each line, and ErrMany for more than MaxLines of them,
// whatever they are; Z1: no results beside an error.
func TestMany(t *testing.T) {
	for _, n := range []int{0, 1, 2, api.MaxLines - 1, api.MaxLines} {
		wantResults(t, slices.Repeat([]string{"forget"}, n), slices.Repeat([]string{"ok"}, n))
		wantResults(t, make([]string, n), slices.Repeat([]string{"error 4"}, n))
	}
	if out, err := Run(nil); len(out) != 0 || err != nil {
		t.Errorf("Run(nil) = %q, %v", out, err)
	}
	for _, n := range []int{api.MaxLines + 1, api.MaxLines + 2, 10000} {
		for _, line := range []string{"forget", "", "fly"} {
			if out, err := Run(slices.Repeat([]string{line}, n)); len(out) != 0 || err != api.ErrMany {
				t.Errorf("Run() of %d lines = %d results, %v", n, len(out), err)
			}
		}
	}
}

// M2: lines that are no commands: other names, too few and too many words, and
// words that are not separated by single spaces.
func TestNoCommand(t *testing.T) {
	wantAll(t, "error 4", []string{
		"", " ", "  ", "-", "0", "1", "fly", "fly high", "ok", "error 4", "\x00", "\xff\xfe", "\t", "\n", "hay oats 1 2 3 4 5 6 7 8 9",
		"Snap", "SNAP", "sna", "snaps", "snap\n", "snap\t", "\tsnap", " snap", "snap ", "snap 1", "snap -", "snap  ",
		"forget 1", "points 1", "blocks 1", "save 1", "save 0", "forget ", " points", "blocks -",
		"size", "unsnap", "full", "again", "drop", "show", "mount", "unmount", "arm", "restart",
		"size ", "unsnap ", "full ", "again ", "drop ", "show ", "mount ", "unmount ", "arm ", "restart ",
		"size 8 8", "unsnap 1 1", "full 1 1", "again 1 1", "drop 1 1", "show 1 1", "mount 1 1", "unmount 1 1", "arm 1 1", "restart 1 1",
		"size  8", " size 8", "size 8 ", "size\t8", "size8", "size - 8", "size x",
		"changed", "changed 1", "changed 1 ", "changed 1  1", "changed 1 1 1", "changed 1,1", "changed 1 x", "changed x 1",
		"keep", "keep 1", "keep 1 1 1", "keep 1 -", "read", "read 1", "read 1 ", "read 1 1 1", "read 1 x", "read x 1",
		"more", "more 1", "more 1 1", "more 1 1 ", "more 1 1 1 1", "more 1  1 1", "more 1 1 x", "more 1 x 1", "more x 1 1", "more 1 1 1 ",
		"write", "write ", "write 1", "write 1 ", "write  1", "write 1  ", "write 1  x", "write 1 x ", "write 1 x y", "write x 1", "write x", "write - x", "write 1\tx", "write 1 x\t y",
		"over", "over 1", "over 1 1", "over 1 1 ", "over 1 1  ", "over 1  x", "over 1 1 x ", "over 1 1 x y", "over 1 x 1", "over x 1 1", "over x", "over 1 x",
	})
}

// M2: an unknown line changes nothing, and the session goes on.
func TestAfterNoCommand(t *testing.T) {
	wantSession(t, `
	write 1 a => ok
	write 1 a b => error 4
	write 01 b => error 4
	snap 1 => error 4
	snap => 1
	full 01 => error 4
	full 1 => 1
	drop 1  => error 4
	show 1 => - a - - - - - -
	`)
}

// M1: a number is decimal, from 0 to 999, without a sign and leading zeros.
func TestNumbers(t *testing.T) {
	var bad []string
	for _, n := range []string{"", "1000", "1001", "9999", "10000000000000000000", "99999999999999999999999999", "-0", "-1", "+0", "+1", "00", "01", "000", "001", "0999", "0x1", "1_0", "1e1", "1.0", "1.", ".1", "a", "1a", "a1", "1\n", "\t1", "٣", "１", "\xff"} {
		bad = append(bad, "size "+n, "write "+n+" x", "changed "+n+" 0", "changed 0 "+n, "more "+n+" 0 0", "more 0 "+n+" 0", "more 0 0 "+n, "over "+n+" 0 x", "over 0 "+n+" x", "keep 0 "+n, "restart "+n, "arm "+n)
	}
	wantAll(t, "error 4", bad)
	wantAll(t, "ok", []string{"size 1", "size 9", "size 10", "size 16", "write 0 x", "write 9 x", "write 10 x", "write 15 x", "restart 0", "restart 1", "restart 999"})
	wantAll(t, "error 1", []string{"size 0", "size 17", "size 100", "size 998", "size 999", "write 8 x", "write 16 x", "write 999 x"})
	wantAll(t, "error 5", []string{"unsnap 0", "unsnap 999", "changed 0 999", "full 0", "full 999", "more 999 0 999", "again 0", "again 999", "drop 0", "drop 999", "show 0", "show 999", "mount 999", "unmount 0", "unmount 999", "read 0 0", "over 999 999 x"})
	wantAll(t, "-", []string{"keep 0 0", "keep 999 999", "keep 1 0", "keep 1 999"})
}

// M2: a line of more than MaxLine bytes is none.
func TestLongLines(t *testing.T) {
	x := func(n int) string { return strings.Repeat("x", n) }
	wantAll(t, "error 2", []string{"write 0 " + x(7), "write 0 " + x(51), "write 0 " + x(52), "write 0 " + strings.Repeat("é", 26)})
	wantAll(t, "error 1", []string{"write 999 " + x(50)})
	wantAll(t, "error 4", []string{"write 0 " + x(53), "write 0 " + x(54), "write 999 " + x(51), "write 0 x" + strings.Repeat("é", 26), "snap" + strings.Repeat(" ", 57), x(60), x(61), x(62), x(100000), strings.Repeat("é", 31), strings.Repeat("1 ", 30), strings.Repeat("1 ", 31)})
}

// M1: a text is any word, and - is the empty one.
func TestData(t *testing.T) {
	wantSession(t, `
	write 0 123456 => ok
	write 1 1234567 => error 2
	write 2 -- => ok
	write 3 -1 => ok
	write 4 ;;; => ok
	write 5 "a" => ok
	write 6 007 => ok
	write 7 ééé => ok
	snap => 1
	full 1 => 1
	show 1 => 123456 - -- -1 ;;; "a" 007 ééé
	write 7 éééx => error 2
	write 2 - => ok
	write 0 - => ok
	snap => 2
	full 2 => 2
	show 2 => - - - -1 ;;; "a" 007 ééé
	changed 1 2 => 0+1 2+1
	mount 2 => 3
	over 3 7 - => ok
	over 3 0 --x => ok
	read 3 7 => -
	read 3 0 => --x
	read 3 6 => 007
	read 3 2 => -
	`)
	odd := []string{"\x00", "\xff\xfe\xfd", "a\tb", "\n", "\r\n", "\u00a0", "a;b"}
	in := []string{}
	for k, s := range odd {
		in = append(in, "write "+string(rune('0'+k))+" "+s)
	}
	want := slices.Repeat([]string{"ok"}, len(in))
	in, want = append(in, "snap", "full 1", "show 1"), append(want, "1", "1", strings.Join(odd, " ")+" -")
	wantResults(t, in, want)
}

// M1: write, size, snap, unsnap, forget and changed; M2: their errors.
func TestTracked(t *testing.T) {
	wantSession(t, `
	changed 1 2 => error 5
	snap => 1
	changed 1 1 => -
	snap => 2
	changed 1 2 => -
	write 0 a => ok
	write 0 a => ok
	write 7 - => ok
	snap => 3
	changed 1 3 => 0+1 7+1
	changed 1 2 => -
	changed 4 3 => error 5
	changed 3 4 => error 5
	size 5 => ok
	size 0 => error 1
	size 17 => error 1
	write 5 x => error 1
	write 5 1234567 => error 1
	write 4 1234567 => error 2
	snap => 4
	size 16 => ok
	size 16 => ok
	write 15 b => ok
	snap => 5
	snap => error 8
	changed 3 4 => 5+3
	changed 4 5 => 5+11
	changed 5 1 => 0+1 5+11
	unsnap 4 => ok
	unsnap 4 => error 5
	unsnap 6 => error 5
	changed 3 5 => 5+11
	forget => ok
	changed 3 5 => 5+11
	write 3 c => ok
	snap => 6
	changed 5 6 => error 7
	changed 3 6 => error 7
	changed 6 4 => error 5
	unsnap 5 => ok
	write 2 d => ok
	write 1 e => ok
	snap => 7
	changed 6 7 => 1+2
	changed 3 7 => error 7
	full 6 => 1
	show 1 => a - - c - - - - - - - - - - - b
	`)
}

// M1: full, more and again, and the points that they make; M2: their errors.
func TestPoints(t *testing.T) {
	wantSession(t, `
	full 1 => error 5
	more 1 1 0 => error 5
	again 1 => error 5
	write 0 a => ok
	write 4 b => ok
	snap => 1
	write 4 c => ok
	size 6 => ok
	snap => 2
	full 2 => 1
	show 1 => a - - - c -
	full 1 => 2
	more 2 1 2 => 3
	show 3 => a - - - c -
	more 2 1 0 => 4
	show 4 => - - - - c -
	more 1 2 1 => 5
	show 5 => a - - - b - - -
	more 2 2 5 => 6
	points => 1 disk 1 size 6; 2 disk 1 size 8; 3 disk 1 size 6; 4 disk 1 size 6; 5 disk 1 size 8; 6 disk 1 size 6
	show 6 => a - - - b -
	full 2 => error 8
	again 1 => error 8
	again 7 => error 5
	full 3 => error 5
	more 3 1 1 => error 5
	more 1 3 1 => error 5
	more 2 1 9 => error 5
	more 2 1 6 => error 8
	drop 4 => ok
	again 3 => 7
	show 7 => a - - - c -
	drop 3 => ok
	show 7 => a - - - c -
	forget => ok
	snap => 3
	drop 1 => ok
	more 3 2 9 => error 7
	more 3 2 5 => error 7
	more 3 3 5 => 8
	show 8 => a - - - b -
	points => 2 disk 1 size 8; 5 disk 1 size 8; 6 disk 1 size 6; 7 disk 1 size 6; 8 disk 1 size 6
	show 1 => error 5
	show 3 => error 5
	`)
}

// M1: drop, keep and blocks; M2: their errors. W4: when all points have been
// dropped, nothing is stored.
func TestDropAndKeep(t *testing.T) {
	wantSession(t, `
	write 0 a => ok
	write 1 b => ok
	snap => 1
	full 1 => 1
	blocks => 2 2
	again 1 => 2
	blocks => 2 2
	full 1 => 3
	blocks => 4 4
	write 5 c => ok
	snap => 2
	more 2 1 1 => 4
	blocks => 5 6
	keep 1 4 => -
	keep 1 999 => -
	keep 2 0 => -
	keep 0 0 => -
	mount 2 => 4
	keep 1 1 => 1 3
	points => 2 disk 1 size 8; 4 disk 1 size 8
	blocks => 3 4
	drop 1 => error 5
	drop 2 => error 6
	drop 4 => ok
	blocks => 2 2
	unmount 4 => ok
	keep 1 0 => 2
	points => -
	blocks => 0 0
	keep 1 0 => -
	drop 2 => error 5
	full 1 => 5
	points => 5 disk 1 size 8
	drop 5 => ok
	blocks => 0 0
	`)
}

// M1: mount, unmount, over and read; M2: their errors. W3: what is written to a
// mount is read from this mount only.
func TestMounts(t *testing.T) {
	wantSession(t, `
	mount 1 => error 5
	unmount 1 => error 5
	read 1 0 => error 5
	over 1 0 x => error 5
	write 0 a => ok
	snap => 1
	full 1 => 1
	mount 2 => error 5
	mount 1 => 2
	mount 1 => 3
	again 1 => 2
	mount 2 => 4
	mount 2 => error 8
	mount 3 => error 5
	over 2 0 x => ok
	over 3 7 y => ok
	over 3 7 z => ok
	read 2 0 => x
	read 2 7 => -
	read 3 0 => a
	read 3 7 => z
	read 4 0 => a
	read 4 8 => error 1
	read 5 0 => error 5
	read 1 8 => error 5
	over 4 8 x => error 1
	over 4 8 1234567 => error 1
	over 4 7 1234567 => error 2
	over 5 7 1234567 => error 5
	show 1 => a - - - - - - -
	show 2 => a - - - - - - -
	drop 1 => error 6
	unmount 2 => ok
	unmount 2 => error 5
	drop 1 => error 6
	unmount 3 => ok
	drop 1 => ok
	read 3 0 => error 5
	mount 2 => 5
	over 5 0 - => ok
	read 5 0 => -
	read 4 0 => a
	full 1 => 3
	mount 3 => 7
	`)
}

// M2: the limits of the pool and of the index, after which a backup has changed
// nothing, except that the number of its session is not used again (K2).
func TestFullVault(t *testing.T) {
	var in, want []string
	add := func(line, result string) { in, want = append(in, line), append(want, result) }
	row := func(x string) string { return strings.Join(slices.Repeat([]string{x}, api.MaxBlocks), " ") }
	add("size 16", "ok")
	for k, x := range []string{"a", "b", "c"} {
		for at := range api.MaxBlocks {
			add("write "+strconv.Itoa(at)+" "+x, "ok")
		}
		add("snap", strconv.Itoa(k+1))
	}
	for _, l := range [][2]string{{"full 1", "1"}, {"full 2", "2"}, {"blocks", "32 10"}, {"full 3", "error 8"}, {"more 3 2 2", "error 8"}, {"blocks", "32 10"}, {"points", "1 disk 1 size 16; 2 disk 1 size 16"}, {"show 1", row("a")}, {"show 2", row("b")}, {"mount 1", "5"}, {"unmount 5", "ok"}, {"drop 1", "ok"}, {"full 3", "3"}, {"show 3", row("c")}, {"show 2", row("b")}, {"blocks", "32 10"}} {
		add(l[0], l[1])
	}
	wantResults(t, in, want)
}

// M1: save and restart. Points survive, sessions and mounts do not and are
// numbered from 1 on again; the tracked disk is another one.
func TestSaveAndRestart(t *testing.T) {
	wantSession(t, `
	save => ok
	restart 0 => ok
	points => -
	write 2 a => ok
	snap => 1
	full 1 => 1
	restart 0 => ok
	show 1 => - - a - - - - -
	again 1 => 2
	drop 1 => ok
	mount 2 => 1
	save => ok
	save => ok
	read 1 2 => a
	drop 2 => error 6
	restart 999 => ok
	points => 2 disk 1 size 8
	blocks => 1 2
	read 1 2 => error 5
	unmount 1 => error 5
	mount 2 => 1
	unmount 1 => ok
	write 2 b => ok
	snap => 2
	changed 1 2 => 2+1
	more 2 1 2 => 3
	show 3 => - - b - - - - -
	drop 2 => ok
	restart 1 => ok
	points => 3 disk 1 size 8
	drop 3 => ok
	restart 0 => ok
	blocks => 0 0
	full 1 => 4
	`)
}

// M1: arm is Arm, and the number of restart tells which writes are kept; the
// disk of the repository is looked at, as the results are not specified (M2).
func TestArmAndRestart(t *testing.T) {
	const at = api.Sectors - 3 // in the log, where no entry reaches
	for _, steps := range []int{0, 1, 2, 999} {
		s := mustSession(t)
		s.answer("arm " + strconv.Itoa(steps))
		for range steps {
			if err := s.sectors.Flush(); err != nil {
				t.Fatalf("armed with %d: %v", steps, err)
			}
		}
		if err := s.sectors.Flush(); err != api.ErrDown {
			t.Errorf("armed with %d: %v, want %v", steps, err, api.ErrDown)
		}
	}
	for keep := range 8 {
		s := mustSession(t)
		for k := range 3 {
			if err := s.sectors.Write(at+k, "x"); err != nil {
				t.Fatal(err)
			}
		}
		before := s.repo
		s.answer("restart " + strconv.Itoa(keep))
		if s.repo == before || s.repo == nil {
			t.Errorf("restart %d: the repository was not opened again", keep)
		}
		for k := range 3 {
			l, err := s.sectors.Read(at + k)
			if kept := strings.HasPrefix(l, "x"); err != nil || kept != (keep>>k&1 == 1) {
				t.Errorf("restart %d: write %d kept %v, %v", keep, k, kept, err)
			}
		}
	}
}

// M1: save is Save: the log of the store on the disk is free again (K6, J3).
func TestSave(t *testing.T) {
	s := mustSession(t)
	for _, line := range []string{"write 2 a", "snap", "full 1", "save"} {
		before := logRoom(t, s)
		s.answer(line)
		switch after := logRoom(t, s); {
		case line == "full 1" && after >= before:
			t.Errorf("%q: %d sectors of the log are free, as before", line, after)
		case line == "save" && after != api.Sectors-122:
			t.Errorf("%q: %d sectors of the log are free, want %d", line, after, api.Sectors-122)
		}
	}
	if result := s.answer("show 1"); result != "- - a - - - - -" {
		t.Errorf("after save, point 1 has %q", result)
	}
}

func logRoom(t *testing.T, s *session) int {
	t.Helper()
	l, err := store.Open(s.sectors)
	if err != nil {
		t.Fatal(err)
	}
	return l.Room()
}

func mustSession(t *testing.T) *session {
	t.Helper()
	s, err := newSession()
	if err != nil {
		t.Fatal(err)
	}
	return s
}

// Z2: calls do not depend on each other, also at the same time; the lines are
// not modified, and those behind the list not read; results are new.
func TestCalls(t *testing.T) {
	in, want := lines(t, example)
	all := append(slices.Clone(in), "drop 2", "fly")
	var group sync.WaitGroup
	for n := range len(in) + 1 {
		group.Go(func() {
			out, err := Run(all[:n])
			if err != nil || !slices.Equal(out, want[:n]) {
				t.Errorf("the first %d lines: %q, %v", n, out, err)
			}
			for k := range out {
				out[k] = "changed"
			}
		})
	}
	group.Wait()
	if !slices.Equal(all[:len(in)], in) {
		t.Errorf("lines are now %q", all)
	}
	wantResults(t, in, want)
}
