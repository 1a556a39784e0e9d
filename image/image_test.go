package image

import (
	"maps"
	"regexp"
	"slices"
	"strconv"
	"strings"
	"testing"

	"counterfoil/api"
	"counterfoil/vault"
)

type (
	rows = []api.Change
	puts = []api.Put
)

// rowsOf returns rows that are written as pairs of keys and values.
func rowsOf(pairs ...string) rows {
	var l rows
	for k := 0; k+1 < len(pairs); k += 2 {
		l = append(l, api.Change{Key: pairs[k], Val: pairs[k+1]})
	}
	return l
}

// with returns rows with some that are new or have other values.
func with(l rows, pairs ...string) rows {
	for _, r := range rowsOf(pairs...) {
		l = append(but(l, r.Key), r)
	}
	slices.SortFunc(l, func(a, b api.Change) int { return strings.Compare(a.Key, b.Key) })
	return l
}

// but returns rows without some.
func but(l rows, keys ...string) rows {
	return slices.DeleteFunc(slices.Clone(l), func(r api.Change) bool { return slices.Contains(keys, r.Key) })
}

func mustIngest(t *testing.T, v *vault.Vault, base, disk, size int, l puts) {
	t.Helper()
	if n, err := v.Ingest(base, disk, size, l); err != nil || n != v.Next-1 {
		t.Fatalf("Ingest(%d, %d, %d, %v) = %d, %v", base, disk, size, l, n, err)
	}
}

// hay returns a vault with two points that share a leaf.
func hay(t *testing.T) *vault.Vault {
	t.Helper()
	v := vault.New()
	mustIngest(t, v, 0, 1, 8, puts{{At: 2, Data: "hay"}, {At: 5, Data: "oats"}})
	mustIngest(t, v, 1, 1, 12, puts{{At: 5, Data: "bran"}, {At: 9, Data: "peas"}})
	return v
}

// hayRows returns the rows of hay.
func hayRows() rows {
	return rowsOf(
		"b001", "001hay", "b002", "001oats", "b003", "001bran", "b004", "001peas",
		"n001", "002000000001000", "n002", "001000003000000", "n003", "001000002000000",
		"n004", "001001003000000", "n006", "001000004000000", "n007", "001001002006000",
		"p001", "001008004", "p002", "001012007", "x", "003")
}

// one returns rows with one block, its leaf 1 and its root 2.
func one() rows {
	return rowsOf("b001", "001hay", "n001", "001000000001000", "n002", "001001000000000", "p001", "001008002", "x", "002")
}

func wantRows(t *testing.T, v *vault.Vault, want rows) {
	t.Helper()
	for range 2 {
		l := Rows(v)
		if !slices.Equal(l, want) {
			t.Fatalf("Rows = %v, want %v", l, want)
		}
		clear(l) // the next ones share no memory with these
	}
}

// mustParse returns the vault with rows.
func mustParse(t *testing.T, l rows) *vault.Vault {
	t.Helper()
	was := slices.Clone(l)
	v, err := Parse(l)
	if err != nil || v == nil {
		t.Fatalf("Parse(%v) = %v, %v", l, v, err)
	}
	if !slices.Equal(l, was) {
		t.Fatalf("Parse changed its rows to %v", l)
	}
	wantRows(t, v, was)
	return v
}

func wantParseError(t *testing.T, l rows) {
	t.Helper()
	if v, err := Parse(l); v != nil || err != api.ErrText {
		t.Errorf("Parse(%v) = %v, %v", l, v, err)
	}
}

// wantSame compares what two vaults answer, and their rows.
func wantSame(t *testing.T, v, w *vault.Vault) {
	t.Helper()
	if !slices.Equal(v.L, w.L) || v.Next != w.Next {
		t.Fatalf("points %v, next %d, want %v, %d", v.L, v.Next, w.L, w.Next)
	}
	for _, p := range w.L {
		for at := range p.Size {
			got, err := v.Read(p.ID, at)
			want, _ := w.Read(p.ID, at)
			if got != want || err != nil {
				t.Fatalf("Read(%d, %d) = %q, %v, want %q", p.ID, at, got, err, want)
			}
		}
	}
	wantRows(t, v, Rows(w))
}

func TestRows(t *testing.T) { // F1, Z2
	wantRows(t, vault.New(), rowsOf("x", "001"))
	wantRows(t, hay(t), hayRows())
	v := vault.New()
	mustIngest(t, v, 0, 1, 8, puts{{At: 2, Data: "hay"}})
	wantRows(t, v, one())
	mustIngest(t, v, 0, api.MaxID, api.MaxBlocks, nil)
	if _, err := v.Again(1); err != nil {
		t.Fatal(err)
	}
	wantRows(t, v, with(one(), "n002", "002001000000000", "p002", "999016000", "p003", "001008002", "x", "004"))
	for _, id := range []int{1, 3, 2} {
		if err := v.Drop(id); err != nil {
			t.Fatal(err)
		}
	}
	wantRows(t, v, rowsOf("x", "004"))
}

// Data follows Refs directly, whatever it is.
func TestRowsWithAnyData(t *testing.T) { // F1, F2
	v := vault.New()
	l := puts{{At: 0, Data: "0"}, {At: 1, Data: "123456"}, {At: 2, Data: "\x00\xff\n"}, {At: 3, Data: "ééé"}, {At: 4, Data: " "}}
	mustIngest(t, v, 0, 12, 16, l)
	got := Rows(v)
	want := rowsOf("b001", "0010", "b002", "001123456", "b003", "001\x00\xff\n", "b004", "001ééé", "b005", "001 ")
	if !slices.Equal(got[:5], want) {
		t.Errorf("Rows = %v, want %v", got[:5], want)
	}
	wantSame(t, mustParse(t, got), v)
}

// full returns a vault with as many blocks as there may be.
func full(t *testing.T) *vault.Vault {
	t.Helper()
	v := vault.New()
	for _, size := range []int{16, 16, 8} {
		var l puts
		for at := range size {
			l = append(l, api.Put{At: at, Data: "x"})
		}
		mustIngest(t, v, 0, 1, size, l)
	}
	return v
}

func TestRowsOfMany(t *testing.T) { // F1, F2
	v := full(t)
	l := Rows(v)
	for at, key := range map[int]string{0: "b001", 8: "b009", 9: "b010", 39: "b040"} {
		if l[at] != (api.Change{Key: key, Val: "001x"}) {
			t.Errorf("row %d is %v", at, l[at])
		}
	}
	if len(l) != api.MaxPool+len(v.X.N)+3+1 {
		t.Errorf("%d rows", len(l))
	}
	wantSame(t, mustParse(t, l), v)
}

// After the last ID, Next has four digits.
func TestRowsAfterTheLastID(t *testing.T) { // F1, F2
	v := hay(t)
	for v.Next < api.MaxID {
		n, err := v.Again(2)
		if err != nil || v.Drop(n) != nil {
			t.Fatalf("Again(2) = %d, %v", n, err)
		}
	}
	wantRows(t, v, with(hayRows(), "x", "999"))
	if _, err := v.Again(2); err != nil {
		t.Fatal(err)
	}
	last := with(hayRows(), "n007", "002001002006000", "p999", "001012007", "x", "1000")
	wantRows(t, v, last)
	wantSame(t, mustParse(t, last), v)
}

func TestParse(t *testing.T) { // F2, Z2
	for _, s := range []string{"001", "002", "010", "999", "1000"} {
		v := mustParse(t, rowsOf("x", s))
		if n, _ := strconv.Atoi(s); v.Next != n || len(v.L)+len(v.X.N)+len(v.X.P.L) != 0 {
			t.Errorf("x %s: %v", s, v)
		}
	}
	wantSame(t, mustParse(t, hayRows()), hay(t))
	wantSame(t, mustParse(t, Rows(vault.New())), vault.New())
}

// points returns rows of points without blocks.
func points(many int) rows {
	l := rowsOf("x", text(many+1))
	for id := 1; id <= many; id++ {
		l = with(l, "p"+text(id), "001001000")
	}
	return l
}

// What a consistent vault may have, also where Ingest does not lead to it.
func TestParseWhatMayBe(t *testing.T) { // F2
	for _, l := range []rows{
		points(api.MaxPoints),
		with(hayRows(), "x", "999"),
		with(hayRows(), "p001", "999008004", "p002", "002016007"),
		with(hayRows(), "p001", "001006004", "p002", "001010007"), // as small as may be
		with(hayRows(), "b001", "001123456", "b002", "0010"),
		with(but(hayRows(), "b004"), "b040", "001peas", "n006", "001000040000000"),
		with(but(hayRows(), "n007"), "n024", "001001002006000", "p002", "001012024"),
		with(but(one(), "p001"), "p999", "001003002", "x", "1000"),
		with(one(), "p009", "003001000", "x", "010"),
		// A block twice in a leaf, a leaf twice in a root, a block in two leaves.
		with(one(), "b001", "002hay", "n001", "001001000001000"),
		with(one(), "n001", "002000000001000", "n002", "001001001000000"),
		with(one(), "b001", "002hay", "n002", "001001003000000", "n003", "001000000001000"),
	} {
		mustParse(t, l)
	}
}

func TestParseIncompleteRows(t *testing.T) { // F2, W6, Z1
	wantParseError(t, nil)
	wantParseError(t, rows{})
	for _, l := range []rows{hayRows(), one(), points(1)} {
		for _, r := range l {
			// A point without a root can be missing.
			if r.Key != "p001" || r.Val != "001001000" {
				wantParseError(t, but(l, r.Key))
			}
		}
		for k := range l {
			wantParseError(t, l[:k]) // what follows is not read
		}
	}
}

func TestParseOrder(t *testing.T) { // F2
	for _, l := range []rows{hayRows(), points(6)} {
		for k := range l {
			wantParseError(t, slices.Insert(slices.Clone(l), k, l[k]))
			if k > 0 {
				other := slices.Clone(l)
				other[k-1], other[k] = l[k], l[k-1]
				wantParseError(t, other)
			}
		}
		back := slices.Clone(l)
		slices.Reverse(back)
		wantParseError(t, back)
	}
	// The same point twice, and its root with two references.
	twice := with(one(), "n002", "002001000000000")
	wantParseError(t, slices.Insert(twice, 3, twice[3]))
}

func TestParseOtherKeys(t *testing.T) { // F2, Z1
	for k, r := range hayRows() {
		for _, key := range []string{
			"", r.Key + "0", r.Key + " ", " " + r.Key, r.Key[:len(r.Key)-1], strings.ToUpper(r.Key),
			r.Key[:1] + "0" + r.Key[1:], r.Key[:1], "\xff" + r.Key, r.Key[:1] + "+01", r.Key[:1] + "-01", r.Key[:1] + "00a",
		} {
			if key == r.Key {
				continue
			}
			l := hayRows()
			l[k].Key = key
			wantParseError(t, l)
			slices.SortFunc(l, func(a, b api.Change) int { return strings.Compare(a.Key, b.Key) })
			wantParseError(t, l)
		}
	}
	for _, key := range []string{"", "a", "b", "c001", "n", "o001", "p", "w", "x0", "x001", "y", "\x00", "é"} {
		wantParseError(t, with(hayRows(), key, ""))
		wantParseError(t, with(hayRows(), key, "001"))
		wantParseError(t, with(hayRows(), key, "001001000"))
	}
}

func TestParseOtherValues(t *testing.T) { // F2, Z1
	for k, r := range hayRows() {
		numbers := len(r.Val)
		if r.Key[0] == 'b' {
			numbers = 3
		}
		for at := range numbers {
			for _, s := range []string{"", "a", "+", "-", " ", "_", ".", "\x00", "\xff", "٣", "00"} {
				l := hayRows()
				l[k].Val = r.Val[:at] + s + r.Val[at+1:]
				wantParseError(t, l)
			}
		}
		for _, s := range []string{"", "0" + r.Val, " " + r.Val, r.Val + strings.Repeat("0", 7), strings.Repeat("9", 10000)} {
			l := hayRows()
			l[k].Val = s
			wantParseError(t, l)
		}
		if r.Key[0] != 'b' {
			wantParseError(t, with(hayRows(), r.Key, r.Val+"0"))
			wantParseError(t, with(hayRows(), r.Key, r.Val+"000"))
			wantParseError(t, with(hayRows(), r.Key, r.Val+" "))
		}
	}
}

// Rows are never Gone, with or without a value.
func TestParseGone(t *testing.T) { // F2
	for k := range hayRows() {
		l := hayRows()
		l[k].Gone = true
		wantParseError(t, l)
		l[k].Val = ""
		wantParseError(t, l)
	}
	wantParseError(t, slices.Insert(hayRows(), 0, api.Change{Key: "a", Gone: true}))
	wantParseError(t, slices.Insert(hayRows(), 4, api.Change{Key: "b005", Gone: true}))
}

func TestParseNext(t *testing.T) { // F2
	for _, s := range []string{"", "0", "1", "000", "0001", "01", "1001", "1000 ", "01000", "9999", "-01", "+01", "99999999999999999999", "x"} {
		wantParseError(t, rowsOf("x", s))
	}
	for _, s := range []string{"000", "001", "002"} {
		wantParseError(t, with(hayRows(), "x", s))
	}
	wantParseError(t, with(but(one(), "p001"), "p999", "001008002", "x", "999"))
	wantParseError(t, with(one(), "p000", "001008000"))
}

// The numbers of blocks, nodes and points, and how many there are.
func TestParseLimits(t *testing.T) { // F2
	wantParseError(t, points(api.MaxPoints+1))
	wantParseError(t, with(but(points(7), "p001", "p002", "p003", "p004", "p005"), "p000", "001001000"))
	for _, id := range []string{"000", "041", "999"} {
		wantParseError(t, with(but(one(), "b001"), "b"+id, "001hay", "n001", "001000000"+id+"000"))
	}
	for _, id := range []string{"000", "025", "999"} {
		wantParseError(t, with(but(one(), "n001"), "n"+id, "001000000001000", "n002", "001"+id+"000000000"))
		wantParseError(t, with(but(one(), "n002"), "n"+id, "001001000000000", "p001", "001008"+id))
	}
	// Numbers that are not from 1 on, but of which all else is right.
	wantParseError(t, with(but(one(), "b001"), "b-11", "001hay", "n001", "001000000-11000"))
	wantParseError(t, with(but(one(), "n002"), "n-11", "001001000000000", "p001", "001008-11"))
	l := Rows(full(t))
	wantParseError(t, with(l, "b041", "001x"))
}

func TestParseBlocks(t *testing.T) { // F2
	for _, s := range []string{"001", "0011234567", "001éééx", "000hay", "002hay", "100hay", "999hay", "hay", "01hay", "-01hay"} {
		wantParseError(t, with(one(), "b001", s))
	}
}

func TestParsePoints(t *testing.T) { // F2
	for _, s := range []string{"000008002", "001000002", "001017002", "001999002", "001008000", "001008001", "001008003", "001008024", "-01008002", "001-08002"} {
		wantParseError(t, with(one(), "p001", s))
	}
	for _, s := range []string{"001001002", "001002002"} { // it has a block at 2
		wantParseError(t, with(one(), "p001", s))
	}
	mustParse(t, with(one(), "p001", "001003002"))
	for _, size := range []string{"001", "003", "005", "006", "009"} { // at 2, 5 and 9
		wantParseError(t, with(hayRows(), "p002", "001"+size+"007"))
	}
	wantParseError(t, with(hayRows(), "p001", "001005004"))
}

func TestParseNodes(t *testing.T) { // F2, W4
	for _, l := range []rows{
		with(one(), "n001", "001000000002000"),                                                             // no such block
		with(one(), "n001", "001000000001001"),                                                             // two references
		with(one(), "n002", "001003000000000"),                                                             // no such leaf
		with(one(), "n002", "001001003000000"),                                                             // one of them
		with(one(), "n002", "001001001000000"),                                                             // two references
		with(one(), "n002", "001002000000000", "n001", "001000000001000"),                                  // a root in itself
		with(one(), "n002", "002001002000000"),                                                             // the same, counted
		with(one(), "n003", "001000000001000", "b001", "002hay"),                                           // nobody's leaf
		with(one(), "n003", "000000000001000", "b001", "002hay"),                                           // the same, counted
		with(one(), "n003", "000000000001000"),                                                             // without its own references
		with(one(), "n003", "001001000000000", "n001", "002000000001000"),                                  // nobody's root
		with(one(), "b002", "001rye"),                                                                      // nobody's block
		with(one(), "b002", "000rye"),                                                                      // the same, counted
		with(one(), "n001", "001000000000000"),                                                             // a leaf without Kids
		with(but(one(), "b001"), "n001", "001000000000000"),                                                // the same, counted
		with(but(one(), "b001", "n001"), "n002", "001000000000000"),                                        // a root without Kids
		with(one(), "n001", "002000000001000", "p002", "001008001", "x", "003"),                            // a leaf that is a root
		with(one(), "n001", "003000000001000", "p002", "001008001", "x", "003"),                            // the same
		with(one(), "n002", "002001000000000", "n003", "001002000000000", "p002", "001008003", "x", "003"), // a root that is a leaf
		with(one(), "n002", "001001003000000", "n003", "001001000000000", "n001", "002000000001000"),       // a leaf that has a leaf
	} {
		wantParseError(t, l)
	}
}

// One reference more or less, for each node and block.
func TestParseRefs(t *testing.T) { // F2, W4
	for _, r := range hayRows() {
		if r.Key[0] == 'p' || r.Key == "x" {
			continue
		}
		refs, _ := strconv.Atoi(r.Val[:3])
		for _, n := range []int{0, refs - 1, refs + 1, refs + 100, 999} {
			wantParseError(t, with(hayRows(), r.Key, text(n)+r.Val[3:]))
		}
	}
}

var (
	keyForm  = regexp.MustCompile(`^([bnp][0-9]{3}|x)$`)
	valForms = map[string]*regexp.Regexp{
		"b": regexp.MustCompile(`(?s)^[0-9]{3}.+$`),
		"n": regexp.MustCompile(`^[0-9]{15}$`),
		"p": regexp.MustCompile(`^[0-9]{9}$`),
		"x": regexp.MustCompile(`^([0-9]{3}|1000)$`),
	}
)

// world is rows as they are written, by their keys.
type world map[string]string

// nth returns a number of a value, as it is written.
func (w world) nth(key string, k int) string {
	if w[key] == "" {
		return "000"
	}
	return w[key][3*k : 3*k+3]
}

// value returns a number of a value.
func (w world) value(key string, k int) int {
	n, _ := strconv.Atoi(w.nth(key, k))
	return n
}

// block returns the number of the block at a position, as it is written.
func (w world) block(root string, at int) string {
	return w.nth("n"+w.nth("n"+root, 1+at/4), 1+at%4)
}

// readWorld returns rows by their keys, if all of them look as they should.
func readWorld(l rows) (world, bool) {
	w := world{}
	last := ""
	for _, r := range l {
		if r.Gone || r.Key <= last || !keyForm.MatchString(r.Key) || !valForms[r.Key[:1]].MatchString(r.Val) {
			return nil, false
		}
		w[r.Key] = r.Val
		last = r.Key
	}
	return w, w["x"] != "" && w["x"] != "000"
}

// kinds returns the keys of one kind of rows.
func (w world) kinds(kind string) []string {
	var l []string
	for key := range w {
		if strings.HasPrefix(key, kind) {
			l = append(l, key)
		}
	}
	return l
}

// arePlain says whether numbers and sizes are within their limits.
func (w world) arePlain() bool {
	next, _ := strconv.Atoi(w["x"])
	for _, key := range w.kinds("b") {
		if key < "b001" || key > "b040" || len(w[key]) > 9 {
			return false
		}
	}
	for _, key := range w.kinds("n") {
		if key < "n001" || key > "n024" || strings.HasSuffix(w[key], "000000000000") {
			return false
		}
	}
	for _, key := range w.kinds("p") {
		id, _ := strconv.Atoi(key[1:])
		size := w.value(key, 1)
		if id < 1 || id >= next || w.value(key, 0) < 1 || size < 1 || size > 16 {
			return false
		}
		for at := size; at < 16; at++ {
			if w.block(w.nth(key, 2), at) != "000" {
				return false
			}
		}
	}
	return len(w.kinds("p")) <= 6
}

// isVault says whether rows are those of a consistent vault: as Parse should.
func isVault(l rows) bool {
	w, ok := readWorld(l)
	if !ok || !w.arePlain() {
		return false
	}
	roots, refs := map[string]bool{}, map[string]int{}
	for _, key := range w.kinds("p") {
		roots["n"+w.nth(key, 2)] = true
		refs["n"+w.nth(key, 2)]++
	}
	for _, key := range w.kinds("n") {
		kind := "b"
		if roots[key] {
			kind = "n"
		}
		for k := range 4 {
			kid := kind + w.nth(key, 1+k)
			if roots[kid] && kid != "n000" {
				return false
			}
			refs[kid]++
		}
	}
	delete(refs, "n000")
	delete(refs, "b000")
	for key, n := range refs {
		if w[key] == "" || w.value(key, 0) != n {
			return false
		}
	}
	return len(refs) == len(w.kinds("b"))+len(w.kinds("n"))
}

// wantAsIs compares Parse with isVault, and returns what it says.
func wantAsIs(t *testing.T, l rows) bool {
	t.Helper()
	ok := isVault(l)
	if ok {
		mustParse(t, l)
	} else {
		wantParseError(t, l)
	}
	return ok
}

// dice is a fixed sequence of numbers, the same in each run.
type dice uint64

func (r *dice) roll(n int) int {
	*r = *r*6364136223846793005 + 1442695040888963407
	return int(uint64(*r) >> 33 % uint64(n))
}

// step does something to a copy of a vault, and returns it if it worked.
func step(v *vault.Vault, r *dice) *vault.Vault {
	w := v.Copy()
	id := 0
	if k := r.roll(len(w.L) + 1); k < len(w.L) {
		id = w.L[k].ID
	}
	var err error
	switch r.roll(5) {
	case 0:
		_, err = w.Again(id)
	case 1, 2:
		err = w.Drop(id)
	default:
		size := 1 + r.roll(api.MaxBlocks)
		var l puts
		for range r.roll(6) {
			l = append(l, api.Put{At: r.roll(size), Data: []string{"", "a", "001", "cccccc"}[r.roll(4)]})
		}
		_, err = w.Ingest(id, 1, size, l)
	}
	if err != nil {
		return v
	}
	return w
}

// Vaults that are read from rows go on like those that the rows are of.
func TestLongHistories(t *testing.T) { // F1, F2, W3, W4
	for seed := range 40 {
		r := dice(seed)
		v := vault.New()
		for range 60 {
			l := Rows(v)
			if !isVault(l) {
				t.Fatalf("Rows = %v", l)
			}
			w := mustParse(t, l)
			wantSame(t, w, v)
			same := r
			v, w = step(v, &r), step(w, &same)
			wantSame(t, w, v)
		}
	}
}

// spoil changes something about rows.
func spoil(l rows, r *dice) rows {
	l = slices.Clone(l)
	k := r.roll(len(l))
	switch r.roll(7) {
	case 0:
		return slices.Delete(l, k, k+1)
	case 1:
		return slices.Insert(l, k, l[r.roll(len(l))])
	case 2:
		l[k].Val = l[r.roll(len(l))].Val
	case 3:
		b := []byte(l[k].Key)
		b[r.roll(len(b))] = "0123456789bnpx-+"[r.roll(16)]
		l[k].Key = string(b)
	default:
		b := []byte(l[k].Val)
		b[r.roll(len(b))] = "000000112233459-"[r.roll(16)]
		l[k].Val = string(b)
	}
	return l
}

func TestParseSpoiltRows(t *testing.T) { // F2, W6, Z1
	valid := 0
	for seed := range 60 {
		r := dice(seed)
		v := vault.New()
		for range 40 {
			v = step(v, &r)
			l := Rows(v)
			for range 1 + r.roll(3) {
				if len(l) > 0 {
					l = spoil(l, &r)
				}
				if wantAsIs(t, l) {
					valid++
				}
			}
		}
	}
	if valid < 100 {
		t.Errorf("only %d of the rows are valid", valid)
	}
}

// small returns rows of a few nodes and blocks that refer to each other, with
// Refs that are nearly always those of all rows.
func small(r *dice) rows {
	refs := map[string]int{}
	number := func(kind string, many int) string {
		id := text(r.roll(many + 1))
		refs[kind+id]++
		return id
	}
	var l rows
	for id := 1; id <= 1+r.roll(2); id++ {
		l = with(l, "p"+text(id), text(1, 9+r.roll(8))+number("n", 3))
	}
	roots := maps.Clone(refs)
	for id := 1; id <= 3; id++ {
		val, kind := "", "b"
		if roots["n"+text(id)] > 0 || r.roll(20) == 0 {
			kind = "n"
		}
		for range api.Fan {
			val += number(kind, 3)
		}
		l = with(l, "n"+text(id), val)
	}
	l = with(l, "b001", "a", "b002", "bb", "b003", "ccc", "x", "003")
	for k, c := range l[:len(l)-1] {
		if n := refs[c.Key] + r.roll(20)/19; c.Key[0] != 'p' {
			l[k].Val = text(n) + c.Val
		}
	}
	return slices.DeleteFunc(l, func(c api.Change) bool { return refs[c.Key] == 0 && c.Key[0] != 'p' && c.Key != "x" })
}

func TestParseSmallRows(t *testing.T) { // F2, W4
	valid := 0
	r := dice(1)
	for range 60000 {
		if wantAsIs(t, small(&r)) {
			valid++
		}
	}
	if valid < 100 {
		t.Errorf("only %d of the rows are valid", valid)
	}
}

func wantChanges(t *testing.T, a, b, want rows) {
	t.Helper()
	wereA, wereB := slices.Clone(a), slices.Clone(b)
	for range 2 {
		l := Changes(a, b)
		if !slices.Equal(l, want) {
			t.Errorf("Changes(%v, %v) = %v, want %v", a, b, l, want)
		}
		clear(l)
	}
	if !slices.Equal(a, wereA) || !slices.Equal(b, wereB) {
		t.Errorf("the rows are %v, %v, were %v, %v", a, b, wereA, wereB)
	}
}

// gone returns changes without values.
func gone(keys ...string) rows {
	var l rows
	for _, key := range keys {
		l = append(l, api.Change{Key: key, Gone: true})
	}
	return l
}

func TestChanges(t *testing.T) { // F3, Z2
	abc := rowsOf("a", "1", "b", "2", "c", "3")
	wantChanges(t, nil, nil, nil)
	wantChanges(t, abc, abc, nil)
	wantChanges(t, nil, abc, abc)
	wantChanges(t, abc, nil, gone("a", "b", "c"))
	wantChanges(t, abc, abc[1:], gone("a"))
	wantChanges(t, abc, abc[:2], gone("c")) // what is behind the list is not read
	wantChanges(t, abc[:1], abc, abc[1:])
	wantChanges(t, abc[2:], abc, abc[:2])
	wantChanges(t, abc, with(abc, "b", "3"), rowsOf("b", "3"))
	wantChanges(t, abc, with(abc, "b", ""), rowsOf("b", ""))
	wantChanges(t, with(abc, "b", ""), abc, rowsOf("b", "2"))
	wantChanges(t, abc, rowsOf("aa", "1", "b", "2", "bb", "2", "c", "4", "d", "3"), rows{
		{Key: "a", Gone: true}, {Key: "aa", Val: "1"}, {Key: "bb", Val: "2"}, {Key: "c", Val: "4"}, {Key: "d", Val: "3"},
	})
	wantChanges(t, rowsOf("b", "1", "d", "1", "f", "1"), rowsOf("a", "1", "c", "1", "e", "1", "g", "1"), rows{
		{Key: "a", Val: "1"}, {Key: "b", Gone: true}, {Key: "c", Val: "1"}, {Key: "d", Gone: true},
		{Key: "e", Val: "1"}, {Key: "f", Gone: true}, {Key: "g", Val: "1"},
	})
	wantChanges(t, rowsOf("x", "001"), one(), one())
	wantChanges(t, one(), rowsOf("x", "001"), append(gone("b001", "n001", "n002", "p001"), api.Change{Key: "x", Val: "001"}))
}

// Lists that are not by increasing keys are not rows, but the call returns.
func TestChangesOfAnything(t *testing.T) { // Z1
	for seed := range 200 {
		r := dice(seed)
		var l [2]rows
		for k := range l {
			for range r.roll(6) {
				l[k] = append(l[k], api.Change{Key: "abc"[:r.roll(4)], Val: "01"[:r.roll(3)], Gone: r.roll(3) == 0})
			}
		}
		a, b := slices.Clone(l[0]), slices.Clone(l[1])
		Changes(a, b)
		if !slices.Equal(a, l[0]) || !slices.Equal(b, l[1]) {
			t.Errorf("the rows are %v, %v, were %v, %v", a, b, l[0], l[1])
		}
	}
}

// apply returns rows after changes.
func apply(l, changes rows) rows {
	for _, c := range changes {
		if c.Gone {
			l = but(l, c.Key)
		} else {
			l = with(l, c.Key, c.Val)
		}
	}
	return l
}

// Changes lead from the rows of one vault to those of another. If only some
// of them are made, what is read is consistent, or it is not read.
func TestChangesOfVaults(t *testing.T) { // F2, F3, W6
	for seed := range 40 {
		r := dice(seed)
		v := vault.New()
		for range 30 {
			w := step(step(v, &r), &r)
			a, b := Rows(v), Rows(w)
			l := Changes(a, b)
			if got := apply(a, l); !slices.Equal(got, b) {
				t.Fatalf("%v with %v is %v, want %v", a, l, got, b)
			}
			for k, c := range l {
				other := slices.Delete(slices.Clone(l), k, k+1)
				if slices.Equal(apply(a, other), b) || k > 0 && l[k-1].Key >= c.Key {
					t.Fatalf("Changes(%v, %v) = %v", a, b, l)
				}
				wantAsIs(t, apply(a, other))
				wantAsIs(t, apply(a, l[:k]))
				wantAsIs(t, apply(a, l[k:]))
			}
			v = w
		}
	}
}
