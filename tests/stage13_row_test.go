package tests

import (
	"math"
	"slices"
	"strings"
	"testing"

	"loop.example/g02080/impl"
)

// wantRow returns the row of a format, read letter by letter.
func wantRow(text string) impl.Row {
	var x impl.Row
	for _, letter := range text {
		x.Marks = append(x.Marks, strings.IndexRune("LeW", letter)-1)
	}
	return x
}

// rowsOfTexts returns the rows of formats that are separated by spaces.
func rowsOfTexts(texts string) []impl.Row {
	var l []impl.Row
	for _, text := range strings.Fields(texts) {
		l = append(l, wantRow(text))
	}
	return l
}

// rowTexts returns all formats of rows of n marks.
func rowTexts(n int) []string {
	texts := []string{""}
	for range n {
		var longer []string
		for _, text := range texts {
			longer = append(longer, text+"W", text+"L", text+"e")
		}
		texts = longer
	}
	return texts
}

// allRowTexts returns all formats of rows.
func allRowTexts() []string {
	var texts []string
	for n := 1; n <= 5; n++ {
		texts = append(texts, rowTexts(n)...)
	}
	return texts
}

// wantComparison writes out the row of two profiles.
func wantComparison(winner []int, loser []int) string {
	text := ""
	for i := range winner {
		switch {
		case winner[i] < loser[i]:
			text += "W"
		case winner[i] > loser[i]:
			text += "L"
		default:
			text += "e"
		}
	}
	return text
}

// wantRowsFor returns the formats of the rows of a winner.
func wantRowsFor(x impl.Tableau, winner int) []string {
	var texts []string
	for _, marks := range x.Marks {
		text := wantComparison(x.Marks[winner], marks)
		if strings.Contains(text, "L") && !slices.Contains(texts, text) {
			texts = append(texts, text)
		}
	}
	return texts
}

// listText writes out a list of rows, valid or not.
func listText(l []impl.Row) string {
	var texts []string
	for _, x := range l {
		texts = append(texts, "("+numbersText(x.Marks)+")")
	}
	return strings.Join(texts, " ")
}

// rowFormats returns the formats of rows.
func rowFormats(l []impl.Row) []string {
	var texts []string
	for _, x := range l {
		texts = append(texts, impl.FormatWL(x))
	}
	return texts
}

// noRows returns rows that are not valid, for any number of constraints.
func noRows() []impl.Row {
	list := []impl.Row{{}, {Marks: []int{}}, wantRow("WWWWWW"), wantRow("eeeeee"), wantRow("LLLLLL"), {Marks: make([]int, 7)}, {Marks: make([]int, 1000)}, {Marks: make([]int, 256+1)}}
	for _, text := range allRowTexts() {
		for i := range text {
			for _, k := range []int{2, -2, 3, 255, 256, 257, 1<<32 + 1, 1 << 32, 1<<32 - 1, 'W', 'L', 'e', math.MaxInt, math.MinInt} {
				x := wantRow(text)
				x.Marks[i] = k
				list = append(list, x)
			}
		}
	}
	return list
}

// rowWithRoom returns the same row, and one that begins with it and goes on in
// its unused capacity.
func rowWithRoom(x impl.Row) (impl.Row, impl.Row) {
	part, room := numbersWithRoom(x.Marks)
	return impl.Row{Marks: part}, impl.Row{Marks: room}
}

// rowsWithRoom does the same for a list of rows and each of them.
func rowsWithRoom(l []impl.Row) ([]impl.Row, []impl.Row) {
	var part, room []impl.Row
	for _, x := range l {
		a, b := rowWithRoom(x)
		part, room = append(part, a), append(room, b)
	}
	part = append(part, wantRow("LL"), impl.Row{Marks: []int{7}})
	return part[:len(l)], append(room, part[len(l):]...)
}

// overwriteRows changes all marks of rows, also in unused capacity.
func overwriteRows(l []impl.Row) {
	l = l[:cap(l)]
	for i, x := range l {
		marks := x.Marks[:cap(x.Marks)]
		for k := range marks {
			marks[k] = 77
		}
		l[i] = impl.Row{Marks: []int{88}}
	}
}

func TestIsRow(t *testing.T) {
	counts := []int{-1, 0, 1, 2, 3, 4, 5, 6, 7, 256, 1 << 32, 1<<32 + 2, math.MaxInt, math.MinInt}
	for size := range 7 {
		for _, marks := range numberLists([]int{-2, -1, 0, 1, 2}, size) {
			kind := !slices.Contains(marks, 2) && !slices.Contains(marks, -2)
			for _, n := range counts {
				want := kind && n == size && n >= 1 && n <= 5
				if got := impl.IsRow(impl.Row{Marks: marks}, n); got != want {
					t.Errorf("IsRow(%v, %d) = %v", marks, n, got)
				}
			}
		}
	}
	for _, x := range noRows() {
		for _, n := range []int{len(x.Marks), 1, 5, 0} {
			if impl.IsRow(x, n) {
				t.Errorf("IsRow(%v, %d) = true", x.Marks, n)
			}
		}
	}
}

func TestRowOfExamples(t *testing.T) {
	cases := []struct {
		winner, loser []int
		want          string
	}{
		{[]int{0}, []int{1}, "W"},
		{[]int{1}, []int{0}, "L"},
		{[]int{3}, []int{3}, "e"},
		{[]int{0, 2, 1}, []int{1, 1, 1}, "WLe"},
		{[]int{0, 0, 0, 9, 5}, []int{9, 0, 1, 0, 4}, "WeWLL"},
		{[]int{math.MinInt, math.MaxInt, math.MinInt}, []int{math.MaxInt, math.MinInt, math.MinInt}, "WLe"},
		{[]int{-1, 1 << 32, 1 << 62}, []int{-2, 0, -1 << 62}, "LLL"},
	}
	for _, x := range cases {
		if got, ok := impl.RowOf(x.winner, x.loser); !ok || impl.FormatWL(got) != x.want {
			t.Errorf("RowOf(%v, %v) = %v, %v, want %s", x.winner, x.loser, got, ok, x.want)
		}
	}
}

func TestRowOf(t *testing.T) {
	numbers := [][]int{nil, {math.MinInt, -1, 0, 1, 2, math.MaxInt}, {-1, 0, 1, 5}, {0, 1, 2}, {0, 1, 2}, {0, 1}}
	for n := 1; n <= 5; n++ {
		profiles := numberLists(numbers[n], n)
		for _, winner := range profiles {
			for _, loser := range profiles {
				want := wantRow(wantComparison(winner, loser))
				got, ok := impl.RowOf(winner, loser)
				if !ok || !slices.Equal(got.Marks, want.Marks) || !impl.IsRow(got, n) {
					t.Fatalf("RowOf(%v, %v) = %v, %v, want %v", winner, loser, got, ok, want)
				}
			}
		}
	}
}

func TestProfilesWithoutRow(t *testing.T) {
	sizes := []int{0, 1, 2, 3, 4, 5, 6, 7, 10, 256, 257, 1000}
	for _, a := range sizes {
		for _, b := range sizes {
			got, ok := impl.RowOf(upTo(a), make([]int, b))
			if want := a == b && a >= 1 && a <= 5; ok != want || !want && len(got.Marks) != 0 {
				t.Errorf("RowOf of %d and %d marks = %v, %v", a, b, got, ok)
			}
		}
	}
	if got, ok := impl.RowOf(nil, nil); ok || len(got.Marks) != 0 {
		t.Errorf("RowOf of no marks = %v, %v", got, ok)
	}
}

func TestRowsCanBeParsed(t *testing.T) {
	for text, want := range map[string][]int{"W": {1}, "L": {-1}, "e": {0}, "eLW": {0, -1, 1}, "WLeWL": {1, -1, 0, 1, -1}, "eeeee": {0, 0, 0, 0, 0}} {
		if got := impl.FormatWL(impl.Row{Marks: want}); got != text {
			t.Errorf("FormatWL(%v) = %q, want %q", want, got, text)
		}
		if x, ok := impl.ParseWL(text); !ok || !slices.Equal(x.Marks, want) {
			t.Errorf("ParseWL(%q) = %v, %v", text, x, ok)
		}
	}
	for _, text := range allRowTexts() {
		want := wantRow(text)
		if got := impl.FormatWL(want); got != text {
			t.Errorf("FormatWL(%v) = %q, want %q", want, got, text)
		}
		if x, ok := impl.ParseWL(text); !ok || !slices.Equal(x.Marks, want.Marks) {
			t.Errorf("ParseWL(%q) = %v, %v", text, x, ok)
		}
	}
}

func TestOtherRowsAreNotFormatted(t *testing.T) {
	for _, x := range noRows() {
		if got := impl.FormatWL(x); got != "" {
			t.Errorf("FormatWL(%v) = %q", x, got)
		}
	}
}

func TestOtherTextsAreNoRows(t *testing.T) {
	texts := []string{"", " ", "w", "l", "E", "WLeWLe", "eeeeee", "W L", "W,L", "We ", " We", "We\n", "WL0", "1", "0", "-1", "1,-1,0", "WLē", "é", "W\x00", "\x00", "\xff", "none", strings.Repeat("W", 256+1), strings.Repeat("e", 1000)}
	for _, s := range append(texts, rowTexts(6)...) {
		if x, ok := impl.ParseWL(s); ok || len(x.Marks) != 0 {
			t.Errorf("ParseWL(%q) = %v, %v", s, x, ok)
		}
	}
}

// TestRowsWithOtherBytesAreNotParsed puts each byte in each place of a format.
func TestRowsWithOtherBytesAreNotParsed(t *testing.T) {
	for _, format := range append(rowTexts(3), "W", "L", "e", "WLeWL") {
		for i := range format {
			for _, b := range []byte(allBytes()) {
				s := format[:i] + string([]byte{b}) + format[i+1:]
				x, ok := impl.ParseWL(s)
				if want := strings.ContainsRune("WLe", rune(b)); ok != want || !want && len(x.Marks) != 0 {
					t.Errorf("ParseWL(%q) = %v, %v", s, x, ok)
				}
			}
		}
	}
}

func TestTrivialAndImpossibleRows(t *testing.T) {
	for text, want := range map[string][2]bool{"W": {true, false}, "L": {false, true}, "e": {true, false}, "We": {true, false}, "eW": {true, false}, "ee": {true, false}, "WW": {true, false}, "Le": {false, true}, "eL": {false, true}, "WL": {false, false}, "LW": {false, false}, "LL": {false, true}, "eWeWe": {true, false}, "WWWWL": {false, false}, "eeeeL": {false, true}, "LLLLW": {false, false}, "eeeee": {true, false}} {
		x := wantRow(text)
		if got := [2]bool{impl.IsTrivial(x), impl.IsImpossible(x)}; got != want {
			t.Errorf("%s is trivial and impossible: %v", text, got)
		}
	}
	for _, text := range allRowTexts() {
		x := wantRow(text)
		loser, winner := strings.Contains(text, "L"), strings.Contains(text, "W")
		if impl.IsTrivial(x) == loser || impl.IsImpossible(x) != (loser && !winner) {
			t.Errorf("%s is trivial: %v, impossible: %v", text, impl.IsTrivial(x), impl.IsImpossible(x))
		}
	}
}

func TestOtherRowsAreNeither(t *testing.T) {
	for _, x := range noRows() {
		if impl.IsTrivial(x) || impl.IsImpossible(x) {
			t.Errorf("%v is trivial: %v, impossible: %v", x, impl.IsTrivial(x), impl.IsImpossible(x))
		}
	}
}

func TestRowsForExamples(t *testing.T) {
	x := tableauOfTexts("nocoda,max,dep", "t", "t+i", "-t", "t+a", "+at", "t+i+i", "-t+t")
	for i, want := range []string{"LeW LWe", "WeL eWL", "WLe eLW WLW", "WeL eWL", "eeL Lee LWL LeW", "WeL eeL eWL WWL", "eLL LLe LeL eLe LLW"} {
		if got := strings.Join(rowFormats(impl.RowsFor(x, i)), " "); got != want {
			t.Errorf("RowsFor row %d = %q, want %q", i, got, want)
		}
	}
	// A winner that is never worse has trivial rows only.
	x = tableauOfTexts("max", "t", "-t", "t+i")
	if got := impl.RowsFor(x, 0); len(got) != 0 {
		t.Errorf("RowsFor = %v", got)
	}
	if got := rowFormats(impl.RowsFor(x, 1)); !slices.Equal(got, []string{"L"}) {
		t.Errorf("RowsFor = %v", got)
	}
	// Equal rows of the tableau have no rows.
	x = tableauOfTexts("nocoda,dep", "t", "t", "t")
	if got := impl.RowsFor(x, 1); len(got) != 0 {
		t.Errorf("RowsFor = %v", got)
	}
}

func TestRowsFor(t *testing.T) {
	for _, x := range validTableaux() {
		for i := range x.Rows {
			if len(x.Rows) > 50 && i%9 != 0 && i < len(x.Rows)-3 {
				continue
			}
			got, want := impl.RowsFor(x, i), wantRowsFor(x, i)
			if !slices.Equal(rowFormats(got), want) {
				t.Errorf("RowsFor row %d = %q, want %q in %s", i, rowFormats(got), want, tableauText(x))
			}
		}
		for _, i := range []int{-1, -2, len(x.Rows), len(x.Rows) + 1, 1 << 32, math.MaxInt, math.MinInt} {
			if got := impl.RowsFor(x, i); len(got) != 0 {
				t.Errorf("RowsFor row %d = %q in %s", i, rowFormats(got), tableauText(x))
			}
		}
	}
}

func TestNoTableauHasRows(t *testing.T) {
	for _, x := range noTableaux() {
		for i := -1; i <= min(3, len(x.Rows)); i++ {
			if got := impl.RowsFor(x, i); len(got) != 0 {
				t.Errorf("RowsFor row %d = %q in %s", i, rowFormats(got), tableauText(x))
			}
		}
	}
}

// equalLists returns lists of rows, valid and not, of which no two are equal.
func equalLists() [][]impl.Row {
	lists := [][]impl.Row{nil}
	for _, texts := range []string{"W", "L", "e", "WL", "LW", "WLe", "eeeee", "W W", "W L", "L W", "W L e", "W L W", "L W W", "W L e e", "We Le", "We L", "W e L", "WeL W", "W WeL", "ee ee", "ee ee ee"} {
		lists = append(lists, rowsOfTexts(texts))
	}
	for _, x := range []impl.Row{{}, {Marks: []int{2}}, {Marks: []int{1 << 32}}, {Marks: []int{1<<32 + 1}}, {Marks: []int{1, 2}}, {Marks: make([]int, 6)}, {Marks: make([]int, 7)}} {
		lists = append(lists, []impl.Row{x}, []impl.Row{x, x}, []impl.Row{x, wantRow("W")}, []impl.Row{wantRow("W"), x})
	}
	return append(lists, slices.Repeat(rowsOfTexts("We"), 100), slices.Repeat(rowsOfTexts("We"), 101), append(slices.Repeat(rowsOfTexts("We"), 99), wantRow("eW")))
}

func TestEqualRows(t *testing.T) {
	for i, a := range equalLists() {
		for k, b := range equalLists() {
			if got := impl.EqualRows(a, b); got != (i == k) {
				t.Errorf("EqualRows(%s; %s) = %v", listText(a), listText(b), got)
			}
		}
	}
	empty := []impl.Row{{Marks: []int{}}}
	if !impl.EqualRows([]impl.Row{}, nil) || !impl.EqualRows(nil, []impl.Row{}) || !impl.EqualRows(empty, []impl.Row{{}}) || !impl.EqualRows([]impl.Row{{}}, empty) {
		t.Error("nil and empty lists are not equal")
	}
	part, room := rowsWithRoom(rowsOfTexts("WL eW"))
	if !impl.EqualRows(part, rowsOfTexts("WL eW")) || impl.EqualRows(part, room) {
		t.Error("unused capacity counts")
	}
}

func TestRowsChangeNothing(t *testing.T) {
	for _, l := range equalLists() {
		part, room := rowsWithRoom(l)
		before := listText(room)
		impl.EqualRows(part, part)
		for _, x := range part {
			impl.IsRow(x, len(x.Marks))
			impl.FormatWL(x)
			impl.IsTrivial(x)
			impl.IsImpossible(x)
			impl.RowOf(x.Marks, slices.Repeat([]int{0}, len(x.Marks)))
			impl.RowOf(slices.Repeat([]int{0}, len(x.Marks)), x.Marks)
		}
		if after := listText(room); after != before {
			t.Fatalf("the rows %s were changed to %s", before, after)
		}
	}
	for _, x := range slices.Concat(validTableaux(), noTableaux()[:400]) {
		part, room := tableauWithRoom(x)
		before := tableauText(room)
		impl.RowsFor(part, 0)
		if after := tableauText(room); after != before {
			t.Fatalf("the tableau %s was changed to %s", before, after)
		}
	}
}

func TestRowsShareNoMemory(t *testing.T) {
	x := tableauOfTexts("nocoda,max,dep", "t", "t+i", "-t", "t+a")
	text := tableauText(x)
	winner, loser := []int{0, 1, 2}, []int{2, 1, 0}
	for range 2 {
		a, _ := impl.RowOf(winner, loser)
		b, _ := impl.ParseWL("WeL")
		l := impl.RowsFor(x, 0)
		if got := rowFormats(append([]impl.Row{a, b}, l...)); !slices.Equal(got, []string{"WeL", "WeL", "LeW", "LWe"}) {
			t.Fatalf("the rows are %q", got)
		}
		overwriteRows([]impl.Row{a})
		if impl.FormatWL(b) != "WeL" {
			t.Fatal("two results share memory")
		}
		overwriteRows(l[:1:1])
		if impl.FormatWL(l[1]) != "LWe" {
			t.Fatal("two rows share memory")
		}
		overwriteRows(append(l, b))
		overwriteRows(l)
	}
	if tableauText(x) != text || !slices.Equal(winner, []int{0, 1, 2}) || !slices.Equal(loser, []int{2, 1, 0}) {
		t.Fatal("a result shares memory with an argument")
	}
}
