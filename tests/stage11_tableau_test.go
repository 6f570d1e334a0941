package tests

import (
	"slices"
	"strconv"
	"strings"
	"testing"

	"loop.example/g02080/impl"
)

// wantProfile counts the marks of constraints without the program's counts.
func wantProfile(names []string, c impl.Candidate) []int {
	counts := wantCounts(c)
	var marks []int
	for _, name := range names {
		marks = append(marks, counts[name])
	}
	return marks
}

// tableauWith returns the tableau with these rows, the names separated by commas.
func tableauWith(names string, rows []impl.Candidate) impl.Tableau {
	x := impl.Tableau{Input: impl.InputOf(rows[0]), Names: strings.Split(names, ","), Rows: rows}
	for _, c := range rows {
		x.Marks = append(x.Marks, wantProfile(x.Names, c))
	}
	return x
}

// tableauOfTexts returns the tableau whose rows have these formats.
func tableauOfTexts(names string, texts ...string) impl.Tableau {
	var rows []impl.Candidate
	for _, text := range texts {
		rows = append(rows, candidateFor(linksIn(text)...))
	}
	return tableauWith(names, rows)
}

// tableauText writes out all parts of a tableau, valid or not.
func tableauText(x impl.Tableau) string {
	text := strconv.Quote(x.Input)
	for _, name := range x.Names {
		text += " " + strconv.Quote(name)
	}
	for _, c := range x.Rows {
		text += "\n"
		for _, link := range c.Links {
			text += " " + strconv.Quote(string([]byte{link.In, link.Out}))
		}
	}
	for _, marks := range x.Marks {
		text += "\n" + numbersText(marks)
	}
	return text
}

// numbersText separates numbers by commas.
func numbersText(list []int) string {
	var texts []string
	for _, n := range list {
		texts = append(texts, strconv.Itoa(n))
	}
	return strings.Join(texts, ",")
}

// copyOfTableau returns a tableau of the same parts in new memory.
func copyOfTableau(x impl.Tableau) impl.Tableau {
	x.Names = slices.Clone(x.Names)
	x.Rows = slices.Clone(x.Rows)
	for i := range x.Rows {
		x.Rows[i].Links = slices.Clone(x.Rows[i].Links)
	}
	x.Marks = slices.Clone(x.Marks)
	for i := range x.Marks {
		x.Marks[i] = slices.Clone(x.Marks[i])
	}
	return x
}

// tableauWithRoom returns the same tableau, and one that begins with it and goes
// on in the unused capacity of each of its slices.
func tableauWithRoom(x impl.Tableau) (impl.Tableau, impl.Tableau) {
	room := copyOfTableau(x)
	room.Names = append(room.Names, "contig", "x")
	for i, c := range room.Rows {
		room.Rows[i].Links = append(c.Links, linkFor("+t"), impl.Link{In: 'x'})
	}
	for i, marks := range room.Marks {
		room.Marks[i] = append(marks, 7, -7)
	}
	part := room
	part.Rows, part.Marks = slices.Clone(room.Rows), slices.Clone(room.Marks)
	for i := range part.Rows {
		part.Rows[i].Links = room.Rows[i].Links[:len(x.Rows[i].Links)]
	}
	for i := range part.Marks {
		part.Marks[i] = room.Marks[i][:len(x.Marks[i])]
	}
	rows := append(part.Rows, candidateFor("t", "+i"), impl.Candidate{})
	marks := append(part.Marks, []int{7}, nil)
	room.Rows, part.Rows = rows, rows[:len(x.Rows)]
	room.Marks, part.Marks = marks, marks[:len(x.Marks)]
	part.Names = room.Names[:len(x.Names)]
	return part, room
}

// overwriteTableau changes all parts of a tableau, also in unused capacity.
func overwriteTableau(x impl.Tableau) {
	names := x.Names[:cap(x.Names)]
	for i := range names {
		names[i] = "x"
	}
	overwriteCandidates(x.Rows)
	for _, marks := range x.Marks[:cap(x.Marks)] {
		marks = marks[:cap(marks)]
		for i := range marks {
			marks[i] = -99
		}
	}
}

// longRows returns n rows of one input with outputs of up to 8 sounds.
func longRows(n int) []impl.Candidate {
	var rows []impl.Candidate
	for _, sounds := range stringsUpTo("tdi", 6) {
		texts := []string{"b", "a"}
		for _, sound := range strings.Split(sounds, "") {
			texts = append(texts, "+"+sound)
		}
		if sounds == "" {
			texts = texts[:2]
		}
		rows = append(rows, candidateFor(texts...))
	}
	return rows[:n]
}

// tableauNames returns lists of names for tableaux.
func tableauNames() []string {
	return []string{"max", "contig", "onset,nocoda", "nocoda,max,dep", "ident,voice,final,nasal", "onset,nocoda,cluster,voice,final", "nasal,max,dep,ident,contig", "dep,onset,max,nocoda,ident"}
}

// tableauForms returns inputs of tableaux.
func tableauForms() []string {
	return []string{"", "t", "a", "n", "dd", "an", "nt", "bad", "int", "aia", "tata", "pppp", "antn", "bdnb"}
}

// handTableaux returns tableaux with rows of all kinds, which TableauOf does not
// give.
func handTableaux() []impl.Tableau {
	list := []impl.Tableau{
		tableauOfTexts("max", "none"),
		tableauOfTexts("max,dep", "none", "none", "+a+a", "+t+t+t", "+p"),
		tableauOfTexts("contig", "-t"),
		tableauOfTexts("nocoda,max,dep", "t+i", "t", "-t", "t", "+a+at", "t+i", "*t", "+d-t", "-t+d"),
		tableauOfTexts("onset,voice,contig,ident,max", "*ta-n+id", "tand", "+tta-nd+i", "-t-a-n-d", "ta+nnd", "tan-d+t", "*t-and"),
		tableauOfTexts("voice,dep", "+ta", "+da", "+pa", "-a+d", "-a", "a", "a+d+d+d"),
		tableauOfTexts("ident,max", "ta-d", "t-ad+a", "t+a-ad+a", "-t+da+t-d", "tad", "t+t-a+a-d"),
		tableauOfTexts("final,nasal,cluster,nocoda,onset", "tadanaip", "*tadanaip", "-tadanaip", "tada-naip", "-t-a-d-a-n-a-i-p"),
	}
	for _, rows := range [][]impl.Candidate{longRows(249), longRows(250), slices.Repeat(longRows(1), 250), {repeated(8, "-n", 8, "+p"), repeated(8, "+p", 8, "-n")}} {
		list = append(list, tableauWith("nocoda,dep,voice", rows))
	}
	return list
}

// validTableaux returns tableaux of all kinds.
func validTableaux() []impl.Tableau {
	list := handTableaux()
	for i, s := range tableauForms() {
		names := tableauNames()[i%len(tableauNames())]
		list = append(list, tableauWith(names, wantGenerated(s, 2)))
	}
	return list
}

// marksChanged returns tableaux with other marks than the profiles.
func marksChanged(x impl.Tableau) []impl.Tableau {
	var list []impl.Tableau
	for i, marks := range x.Marks {
		others := [][]int{nil, append(slices.Clone(marks), 0), marks[1:], marks[:len(marks)-1]}
		for k := range marks {
			for _, step := range []int{1, -1, 1 << 32} {
				other := slices.Clone(marks)
				other[k] += step
				others = append(others, other)
			}
		}
		for _, other := range others {
			y := copyOfTableau(x)
			y.Marks[i] = other
			list = append(list, y)
		}
	}
	return list
}

// rowsChanged returns tableaux of which one row is not valid or has another
// input.
func rowsChanged(x impl.Tableau) []impl.Tableau {
	var list []impl.Tableau
	others := []impl.Candidate{repeated(9, "t"), repeated(9, "+t"), {Links: make([]impl.Link, 1)}, candidateFor("t", "a", "n", "p"), repeated(300, "-t", 300, "+t")}
	for i, c := range x.Rows {
		wrong := []impl.Candidate{
			{Links: append(slices.Clone(c.Links), impl.Link{})},
			{Links: append(slices.Clone(c.Links), impl.Link{In: 'x', Out: 'x'})},
			{Links: append(slices.Clone(c.Links), linkFor("-t"))},
			{Links: append([]impl.Link{linkFor("i")}, c.Links...)},
		}
		for _, other := range append(wrong, others...) {
			y := copyOfTableau(x)
			y.Rows[i], y.Marks[i] = other, wantProfile(y.Names, other)
			list = append(list, y)
		}
	}
	return list
}

// noTableaux returns tableaux that are not valid.
func noTableaux() []impl.Tableau {
	x := tableauOfTexts("nocoda,max,dep", "t+i", "t", "*t", "-t")
	list := []impl.Tableau{{}, {Input: "t"}, {Names: x.Names}, {Input: "t", Names: x.Names}, {Rows: x.Rows, Marks: x.Marks}, {Input: "t", Rows: x.Rows, Marks: x.Marks}}
	list = append(list, tableauWith("dep", longRows(251)), tableauWith("dep,max", slices.Repeat(longRows(4), 200)))
	for _, names := range noNameLists()[:200] {
		y := copyOfTableau(x)
		y.Names, y.Marks = names, make([][]int, len(x.Rows))
		list = append(list, y)
		z := copyOfTableau(y)
		for i, c := range x.Rows {
			z.Marks[i] = wantProfile(names, c)
		}
		list = append(list, z)
	}
	for _, input := range []string{"", "d", "tt", "ti", "x", "T", "t\x00", "tatatatat"} {
		y := copyOfTableau(x)
		y.Input = input
		list = append(list, y)
	}
	for _, marks := range [][][]int{nil, {}, x.Marks[:3], x.Marks[1:], append(slices.Clone(x.Marks), []int{0, 0, 0}), {x.Marks[1], x.Marks[0], x.Marks[2], x.Marks[3]}} {
		y := copyOfTableau(x)
		y.Marks = marks
		list = append(list, y)
	}
	for _, y := range handTableaux()[1:7] {
		list = append(list, slices.Concat(marksChanged(y), rowsChanged(y))...)
	}
	return append(list, namesChanged(x)...)
}

// namesChanged returns tableaux with other names than those of the marks.
func namesChanged(x impl.Tableau) []impl.Tableau {
	var list []impl.Tableau
	for _, names := range []string{"max,nocoda,dep", "nocoda,max", "nocoda,max,dep,onset", "nocoda,max,ident", "nocoda,max,dep,x", "nocoda,max,max"} {
		y := copyOfTableau(x)
		y.Names = strings.Split(names, ",")
		list = append(list, y)
	}
	return list
}

func TestTableauExamples(t *testing.T) {
	if impl.MaxRows != 250 {
		t.Errorf("MaxRows = %d", impl.MaxRows)
	}
	x, ok := impl.TableauOf("d", []string{"nocoda", "voice", "max", "dep", "ident"})
	if !ok || len(x.Rows) != 27 || len(x.Marks) != 27 || x.Input != "d" || impl.FormatNames(x.Names) != "nocoda,voice,max,dep,ident" {
		t.Fatalf("TableauOf(%q) = %s, %v", "d", tableauText(x), ok)
	}
	for i, want := range []string{"d 1,1,0,0,0", "d+t 2,1,0,1,0", "d+t+t 3,1,0,2,0", "d+t+i 1,1,0,2,0", "d+i 0,1,0,1,0", "d+i+t 1,1,0,2,0", "d+i+i 0,1,0,2,0", "-d 0,0,1,0,0", "-d+t 1,0,1,1,0", "-d+i 0,0,1,1,0", "*d 1,0,0,0,1"} {
		if got := impl.FormatRow(x, i); got != want {
			t.Errorf("row %d of d is %q, want %q", i, got, want)
		}
	}
	x, ok = impl.TableauOf("", []string{"max"})
	if !ok || impl.FormatRow(x, 0) != "none 0" || impl.FormatRow(x, 1) != "+t 0" || len(x.Rows) != 7 {
		t.Errorf("TableauOf of the empty form = %s, %v", tableauText(x), ok)
	}
}

func TestTableauxHaveAllCandidatesWithTheirProfiles(t *testing.T) {
	for _, s := range append(tableauForms(), "dnat", "aaaa", "bdpt") {
		rows := wantGenerated(s, 2)
		for _, names := range tableauNames() {
			want := tableauText(tableauWith(names, rows))
			got, ok := impl.TableauOf(s, strings.Split(names, ","))
			if !ok || tableauText(got) != want {
				t.Errorf("TableauOf(%q, %q) = %s, %v, want %s", s, names, tableauText(got), ok, want)
			}
			if !impl.IsTableau(got) {
				t.Errorf("TableauOf(%q, %q) is not valid", s, names)
			}
		}
	}
}

func TestAllInputsHaveTableaux(t *testing.T) {
	for _, s := range inputs() {
		x, ok := impl.TableauOf(s, []string{"onset", "max", "nasal"})
		if !ok || !impl.IsTableau(x) || x.Input != s || len(x.Rows) != numberGenerated(s) {
			t.Errorf("TableauOf(%q) has %d rows, %v", s, len(x.Rows), ok)
		}
	}
}

func TestTableauxOfOtherArguments(t *testing.T) {
	check := func(s string, names []string) {
		if x, ok := impl.TableauOf(s, names); ok || tableauText(x) != `""` {
			t.Errorf("TableauOf(%q, %q) = %s, %v", s, names, tableauText(x), ok)
		}
	}
	for _, s := range slices.Concat(noForms(), longForms(), fullForms()) {
		check(s, []string{"max"})
		check(s, nil)
	}
	for _, names := range noNameLists() {
		check("t", names)
		check("", names)
		check("tatat", names)
	}
}

func TestIsTableau(t *testing.T) {
	for _, x := range validTableaux() {
		if !impl.IsTableau(x) {
			t.Errorf("IsTableau of %s = false", tableauText(x))
		}
	}
	for _, x := range noTableaux() {
		if impl.IsTableau(x) {
			t.Errorf("IsTableau of %s = true", tableauText(x))
		}
	}
}

// wantRowWith takes the rows in the order of their edits.
func wantRowWith(x impl.Tableau, out string) int {
	for edits := range 17 {
		for i, c := range x.Rows {
			if outputFor(c) == out && editsIn([]string{impl.FormatCandidate(c)}) == edits {
				return i
			}
		}
	}
	return -1
}

func TestRowWithExamples(t *testing.T) {
	x := handTableaux()[3]
	for out, want := range map[string]int{"ti": 0, "t": 1, "": 2, "aat": 4, "d": 6, "i": -1, "dt": -1, "T": -1, "x": -1, "t+i": -1, "tatatatat": -1} {
		if got := impl.RowWith(x, out); got != want {
			t.Errorf("RowWith(%q) = %d, want %d", out, got, want)
		}
	}
	// Fewest edits come before the first row, and of these the first.
	x = tableauOfTexts("max", "+t-t", "-t+t", "t", "t", "-t+d", "*t", "+d-t")
	if impl.RowWith(x, "t") != 2 || impl.RowWith(x, "d") != 5 {
		t.Errorf("RowWith = %d and %d", impl.RowWith(x, "t"), impl.RowWith(x, "d"))
	}
}

func TestRowsWithOutputs(t *testing.T) {
	for _, x := range validTableaux() {
		outs := []string{"", "t", "a", "x", "none", "tatatatat"}
		for _, c := range x.Rows {
			outs = append(outs, outputFor(c))
		}
		slices.Sort(outs)
		for _, out := range slices.Compact(outs) {
			if got, want := impl.RowWith(x, out), wantRowWith(x, out); got != want {
				t.Errorf("RowWith(%q) = %d, want %d in %s", out, got, want, tableauText(x))
			}
		}
	}
}

// wantDistinct keeps the first row of each text of marks.
func wantDistinct(x impl.Tableau) []int {
	seen := map[string]bool{}
	var first []int
	for i, marks := range x.Marks {
		if text := numbersText(marks); !seen[text] {
			seen[text] = true
			first = append(first, i)
		}
	}
	return first
}

func TestDistinctProfiles(t *testing.T) {
	for _, x := range validTableaux() {
		if got, want := impl.DistinctProfiles(x), wantDistinct(x); !slices.Equal(got, want) {
			t.Errorf("DistinctProfiles = %v, want %v in %s", got, want, tableauText(x))
		}
	}
}

func TestTwoRowsWithOneProfile(t *testing.T) {
	x := tableauOfTexts("nocoda,max,dep", "t+i", "t+a")
	if got := impl.DistinctProfiles(x); !slices.Equal(got, []int{0}) {
		t.Errorf("DistinctProfiles of two rows with one profile = %v", got)
	}
	if impl.RowWith(x, "ti") != 0 || impl.RowWith(x, "ta") != 1 || impl.FormatRow(x, 1) != "t+a 0,0,1" {
		t.Errorf("rows with one profile: %d, %d, %q", impl.RowWith(x, "ti"), impl.RowWith(x, "ta"), impl.FormatRow(x, 1))
	}
	if y, ok := impl.OnlyRows(x, []int{0, 1}); !ok || tableauText(y) != tableauText(x) {
		t.Errorf("OnlyRows of two rows with one profile = %s, %v", tableauText(y), ok)
	}
	// Two rows that differ in one mark of any constraint, and two equal ones.
	x = tableauOfTexts("nocoda,max,dep", "t", "-t", "t+i", "t", "*t", "+it", "t+a")
	if got := impl.DistinctProfiles(x); !slices.Equal(got, []int{0, 1, 2, 5}) {
		t.Errorf("DistinctProfiles = %v", got)
	}
	x = tableauOfTexts("nocoda,max", "t", "t", "t")
	if got := impl.DistinctProfiles(x); !slices.Equal(got, []int{0}) || impl.RowWith(x, "t") != 0 {
		t.Errorf("DistinctProfiles of three equal rows = %v, RowWith %d", got, impl.RowWith(x, "t"))
	}
}

func TestFormatRow(t *testing.T) {
	for _, x := range validTableaux() {
		for i, c := range x.Rows {
			want := impl.FormatCandidate(c) + " " + numbersText(x.Marks[i])
			if got := impl.FormatRow(x, i); got != want {
				t.Errorf("FormatRow(%d) = %q, want %q", i, got, want)
			}
		}
		for _, i := range []int{-1, -2, len(x.Rows), len(x.Rows) + 1, 250, 1 << 62, -1 << 63, 1<<63 - 1} {
			if got := impl.FormatRow(x, i); got != "" {
				t.Errorf("FormatRow(%d) = %q", i, got)
			}
		}
	}
	x := tableauOfTexts("dep,onset,nocoda", "+t+t+t+t+t+t+t+t", "+a+a+a", "none")
	if impl.FormatRow(x, 0) != "+t+t+t+t+t+t+t+t 8,0,8" || impl.FormatRow(x, 1) != "+a+a+a 3,3,0" || impl.FormatRow(x, 2) != "none 0,0,0" {
		t.Errorf("FormatRow = %q, %q, %q", impl.FormatRow(x, 0), impl.FormatRow(x, 1), impl.FormatRow(x, 2))
	}
}

func TestOnlyRows(t *testing.T) {
	for _, x := range handTableaux()[:8] {
		for set := 1; set < 1<<len(x.Rows); set++ {
			var keep []int
			var rows []impl.Candidate
			for i, c := range x.Rows {
				if set>>i&1 == 1 {
					keep, rows = append(keep, i), append(rows, c)
				}
			}
			want := tableauWith(strings.Join(x.Names, ","), rows)
			if got, ok := impl.OnlyRows(x, keep); !ok || tableauText(got) != tableauText(want) || !impl.IsTableau(got) {
				t.Errorf("OnlyRows(%v) = %s, %v, want %s", keep, tableauText(got), ok, tableauText(want))
			}
		}
	}
	for _, x := range validTableaux() {
		all := make([]int, len(x.Rows))
		for i := range all {
			all[i] = i
		}
		if got, ok := impl.OnlyRows(x, all); !ok || tableauText(got) != tableauText(x) {
			t.Errorf("OnlyRows of all rows of %s is %s", tableauText(x), tableauText(got))
		}
	}
}

func TestOnlyRowsThatAreNot(t *testing.T) {
	lists := [][]int{nil, {}, {-1}, {4}, {0, 4}, {-1, 0}, {0, 0}, {1, 1}, {3, 3}, {1, 0}, {3, 2, 1}, {0, 2, 1}, {0, 1, 1}, {0, 0, 1}, {0, 1, 2, 3, 4}, {0, 1, 2, 3, 3}, {2, -1}, {1 << 62}, {-1 << 63}, {0, 1<<63 - 1}, make([]int, 1000)}
	for _, keep := range lists {
		x := tableauOfTexts("nocoda,max,dep", "t+i", "t", "*t", "-t")
		if y, ok := impl.OnlyRows(x, keep); ok || tableauText(y) != `""` {
			t.Errorf("OnlyRows(%v) = %s, %v", keep, tableauText(y), ok)
		}
	}
}

func TestFunctionsOfNoTableaux(t *testing.T) {
	for _, x := range noTableaux() {
		for _, out := range []string{"", "t", "ti", "x"} {
			if got := impl.RowWith(x, out); got != -1 {
				t.Errorf("RowWith(%q) = %d in %s", out, got, tableauText(x))
			}
		}
		if got := impl.DistinctProfiles(x); len(got) != 0 {
			t.Errorf("DistinctProfiles = %v in %s", got, tableauText(x))
		}
		for _, i := range []int{-1, 0, 1} {
			if got := impl.FormatRow(x, i); got != "" {
				t.Errorf("FormatRow(%d) = %q in %s", i, got, tableauText(x))
			}
		}
		for _, keep := range [][]int{nil, {0}, {1}, {-1}} {
			if y, ok := impl.OnlyRows(x, keep); ok || tableauText(y) != `""` {
				t.Errorf("OnlyRows(%v) = %s, %v in %s", keep, tableauText(y), ok, tableauText(x))
			}
		}
	}
}

func TestTableauxChangeNothing(t *testing.T) {
	for _, x := range slices.Concat(validTableaux(), noTableaux()[:400]) {
		part, room := tableauWithRoom(x)
		before := tableauText(room)
		keep := []int{0, 1, 5, 0}
		impl.TableauOf(part.Input, part.Names)
		impl.IsTableau(part)
		impl.RowWith(part, "t")
		impl.DistinctProfiles(part)
		impl.FormatRow(part, 0)
		impl.OnlyRows(part, keep[:1])
		impl.OnlyRows(part, keep[:2])
		if got := tableauText(room); got != before || !slices.Equal(keep, []int{0, 1, 5, 0}) || tableauText(part) != tableauText(x) {
			t.Fatalf("the tableau %s was changed to %s", before, got)
		}
	}
}

func TestTableauxShareNoMemory(t *testing.T) {
	for _, s := range []string{"", "t", "nda"} {
		names := []string{"onset", "max"}
		x, _ := impl.TableauOf(s, names)
		text := tableauText(x)
		for i := range x.Rows {
			y, _ := impl.TableauOf(s, names)
			overwriteCandidates(y.Rows[i : i+1 : i+1])
			y.Marks[i] = append(y.Marks[i], 7)
			overwriteTableau(impl.Tableau{Marks: y.Marks[i : i+1 : i+1]})
			y.Rows[i], y.Marks[i] = x.Rows[i], x.Marks[i]
			if tableauText(y) != text {
				t.Fatalf("rows of the tableau of %q share memory", s)
			}
		}
		keep := []int{0, len(x.Rows) - 1}
		part, _ := impl.OnlyRows(x, keep)
		partText := tableauText(part)
		overwriteTableau(part)
		if tableauText(x) != text || !slices.Equal(names, []string{"onset", "max"}) {
			t.Fatalf("OnlyRows shares memory with its argument")
		}
		part, _ = impl.OnlyRows(x, keep)
		overwriteTableau(x)
		if tableauText(part) != partText || !slices.Equal(names, []string{"onset", "max"}) {
			t.Fatalf("OnlyRows shares memory with its argument, or TableauOf with its")
		}
	}
}

func TestPartsOfTableauxShareNoMemory(t *testing.T) {
	x := handTableaux()[3]
	x.Rows[5] = x.Rows[0]
	x.Marks[5], x.Marks[3] = x.Marks[0], x.Marks[1]
	keep := []int{0, 1, 3, 5}
	want, _ := impl.OnlyRows(x, keep)
	for i := range keep {
		part, _ := impl.OnlyRows(x, keep)
		overwriteTableau(impl.Tableau{Rows: part.Rows[i : i+1 : i+1], Marks: part.Marks[i : i+1 : i+1]})
		part.Rows[i], part.Marks[i] = want.Rows[i], want.Marks[i]
		if tableauText(part) != tableauText(want) {
			t.Fatalf("rows of OnlyRows share memory")
		}
	}
	first := impl.DistinctProfiles(x)
	for i := range first {
		first[i] = -1
	}
	if got := impl.DistinctProfiles(x); !slices.Equal(got, wantDistinct(x)) {
		t.Errorf("DistinctProfiles = %v after a change", got)
	}
}
