package tests

import (
	"math"
	"slices"
	"strings"
	"testing"

	"loop.example/g02080/impl"
)

// numberLists returns all lists of n of the numbers, the first number first.
func numberLists(numbers []int, n int) [][]int {
	lists := [][]int{{}}
	for range n {
		var longer [][]int
		for _, list := range lists {
			for _, x := range numbers {
				longer = append(longer, append(slices.Clone(list), x))
			}
		}
		lists = longer
	}
	return lists
}

// upTo returns the numbers from 0 up to n.
func upTo(n int) []int {
	list := make([]int, n)
	for i := range list {
		list[i] = i
	}
	return list
}

// isWantedRanking sorts the list.
func isWantedRanking(r []int, n int) bool {
	return n >= 1 && n <= 5 && slices.Equal(slices.Sorted(slices.Values(r)), upTo(n))
}

// wantRankings picks the rankings out of all lists of n numbers.
func wantRankings(n int) [][]int {
	var rankings [][]int
	for _, list := range numberLists(upTo(n), n) {
		if isWantedRanking(list, n) {
			rankings = append(rankings, list)
		}
	}
	return rankings
}

// noRankings returns lists that are no rankings of n constraints.
func noRankings(n int) [][]int {
	lists := [][]int{nil, {}, {-1}, {1 << 62}, {-1 << 63}, {math.MaxInt}, make([]int, 1000), upTo(6), upTo(1000)}
	for _, r := range wantRankings(n) {
		lists = append(lists, r[1:], r[:n-1], append(slices.Clone(r), n), append([]int{-1}, r...))
		for i := range r {
			for _, k := range []int{-1, n, r[(i+1)%n], r[(i+n-1)%n], r[i] + 1<<32, r[i] + 256, ^r[i], math.MinInt, math.MaxInt} {
				other := slices.Clone(r)
				other[i] = k
				lists = append(lists, other)
			}
			lists = append(lists, append(slices.Clone(r), r[i]))
		}
	}
	return slices.DeleteFunc(lists, func(r []int) bool { return isWantedRanking(r, n) })
}

// ranked returns the marks in the order of the ranking.
func ranked(marks []int, r []int) []int {
	var list []int
	for _, k := range r {
		list = append(list, marks[k])
	}
	return list
}

// wantOrder compares marks that are put in the order of the ranking.
func wantOrder(a []int, b []int, r []int) int {
	return slices.Compare(ranked(a, r), ranked(b, r))
}

// wantWinners compares each row with each other one.
func wantWinners(x impl.Tableau, r []int) []int {
	var winners []int
	for i, marks := range x.Marks {
		worse := func(other []int) bool { return wantOrder(other, marks, r) < 0 }
		if !slices.ContainsFunc(x.Marks, worse) {
			winners = append(winners, i)
		}
	}
	return winners
}

// wantOutputs returns the different outputs of rows.
func wantOutputs(x impl.Tableau, rows []int) []string {
	var outputs []string
	seen := map[string]bool{}
	for _, i := range rows {
		if out := outputFor(x.Rows[i]); !seen[out] {
			seen[out] = true
			outputs = append(outputs, out)
		}
	}
	return outputs
}

// wantFatal takes the places of the ranking one by one.
func wantFatal(marks []int, winner []int, r []int) int {
	for place, k := range r {
		if marks[k] > winner[k] {
			return place
		}
	}
	return -1
}

// someRankings returns all rankings of up to 3 constraints, and every seventh
// one of more.
func someRankings(n int) [][]int {
	all := wantRankings(n)
	if n <= 3 {
		return all
	}
	var some [][]int
	for i := 0; i < len(all); i += 7 {
		some = append(some, all[i])
	}
	return append(some, all[len(all)-1])
}

func TestIsRanking(t *testing.T) {
	counts := []int{-1, 0, 1, 2, 3, 4, 5, 6, 7, 256, 1 << 32, math.MaxInt, math.MinInt}
	for size := range 7 {
		numbers := []int{-1, 0, 1, 2, 3, 4, 5}
		if size == 6 {
			numbers = upTo(6)
		}
		for _, r := range numberLists(numbers, size) {
			for _, n := range counts {
				if got := impl.IsRanking(r, n); got != isWantedRanking(r, n) {
					t.Errorf("IsRanking(%v, %d) = %v", r, n, got)
				}
			}
		}
	}
	for n := 1; n <= 5; n++ {
		for _, r := range noRankings(n) {
			if impl.IsRanking(r, n) {
				t.Errorf("IsRanking(%v, %d) = true", r, n)
			}
		}
	}
	if impl.IsRanking(upTo(1000), 1000) || impl.IsRanking(nil, 0) || impl.IsRanking(nil, 1) || impl.IsRanking([]int{}, -1) {
		t.Error("rankings of more than 5 or of no constraints are valid")
	}
}

func TestCompareMarksExamples(t *testing.T) {
	cases := []struct {
		a, b, r []int
		want    int
	}{
		{[]int{0}, []int{1}, []int{0}, -1},
		{[]int{1}, []int{0}, []int{0}, 1},
		{[]int{1}, []int{1}, []int{0}, 0},
		{[]int{0, 2}, []int{1, 0}, []int{0, 1}, -1},
		{[]int{0, 2}, []int{1, 0}, []int{1, 0}, 1},
		{[]int{3, 2, 1}, []int{3, 1, 2}, []int{0, 2, 1}, -1},
		{[]int{3, 2, 1}, []int{3, 1, 2}, []int{0, 1, 2}, 1},
		{[]int{3, 2, 1}, []int{3, 1, 2}, []int{2, 1, 0}, -1},
		{[]int{0, 0, 9, 9}, []int{0, 1, 0, 0}, []int{0, 1, 2, 3}, -1},
		{[]int{1, 0, 0, 0, 0}, []int{0, 7, 7, 7, 7}, []int{0, 1, 2, 3, 4}, 1},
		{[]int{1, 0, 0, 0, 0}, []int{0, 0, 0, 0, 0}, []int{4, 3, 2, 1, 0}, 1},
		{[]int{math.MinInt, 0}, []int{math.MaxInt, 0}, []int{0, 1}, -1},
		{[]int{0, math.MaxInt}, []int{0, math.MinInt}, []int{0, 1}, 1},
		{[]int{-2}, []int{-1}, []int{0}, -1},
		{[]int{1 << 32}, []int{0}, []int{0}, 1},
	}
	for _, x := range cases {
		if got := impl.CompareMarks(x.a, x.b, x.r); got != x.want {
			t.Errorf("CompareMarks(%v, %v, %v) = %d, want %d", x.a, x.b, x.r, got, x.want)
		}
		if got := impl.CompareMarks(x.b, x.a, x.r); got != -x.want {
			t.Errorf("CompareMarks(%v, %v, %v) = %d, want %d", x.b, x.a, x.r, got, -x.want)
		}
	}
}

func TestCompareMarks(t *testing.T) {
	numbers := [][]int{{}, {-1, 0, 1, 7}, {-1, 0, 2, 5}, {0, 1, 3}, {0, 2}, {0, 1}}
	for n := 1; n <= 5; n++ {
		profiles := numberLists(numbers[n], n)
		for _, r := range wantRankings(n) {
			for _, a := range profiles {
				for _, b := range profiles {
					if got, want := impl.CompareMarks(a, b, r), wantOrder(a, b, r); got != want {
						t.Fatalf("CompareMarks(%v, %v, %v) = %d, want %d", a, b, r, got, want)
					}
				}
			}
		}
	}
}

func TestMarksThatAreNotCompared(t *testing.T) {
	few, many := []int{0, 0, 0, 0, 0, 0, 0}, []int{9, 9, 9, 9, 9, 9, 9}
	check := func(a []int, b []int, r []int) {
		for _, x := range [][2][]int{{a, b}, {b, a}} {
			if got := impl.CompareMarks(x[0], x[1], r); got != 0 {
				t.Errorf("CompareMarks(%v, %v, %v) = %d", x[0], x[1], r, got)
			}
		}
	}
	for n := 1; n <= 5; n++ {
		for _, r := range noRankings(n) {
			check(few[:n], many[:n], r)
		}
		for _, r := range wantRankings(n) {
			for size := range 8 {
				if size != n {
					check(few[:n], many[:size], r)
					check(few[:size], many[:n], r)
					check(few[:size], many[:size], r)
				}
			}
		}
	}
	check(nil, nil, nil)
	check(few[:6], many[:6], upTo(6))
	check(nil, many[:1], nil)
	check(nil, many[:1], []int{0})
}

func TestWinnerExamples(t *testing.T) {
	x, _ := impl.TableauOf("tad", []string{"final", "ident", "max", "dep"})
	cases := []struct {
		r    []int
		want string
	}{
		{[]int{0, 2, 3, 1}, "tat"},
		{[]int{0, 1, 2, 3}, "tadt tadi"},
		{[]int{0, 1, 3, 2}, "ta"},
		{[]int{1, 2, 3, 0}, "tad"},
		{[]int{3, 2, 1, 0}, "tad"},
		{[]int{2, 0, 1, 3}, "tadt tadi"},
		{[]int{2, 3, 0, 1}, "tat"},
		{[]int{3, 1, 0, 2}, "ta"},
	}
	for _, y := range cases {
		if got := strings.Join(impl.OptimalOutputs(x, y.r), " "); got != y.want {
			t.Errorf("OptimalOutputs under %v = %q, want %q", y.r, got, y.want)
		}
	}
	// Rows with one profile win together.
	x = tableauOfTexts("nocoda,max,dep", "t", "t+i", "t", "-t", "+at", "t+a", "-t")
	for _, y := range []struct {
		r    []int
		want []int
	}{{[]int{0, 1, 2}, []int{1, 5}}, {[]int{1, 2, 0}, []int{0, 2}}, {[]int{0, 2, 1}, []int{3, 6}}, {[]int{2, 1, 0}, []int{0, 2}}} {
		if got := impl.WinnersOf(x, y.r); !slices.Equal(got, y.want) {
			t.Errorf("WinnersOf under %v = %v, want %v", y.r, got, y.want)
		}
	}
}

// TestWinnersAreNotWorse checks promise P6 by itself: a winner is not worse than
// any other row, and a row that does not win is worse than some other one.
func TestWinnersAreNotWorse(t *testing.T) {
	for _, x := range validTableaux() {
		for _, r := range someRankings(len(x.Names)) {
			winners := impl.WinnersOf(x, r)
			if len(winners) == 0 {
				t.Fatalf("no winners under %v in %s", r, tableauText(x))
			}
			for i, marks := range x.Marks {
				worse := false
				for _, other := range x.Marks {
					worse = worse || impl.CompareMarks(marks, other, r) > 0
				}
				if slices.Contains(winners, i) == worse {
					t.Errorf("row %d is worse than another one: %v; the winners under %v are %v in %s", i, worse, r, winners, tableauText(x))
				}
			}
		}
	}
}

func TestWinnersAndTheirOutputs(t *testing.T) {
	for _, x := range validTableaux() {
		for _, r := range wantRankings(len(x.Names)) {
			want := wantWinners(x, r)
			if got := impl.WinnersOf(x, r); !slices.Equal(got, want) {
				t.Errorf("WinnersOf under %v = %v, want %v in %s", r, got, want, tableauText(x))
			}
			outputs := wantOutputs(x, want)
			if got := impl.OptimalOutputs(x, r); !slices.Equal(got, outputs) {
				t.Errorf("OptimalOutputs under %v = %q, want %q in %s", r, got, outputs, tableauText(x))
			}
		}
	}
}

func TestOutputsAreDifferentAndInOrder(t *testing.T) {
	// All rows have one profile, so all of them win.
	x := tableauOfTexts("max", "t+i", "t", "t+a", "t+i", "t+t", "+t*t", "*t+t", "t")
	if got := impl.WinnersOf(x, []int{0}); !slices.Equal(got, upTo(8)) {
		t.Errorf("WinnersOf = %v", got)
	}
	if got := strings.Join(impl.OptimalOutputs(x, []int{0}), " "); got != "ti t ta tt td dt" {
		t.Errorf("OptimalOutputs = %q", got)
	}
	// The empty output is an output as well.
	x = tableauOfTexts("nocoda", "t", "-t", "t+i", "-t")
	if got := impl.OptimalOutputs(x, []int{0}); !slices.Equal(got, []string{"", "ti"}) {
		t.Errorf("OptimalOutputs = %q", got)
	}
}

func TestFatalMarkExamples(t *testing.T) {
	x := tableauOfTexts("nocoda,max,dep", "t", "t+i", "-t", "t+a", "+at", "t+i+i", "-t+t")
	cases := []struct {
		r    []int
		want []int
	}{
		// The winners are the rows of ti and ta, of the empty form, and of t.
		{[]int{0, 1, 2}, []int{0, -1, 1, -1, 0, 2, 0}},
		{[]int{1, 0, 2}, []int{1, -1, 0, -1, 1, 2, 0}},
		{[]int{0, 2, 1}, []int{0, 1, -1, 1, 0, 1, 0}},
		{[]int{2, 0, 1}, []int{1, 0, -1, 0, 0, 0, 0}},
		{[]int{1, 2, 0}, []int{-1, 1, 0, 1, 1, 1, 0}},
		{[]int{2, 1, 0}, []int{-1, 0, 1, 0, 0, 0, 0}},
	}
	for _, y := range cases {
		for i, want := range y.want {
			if got := impl.FatalMark(x, y.r, i); got != want {
				t.Errorf("FatalMark(%v, %d) = %d, want %d", y.r, i, got, want)
			}
		}
	}
}

func TestFatalMark(t *testing.T) {
	for _, x := range validTableaux() {
		rankings := someRankings(len(x.Names))
		if len(x.Rows) > 50 {
			rankings = [][]int{rankings[len(rankings)/2], rankings[len(rankings)-1]}
		}
		for _, r := range rankings {
			winner := x.Marks[wantWinners(x, r)[0]]
			for i, marks := range x.Marks {
				if got, want := impl.FatalMark(x, r, i), wantFatal(marks, winner, r); got != want {
					t.Errorf("FatalMark(%v, %d) = %d, want %d in %s", r, i, got, want, tableauText(x))
				}
			}
			for _, i := range []int{-1, -2, len(x.Rows), len(x.Rows) + 1, 250, 1 << 32, math.MaxInt, math.MinInt} {
				if got := impl.FatalMark(x, r, i); got != -1 {
					t.Errorf("FatalMark(%v, %d) = %d in %s", r, i, got, tableauText(x))
				}
			}
		}
	}
}

// checkNoWinners checks that a tableau has no winners under a ranking.
func checkNoWinners(t *testing.T, x impl.Tableau, r []int) {
	t.Helper()
	if got := impl.WinnersOf(x, r); len(got) != 0 {
		t.Errorf("WinnersOf under %v = %v in %s", r, got, tableauText(x))
	}
	if got := impl.OptimalOutputs(x, r); len(got) != 0 {
		t.Errorf("OptimalOutputs under %v = %q in %s", r, got, tableauText(x))
	}
	for i := -1; i <= min(3, len(x.Rows)); i++ {
		if got := impl.FatalMark(x, r, i); got != -1 {
			t.Errorf("FatalMark(%v, %d) = %d in %s", r, i, got, tableauText(x))
		}
	}
}

func TestNoTableauHasWinners(t *testing.T) {
	for _, x := range noTableaux() {
		checkNoWinners(t, x, upTo(len(x.Names)))
		checkNoWinners(t, x, []int{2, 0, 1})
		checkNoWinners(t, x, nil)
	}
}

func TestNoRankingHasWinners(t *testing.T) {
	for _, x := range handTableaux()[:8] {
		for _, r := range noRankings(len(x.Names)) {
			checkNoWinners(t, x, r)
		}
		for n := 1; n <= 5; n++ {
			if n != len(x.Names) {
				checkNoWinners(t, x, wantRankings(n)[0])
			}
		}
	}
}

func TestAllRankings(t *testing.T) {
	sizes := []int{0, 1, 2, 6, 24, 120}
	for n := 1; n <= 5; n++ {
		got := impl.AllRankings(n)
		if len(got) != sizes[n] || !slices.EqualFunc(got, wantRankings(n), slices.Equal) {
			t.Errorf("AllRankings(%d) = %v", n, got)
		}
	}
	for _, n := range []int{0, -1, 6, 7, 100, 1 << 32, 1<<32 + 3, math.MaxInt, math.MinInt} {
		if got := impl.AllRankings(n); len(got) != 0 {
			t.Errorf("AllRankings(%d) = %v", n, got)
		}
	}
}

func TestSingleConstraint(t *testing.T) {
	if !impl.IsRanking([]int{0}, 1) || impl.IsRanking([]int{1}, 1) || impl.IsRanking([]int{0, 0}, 1) || impl.IsRanking([]int{0}, 0) {
		t.Error("IsRanking of a single constraint")
	}
	if got := impl.AllRankings(1); len(got) != 1 || !slices.Equal(got[0], []int{0}) {
		t.Errorf("AllRankings(1) = %v", got)
	}
	if impl.CompareMarks([]int{2}, []int{3}, []int{0}) != -1 || impl.CompareMarks([]int{3}, []int{2}, []int{0}) != 1 || impl.CompareMarks([]int{3}, []int{3}, []int{0}) != 0 {
		t.Error("CompareMarks of a single constraint")
	}
	x, _ := impl.TableauOf("a", []string{"onset"})
	if got := strings.Join(impl.OptimalOutputs(x, []int{0}), " "); got != " t ta tat tta" {
		t.Errorf("OptimalOutputs under onset alone = %q", got)
	}
	for _, name := range allNames() {
		checkSingle(t, name)
	}
}

// checkSingle checks that the rows with the fewest marks of the constraint win.
func checkSingle(t *testing.T, name string) {
	t.Helper()
	x := tableauWith(name, wantGenerated("adn", 2))
	fewest := slices.MinFunc(x.Marks, slices.Compare)
	for i, marks := range x.Marks {
		wins := slices.Equal(marks, fewest)
		if got := slices.Contains(impl.WinnersOf(x, []int{0}), i); got != wins {
			t.Errorf("row %d wins under %s alone: %v", i, name, got)
		}
		if got := impl.FatalMark(x, []int{0}, i); wins && got != -1 || !wins && got != 0 {
			t.Errorf("FatalMark of row %d under %s alone = %d", i, name, got)
		}
	}
	if got := impl.FormatRanking([]string{name}, []int{0}); got != name {
		t.Errorf("FormatRanking of %s alone = %q", name, got)
	}
	if r, ok := impl.ParseRanking([]string{name}, name); !ok || !slices.Equal(r, []int{0}) {
		t.Errorf("ParseRanking of %s alone = %v, %v", name, r, ok)
	}
	for _, s := range []string{name + ">", ">" + name, name + ">" + name, "", "0", name[1:]} {
		if r, ok := impl.ParseRanking([]string{name}, s); ok || len(r) != 0 {
			t.Errorf("ParseRanking(%q) = %v, %v", s, r, ok)
		}
	}
}

// rankingNames returns lists of 1 to 5 names.
func rankingNames() [][]string {
	lists := slices.Concat(nameLists(1), nameLists(2))
	for n := 3; n <= 5; n++ {
		all := nameLists(n)
		for i := 0; i < len(all); i += 331 {
			lists = append(lists, all[i])
		}
	}
	return lists
}

// wantRankingText puts the names in the order of the ranking one by one.
func wantRankingText(names []string, r []int) string {
	text := ""
	for _, k := range r {
		text += ">" + names[k]
	}
	return text[1:]
}

func TestRankingsCanBeParsed(t *testing.T) {
	names := []string{"max", "dep", "nasal"}
	for text, want := range map[string][]int{"max>dep>nasal": {0, 1, 2}, "nasal>max>dep": {2, 0, 1}, "dep>nasal>max": {1, 2, 0}} {
		if got := impl.FormatRanking(names, want); got != text {
			t.Errorf("FormatRanking(%v) = %q, want %q", want, got, text)
		}
		if r, ok := impl.ParseRanking(names, text); !ok || !slices.Equal(r, want) {
			t.Errorf("ParseRanking(%q) = %v, %v", text, r, ok)
		}
	}
	for _, names := range rankingNames() {
		for _, r := range wantRankings(len(names)) {
			text := impl.FormatRanking(names, r)
			if text != wantRankingText(names, r) {
				t.Errorf("FormatRanking(%q, %v) = %q", names, r, text)
			}
			if got, ok := impl.ParseRanking(names, text); !ok || !slices.Equal(got, r) {
				t.Errorf("ParseRanking(%q, %q) = %v, %v", names, text, got, ok)
			}
		}
	}
}

func TestOtherRankingsAreNotFormatted(t *testing.T) {
	for n := 1; n <= 5; n++ {
		names := nameLists(n)[7]
		for _, r := range noRankings(n) {
			if got := impl.FormatRanking(names, r); got != "" {
				t.Errorf("FormatRanking(%q, %v) = %q", names, r, got)
			}
		}
		for size := 1; size <= 5; size++ {
			for _, r := range wantRankings(size) {
				if got := impl.FormatRanking(names, r); size != n && got != "" {
					t.Errorf("FormatRanking(%q, %v) = %q", names, r, got)
				}
			}
		}
	}
}

func TestRankingsOfNoNames(t *testing.T) {
	for _, names := range noNameLists() {
		if len(names) > 20 {
			names = names[:20]
		}
		last := upTo(len(names))
		slices.Reverse(last)
		for _, r := range [][]int{nil, {0}, {1, 0}, upTo(len(names)), last} {
			if got := impl.FormatRanking(names, r); got != "" {
				t.Errorf("FormatRanking(%q, %v) = %q", names, r, got)
			}
		}
		for _, s := range []string{"", ">", strings.Join(names, ">"), strings.Join(names, ","), "max", "max>dep"} {
			if r, ok := impl.ParseRanking(names, s); ok || len(r) != 0 {
				t.Errorf("ParseRanking(%q, %q) = %v, %v", names, s, r, ok)
			}
		}
	}
}

func TestOtherTextsAreNoRankings(t *testing.T) {
	names := []string{"max", "dep", "voice"}
	texts := []string{"", ">", ">>", "max", "max>dep", "voice>dep", "max>dep>voice>", ">max>dep>voice", "max>>dep>voice", "max>dep>max", "dep>dep>dep", "max>dep>voice>max", "max>dep>voice>nasal", "max>dep>nasal", "nasal>ident>contig", "max, dep, voice", "max,dep,voice", "max > dep > voice", "max>dep >voice", "max>dep>voice\n", "max=dep>voice", "max<dep<voice", "0>1>2", "none", "MAX>DEP>VOICE", "max>dep>Voice", "max>dep>", "maxdepvoice", "max>dep>voicevoice", "max\x00>dep>voice", strings.Repeat(">", 1000), strings.Repeat("max>", 1000)}
	for _, s := range texts {
		if r, ok := impl.ParseRanking(names, s); ok || len(r) != 0 {
			t.Errorf("ParseRanking(%q) = %v, %v", s, r, ok)
		}
	}
	for _, x := range noNames() {
		for _, s := range []string{x, "max>dep>" + x, x + ">dep>voice", "max>" + x + ">voice", "max>dep>voice>" + x} {
			if r, ok := impl.ParseRanking(names, s); ok || len(r) != 0 {
				t.Errorf("ParseRanking(%q) = %v, %v", s, r, ok)
			}
		}
	}
}

// TestRankingsWithOtherBytesAreNotParsed puts each byte in each place of a format.
func TestRankingsWithOtherBytesAreNotParsed(t *testing.T) {
	const format = "max>dep>voice"
	names := []string{"dep", "voice", "max"}
	for i := range len(format) {
		texts := []string{format[:i], format[i+1:], format[:i] + format[i+1:]}
		for _, b := range []byte(allBytes()) {
			x := string([]byte{b})
			texts = append(texts, format[:i]+x+format[i:], format+x)
			if b != format[i] {
				texts = append(texts, format[:i]+x+format[i+1:])
			}
		}
		for _, s := range texts {
			if r, ok := impl.ParseRanking(names, s); ok || len(r) != 0 {
				t.Errorf("ParseRanking(%q) = %v, %v", s, r, ok)
			}
		}
	}
}

// numbersWithRoom returns the same list, and one that begins with it and goes on
// in its unused capacity.
func numbersWithRoom(list []int) ([]int, []int) {
	room := append(slices.Clone(list), 0, 1, 7)
	return room[:len(list)], room
}

func TestRankingsChangeNothing(t *testing.T) {
	for _, x := range slices.Concat(validTableaux(), noTableaux()[:400]) {
		n := max(1, min(5, len(x.Names)))
		for _, r := range [][]int{upTo(n), nil, {1, 0}} {
			part, room := tableauWithRoom(x)
			marks, marksRoom := numbersWithRoom([]int{3, 1, 4, 1, 5}[:n])
			ranking, rankingRoom := numbersWithRoom(r)
			before := []string{tableauText(room), numbersText(marksRoom), numbersText(rankingRoom)}
			impl.IsRanking(ranking, n)
			impl.CompareMarks(marks, marks, ranking)
			impl.WinnersOf(part, ranking)
			impl.OptimalOutputs(part, ranking)
			impl.FatalMark(part, ranking, 0)
			impl.FormatRanking(part.Names, ranking)
			impl.ParseRanking(part.Names, strings.Join(part.Names, ">"))
			if after := []string{tableauText(room), numbersText(marksRoom), numbersText(rankingRoom)}; !slices.Equal(after, before) {
				t.Fatalf("the arguments %q were changed to %q", before, after)
			}
		}
	}
}

func TestRankingsShareNoMemory(t *testing.T) {
	for n := 1; n <= 5; n++ {
		want := wantRankings(n)
		all := impl.AllRankings(n)
		for i, r := range all {
			r = r[:cap(r)]
			for k := range r {
				r[k] = -1
			}
			all[i] = want[i]
			if !slices.EqualFunc(all, want, slices.Equal) {
				t.Fatalf("ranking %d of %d constraints shares memory", i, n)
			}
		}
		if got := impl.AllRankings(n); !slices.EqualFunc(got, want, slices.Equal) {
			t.Fatalf("AllRankings(%d) = %v after a change", n, got)
		}
	}
}

func TestWinnersShareNoMemory(t *testing.T) {
	x := tableauOfTexts("nocoda,max,dep", "t", "t+i", "-t", "t+a")
	r := []int{0, 1, 2}
	text := tableauText(x)
	for range 2 {
		winners, outputs := impl.WinnersOf(x, r), impl.OptimalOutputs(x, r)
		parsed, ok := impl.ParseRanking(x.Names, "nocoda>max>dep")
		if !slices.Equal(winners, []int{1, 3}) || !slices.Equal(outputs, []string{"ti", "ta"}) || !ok || !slices.Equal(parsed, r) {
			t.Fatalf("winners %v, outputs %q and ranking %v", winners, outputs, parsed)
		}
		for _, list := range [][]int{winners, parsed} {
			list = list[:cap(list)]
			for i := range list {
				list[i] = 77
			}
		}
		outputs = outputs[:cap(outputs)]
		for i := range outputs {
			outputs[i] = "x"
		}
	}
	if tableauText(x) != text || !slices.Equal(r, []int{0, 1, 2}) {
		t.Fatal("a result shares memory with an argument")
	}
}
