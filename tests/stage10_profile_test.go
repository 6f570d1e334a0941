package tests

import (
	"slices"
	"strings"
	"testing"

	"loop.example/g02080/impl"
)

// allNames returns the names of the constraints, as the document lists them.
func allNames() []string {
	return strings.Fields("onset nocoda cluster voice final nasal max dep ident contig")
}

// noNames returns strings that are no names of constraints.
func noNames() []string {
	list := []string{"", " ", ",", "x", "none", "coda", "clusters", "voiced", "obs", "parse", "MAX", "Max", "maxdep", "max,dep", "max,", ",max", "max>dep", "\x00", "\xff", "m\u0430x", strings.Repeat("max", 1000)}
	for _, name := range allNames() {
		list = append(list, name[1:], name[:len(name)-1], name+name[:1], name+name, " "+name, name+" ", name+"\n", name+"\x00", strings.ToUpper(name), strings.ToUpper(name[:1])+name[1:])
	}
	return list
}

// nameLists returns all lists of n different names.
func nameLists(n int) [][]string {
	lists := [][]string{{}}
	for range n {
		var longer [][]string
		for _, list := range lists {
			for _, name := range allNames() {
				if !slices.Contains(list, name) {
					longer = append(longer, append(slices.Clone(list), name))
				}
			}
		}
		lists = longer
	}
	return lists
}

// validNameLists returns all lists of 1 to 5 different names.
func validNameLists() [][]string {
	return slices.Concat(nameLists(1), nameLists(2), nameLists(3), nameLists(4), nameLists(5))
}

// twiceNameLists returns lists of up to 5 names of which one occurs twice, at
// any two places.
func twiceNameLists() [][]string {
	var lists [][]string
	for n := 1; n <= 4; n++ {
		for from := range allNames() {
			names := slices.Concat(allNames(), allNames())[from : from+n]
			for i, name := range names {
				for at := range n + 1 {
					lists = append(lists, slices.Insert(slices.Clone(names), at, name))
				}
				if n > 2 {
					other := slices.Clone(names)
					other[(i+2)%n] = name
					lists = append(lists, other)
				}
			}
		}
	}
	return append(lists, []string{"max", "max", "max"}, slices.Repeat([]string{"contig"}, 5))
}

// noNameLists returns lists that are not valid.
func noNameLists() [][]string {
	lists := [][]string{nil, {}, allNames(), allNames()[:6], allNames()[4:], slices.Repeat([]string{"max"}, 6), slices.Repeat([]string{"dep"}, 1000), make([]string, 5)}
	for _, x := range noNames() {
		lists = append(lists, []string{x}, []string{x, x})
		for n := 1; n <= 4; n++ {
			for at := range n + 1 {
				lists = append(lists, slices.Insert(allNames()[4:4+n], at, x))
			}
		}
	}
	return append(lists, twiceNameLists()...)
}

// wantCounts counts the marks of each constraint by regular expressions, those
// of the form in the output and those of the edits by their signs.
func wantCounts(c impl.Candidate) map[string]int {
	counts := map[string]int{}
	marks, edits := wantMarks(impl.OutputOf(c)), wantFaith(impl.FormatCandidate(c))
	for i, name := range allNames() {
		counts[name] = slices.Concat(marks[:], edits[:])[i]
	}
	return counts
}

// countedCandidates returns candidates of all kinds, with the longest ones.
func countedCandidates() []impl.Candidate {
	list := append(longestCandidates(), impl.Candidate{}, impl.Candidate{Links: []impl.Link{}})
	for _, s := range []string{"", "a", "nt", "dan", "andt"} {
		list = append(list, impl.Generate(s)...)
	}
	lists := linkTextLists()
	for _, texts := range slices.Concat(lists[:700], lists[len(lists)-700:]) {
		list = append(list, candidateFor(texts...))
	}
	return list
}

func TestConstraintNames(t *testing.T) {
	if impl.MaxConstraints != 5 {
		t.Errorf("MaxConstraints = %d", impl.MaxConstraints)
	}
	names := impl.ConstraintNames()
	if !slices.Equal(names, allNames()) {
		t.Errorf("ConstraintNames() = %q", names)
	}
	names = names[:cap(names)]
	for i := range names {
		names[i] = "x"
	}
	if got := impl.ConstraintNames(); !slices.Equal(got, allNames()) {
		t.Errorf("ConstraintNames() = %q after a change", got)
	}
	if !impl.IsMarkedness("onset") || !impl.AreConstraints([]string{"max", "dep"}) {
		t.Error("a change to the names of one call is seen in another one")
	}
}

func TestIsMarkedness(t *testing.T) {
	for i, name := range allNames() {
		if got := impl.IsMarkedness(name); got != (i < 6) {
			t.Errorf("IsMarkedness(%q) = %v", name, got)
		}
	}
	for _, name := range noNames() {
		if impl.IsMarkedness(name) {
			t.Errorf("IsMarkedness(%q) = true", name)
		}
	}
}

func TestAreConstraints(t *testing.T) {
	for _, names := range validNameLists() {
		if !impl.AreConstraints(names) {
			t.Errorf("AreConstraints(%q) = false", names)
		}
	}
	for _, names := range noNameLists() {
		if impl.AreConstraints(names) {
			t.Errorf("AreConstraints(%q) = true", names)
		}
	}
	for _, names := range nameLists(5)[:2000] {
		for _, name := range allNames() {
			if longer := append(slices.Clone(names), name); impl.AreConstraints(longer) {
				t.Errorf("AreConstraints(%q) = true", longer)
			}
		}
	}
}

func TestNameThatOccursTwice(t *testing.T) {
	c := candidateFor("*t", "a", "-n", "+i", "d")
	for _, names := range twiceNameLists() {
		if len(names) > 5 {
			t.Fatalf("%q is too long to be a test of this", names)
		}
		if impl.AreConstraints(names) {
			t.Errorf("AreConstraints(%q) = true", names)
		}
		if got := impl.ProfileOf(names, c); len(got) != 0 {
			t.Errorf("ProfileOf(%q) = %v", names, got)
		}
		if got := impl.FormatNames(names); got != "" {
			t.Errorf("FormatNames(%q) = %q", names, got)
		}
		if got, ok := impl.ParseNames(strings.Join(names, ",")); ok || len(got) != 0 {
			t.Errorf("ParseNames of %q = %q, %v", names, got, ok)
		}
	}
}

func TestViolationExamples(t *testing.T) {
	cases := []struct {
		text string
		want [10]int // in the order of the names
	}{
		{"none", [10]int{}},
		{"t", [10]int{0, 1, 0, 0, 0, 0, 0, 0, 0, 0}},
		{"-t", [10]int{0, 0, 0, 0, 0, 0, 1, 0, 0, 0}},
		{"+a", [10]int{1, 0, 0, 0, 0, 0, 0, 1, 0, 0}},
		{"*t", [10]int{0, 1, 0, 1, 1, 0, 0, 0, 1, 0}},
		{"*d", [10]int{0, 1, 0, 0, 0, 0, 0, 0, 1, 0}},
		{"*ta-n+id", [10]int{1, 1, 0, 2, 1, 0, 1, 1, 1, 2}},
		{"ta", [10]int{}},
		{"-ata", [10]int{0, 0, 0, 0, 0, 0, 1, 0, 0, 0}},
		{"+ta", [10]int{0, 0, 0, 0, 0, 0, 0, 1, 0, 0}},
		{"an+it", [10]int{1, 1, 0, 0, 0, 0, 0, 1, 0, 1}},
		{"tan-ata", [10]int{0, 1, 1, 0, 0, 1, 1, 0, 0, 1}},
		{"tan*da", [10]int{0, 1, 1, 0, 0, 1, 0, 0, 1, 0}},
		{"ta-d-n-dai", [10]int{2, 0, 0, 0, 0, 0, 3, 0, 0, 3}},
		{"ba+t+i-n", [10]int{0, 0, 0, 1, 0, 0, 1, 2, 0, 0}},
		{"*bdnp*tdi", [10]int{0, 5, 5, 3, 0, 1, 0, 0, 2, 0}},
	}
	for _, x := range cases {
		c := candidateFor(linksIn(x.text)...)
		for i, name := range allNames() {
			if got := impl.ViolationsOf(name, c); got != x.want[i] {
				t.Errorf("ViolationsOf(%q, %s) = %d, want %d", name, x.text, got, x.want[i])
			}
		}
		for from := range 6 {
			if got := impl.ProfileOf(allNames()[from:from+5], c); !slices.Equal(got, x.want[from:from+5]) {
				t.Errorf("ProfileOf(%q, %s) = %v, want %v", allNames()[from:from+5], x.text, got, x.want[from:from+5])
			}
		}
	}
}

func TestViolationsAreThoseOfTheFormAndTheEdits(t *testing.T) {
	for _, c := range countedCandidates() {
		want := wantCounts(c)
		for _, name := range allNames() {
			if got := impl.ViolationsOf(name, c); got != want[name] {
				t.Errorf("ViolationsOf(%q, %v) = %d, want %d", name, c, got, want[name])
			}
		}
	}
}

func TestViolationsOfNoConstraint(t *testing.T) {
	for _, c := range append(longestCandidates(), impl.Candidate{}, candidateFor("*t", "a", "-n", "+i", "d")) {
		for _, name := range noNames() {
			if got := impl.ViolationsOf(name, c); got != -1 {
				t.Errorf("ViolationsOf(%q, %v) = %d", name, c, got)
			}
		}
	}
}

func TestProfilesAreInTheOrderOfTheNames(t *testing.T) {
	list := []impl.Candidate{{}, candidateFor("*t", "a", "-n", "+i", "d"), candidateFor("a", "-i", "n", "+t", "+p", "*p", "*d", "d")}
	for _, c := range list {
		want := wantCounts(c)
		for _, names := range validNameLists() {
			got := impl.ProfileOf(names, c)
			if len(got) != len(names) {
				t.Fatalf("ProfileOf(%q, %v) = %v", names, c, got)
			}
			for i, name := range names {
				if got[i] != want[name] {
					t.Errorf("ProfileOf(%q, %v) = %v, want %d for %s", names, c, got, want[name], name)
				}
			}
		}
	}
}

func TestProfilesAreThoseOfTheFormAndTheEdits(t *testing.T) {
	lists := [][]string{{"contig"}, {"nasal", "ident"}, {"dep", "onset", "max"}, allNames()[:5], allNames()[5:], {"final", "contig", "cluster", "max", "voice"}}
	for _, c := range countedCandidates() {
		want := wantCounts(c)
		for _, names := range lists {
			var marks []int
			for _, name := range names {
				marks = append(marks, want[name])
			}
			if got := impl.ProfileOf(names, c); !slices.Equal(got, marks) {
				t.Errorf("ProfileOf(%q, %v) = %v, want %v", names, c, got, marks)
			}
		}
	}
}

func TestProfilesOfNoNames(t *testing.T) {
	for _, names := range noNameLists() {
		for _, c := range []impl.Candidate{{}, candidateFor("*t", "a", "-n", "+i", "d")} {
			if got := impl.ProfileOf(names, c); len(got) != 0 {
				t.Errorf("ProfileOf(%q, %v) = %v", names, c, got)
			}
		}
	}
}

func TestProfilesOfNoCandidates(t *testing.T) {
	for _, c := range spoiledCandidates() {
		for _, name := range append(allNames(), "x", "") {
			if got := impl.ViolationsOf(name, c); got != -1 {
				t.Errorf("ViolationsOf(%q, %v) = %d", name, c, got)
			}
		}
		for _, names := range [][]string{{"onset"}, {"max"}, allNames()[:5], allNames()[5:], nil, {"x"}, {"max", "max"}} {
			if got := impl.ProfileOf(names, c); len(got) != 0 {
				t.Errorf("ProfileOf(%q, %v) = %v", names, c, got)
			}
		}
	}
}

func TestNamesCanBeParsed(t *testing.T) {
	for _, x := range []string{"max", "onset,nocoda", "contig,max,nasal", "onset,nocoda,cluster,voice,final", "nasal,max,dep,ident,contig"} {
		names, ok := impl.ParseNames(x)
		if !ok || impl.FormatNames(names) != x {
			t.Errorf("ParseNames(%q) = %q, %v", x, names, ok)
		}
	}
	for _, names := range validNameLists() {
		text := impl.FormatNames(names)
		if text != strings.Join(names, ",") {
			t.Errorf("FormatNames(%q) = %q", names, text)
		}
		if got, ok := impl.ParseNames(text); !ok || !slices.Equal(got, names) {
			t.Errorf("ParseNames(%q) = %q, %v", text, got, ok)
		}
	}
}

func TestNoNamesAreNotFormatted(t *testing.T) {
	for _, names := range noNameLists() {
		if got := impl.FormatNames(names); got != "" {
			t.Errorf("FormatNames(%q) = %q", names, got)
		}
	}
}

func TestOtherNamesAreNotParsed(t *testing.T) {
	list := []string{"", ",", ",,", "max,", ",max", "max,,dep", "max, dep", "max ,dep", "max dep", "max;dep", "max>dep", "max.dep", "max,dep\n", "\nmax", "max,dep,", "max,\x00,dep", "max,x", "x,max", "none", strings.Repeat(",", 1000), strings.Repeat("max,", 1000), strings.Join(allNames(), ","), strings.Join(allNames()[:6], ","), strings.Join(allNames()[:5], ",") + ","}
	for _, names := range noNameLists() {
		// One string that holds two names reads as these two.
		if !slices.Contains(names, "max,dep") {
			list = append(list, strings.Join(names, ","))
		}
	}
	for _, s := range list {
		if names, ok := impl.ParseNames(s); ok || len(names) != 0 {
			t.Errorf("ParseNames(%q) = %q, %v", s, names, ok)
		}
	}
}

// TestNamesWithOtherBytesAreNotParsed puts each byte in each place of a format.
func TestNamesWithOtherBytesAreNotParsed(t *testing.T) {
	const format = "max,dep,voice"
	for i := range len(format) {
		texts := []string{format[:i], format[i+1:], format[:i] + format[i+1:]}
		for _, b := range []byte(allBytes()) {
			x := string([]byte{b})
			texts = append(texts, format[:i]+x+format[i:], format+x)
			if b != format[i] {
				texts = append(texts, format[:i]+x+format[i+1:])
			}
		}
		for _, s := range texts {
			valid := slices.Contains([]string{"max", "max,dep", "dep,voice", "voice"}, s)
			if names, ok := impl.ParseNames(s); ok != valid || !ok && len(names) != 0 {
				t.Errorf("ParseNames(%q) = %q, %v", s, names, ok)
			}
		}
	}
}

func TestProfilesChangeNothing(t *testing.T) {
	links := append(candidateFor("*t", "a", "-n", "+i", "d").Links, linkFor("+t"), linkFor("-a"))
	for _, names := range append(noNameLists(), validNameLists()[:500]...) {
		room := append(slices.Clone(names), "max", "x")
		before, linksBefore := slices.Clone(room), slices.Clone(links)
		part, c := room[:len(names)], impl.Candidate{Links: links[:5]}
		impl.AreConstraints(part)
		impl.ProfileOf(part, c)
		impl.FormatNames(part)
		for _, name := range part {
			impl.ViolationsOf(name, c)
		}
		if !slices.Equal(room, before) || !slices.Equal(links, linksBefore) {
			t.Fatalf("the names %q were changed to %q, or the links %v to %v", before, room, linksBefore, links)
		}
	}
}

func TestProfilesShareNoMemory(t *testing.T) {
	c := candidateFor("*t", "a", "-n", "+i", "d")
	for _, names := range validNameLists()[:1000] {
		profile := impl.ProfileOf(names, c)
		want := slices.Clone(profile)
		for i := range profile {
			profile[i] = 77
		}
		if got := impl.ProfileOf(names, c); !slices.Equal(got, want) {
			t.Errorf("ProfileOf(%q) is %v and then %v", names, want, got)
		}
		text := strings.Join(names, ",")
		parsed, _ := impl.ParseNames(text)
		for i := range parsed {
			parsed[i] = "x"
		}
		if got, ok := impl.ParseNames(text); !ok || !slices.Equal(got, names) || impl.FormatNames(names) != text {
			t.Errorf("ParseNames(%q) is %q and %v after a change", text, got, ok)
		}
	}
}
