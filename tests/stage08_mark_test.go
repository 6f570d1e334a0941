package tests

import (
	"regexp"
	"slices"
	"strings"
	"testing"

	"loop.example/g02080/impl"
)

// markCounts returns the six counts in the order of the document.
func markCounts(s string) [6]int {
	return [6]int{
		impl.CountOnsetless(s), impl.CountCodas(s), impl.CountClusters(s),
		impl.CountVoiced(s), impl.CountFinalVoiced(s), impl.CountNasalVoiceless(s),
	}
}

// wantMarks counts the marks by taking off what has none: a consonant before a
// vowel is no coda, and the vowel not onsetless.
func wantMarks(s string) [6]int {
	consonants, vowels := 0, 0
	for _, r := range s {
		if strings.ContainsRune("ai", r) {
			vowels++
		} else {
			consonants++
		}
	}
	joined := len(regexp.MustCompile("[ptbdn][ai]").FindAllString(s, -1))
	clusters := consonants - len(regexp.MustCompile("[ptbdn]+").FindAllString(s, -1))
	final := len(regexp.MustCompile("[bd]$").FindAllString(s, -1))
	return [6]int{
		vowels - joined, consonants - joined, clusters,
		strings.Count(s, "b") + strings.Count(s, "d"), final, strings.Count(s, "np") + strings.Count(s, "nt"),
	}
}

// markedForms returns forms of up to 8 sounds: all short ones and some long ones.
func markedForms() []string {
	return slices.Concat(stringsUpTo("ptbdnai", 4), stringsUpTo("dna", 6), stringsUpTo("nt", 7), vowelShapes(), someForms(), longForms(), fullForms())
}

func TestMarkExamples(t *testing.T) {
	cases := []struct {
		s    string
		want [6]int
	}{
		{"", [6]int{}},
		{"a", [6]int{1, 0, 0, 0, 0, 0}},
		{"t", [6]int{0, 1, 0, 0, 0, 0}},
		{"d", [6]int{0, 1, 0, 1, 1, 0}},
		{"n", [6]int{0, 1, 0, 0, 0, 0}},
		{"ta", [6]int{}},
		{"na", [6]int{}},
		{"ba", [6]int{0, 0, 0, 1, 0, 0}},
		{"nt", [6]int{0, 2, 1, 0, 0, 1}},
		{"tn", [6]int{0, 2, 1, 0, 0, 0}},
		{"nd", [6]int{0, 2, 1, 1, 1, 0}},
		{"nn", [6]int{0, 2, 1, 0, 0, 0}},
		{"db", [6]int{0, 2, 1, 2, 1, 0}},
		{"tab", [6]int{0, 1, 0, 1, 1, 0}},
		{"pap", [6]int{0, 1, 0, 0, 0, 0}},
		{"din", [6]int{0, 1, 0, 1, 0, 0}},
		{"bat", [6]int{0, 1, 0, 1, 0, 0}},
		{"tanta", [6]int{0, 1, 1, 0, 0, 1}},
		{"tanpi", [6]int{0, 1, 1, 0, 0, 1}},
		{"tanba", [6]int{0, 1, 1, 1, 0, 0}},
		{"natapi", [6]int{}},
		{"pnta", [6]int{0, 2, 2, 0, 0, 1}},
		{"tttttttt", [6]int{0, 8, 7, 0, 0, 0}},
		{"bbbbbbbb", [6]int{0, 8, 7, 8, 1, 0}},
		{"ntnpntnp", [6]int{0, 8, 7, 0, 0, 4}},
		{"tadanaip", [6]int{1, 1, 0, 1, 0, 0}},
		{"tatatatd", [6]int{0, 2, 1, 1, 1, 0}},
	}
	for _, x := range cases {
		if got := markCounts(x.s); got != x.want {
			t.Errorf("the marks of %q are %v, want %v", x.s, got, x.want)
		}
	}
}

func TestMarksOfAVowelAtTheBeginning(t *testing.T) {
	cases := []struct {
		s    string
		want [6]int
	}{
		{"i", [6]int{1, 0, 0, 0, 0, 0}},
		{"ai", [6]int{2, 0, 0, 0, 0, 0}},
		{"iaa", [6]int{3, 0, 0, 0, 0, 0}},
		{"aiaiaiai", [6]int{8, 0, 0, 0, 0, 0}},
		{"ata", [6]int{1, 0, 0, 0, 0, 0}},
		{"at", [6]int{1, 1, 0, 0, 0, 0}},
		{"ad", [6]int{1, 1, 0, 1, 1, 0}},
		{"anta", [6]int{1, 1, 1, 0, 0, 1}},
		{"itaa", [6]int{2, 0, 0, 0, 0, 0}},
		{"atatatat", [6]int{1, 1, 0, 0, 0, 0}},
	}
	for _, x := range cases {
		if got := markCounts(x.s); got != x.want || impl.IsPerfect(x.s) {
			t.Errorf("the marks of %q are %v, want %v; perfect %v", x.s, got, x.want, impl.IsPerfect(x.s))
		}
	}
	for _, s := range stringsUpTo("ptbdnai", 3) {
		for _, vowel := range []string{"a", "i"} {
			// The vowel is onsetless, and takes no onset from what follows.
			want := wantMarks(s)
			want[0]++
			if got := markCounts(vowel + s); got != want {
				t.Errorf("the marks of %q are %v, want %v", vowel+s, got, want)
			}
		}
	}
}

func TestMarksAreThoseOfTheForm(t *testing.T) {
	for _, s := range markedForms() {
		if got, want := markCounts(s), wantMarks(s); got != want {
			t.Errorf("the marks of %q are %v, want %v", s, got, want)
		}
	}
}

// TestMarksOfEachPair checks which two neighbours have which marks, alone and
// with perfect syllables on both sides.
func TestMarksOfEachPair(t *testing.T) {
	const consonants, vowels = "ptbdn", "ai"
	for _, x := range "ptbdnai" {
		for _, y := range "ptbdnai" {
			pair := string(x) + string(y)
			var want [6]int
			if strings.ContainsRune(vowels, y) && strings.ContainsRune(vowels, x) {
				want[0] = 1
			}
			if strings.ContainsRune(consonants, x) && strings.ContainsRune(consonants, y) {
				want[1], want[2] = 1, 1
			}
			want[3] = len(regexp.MustCompile("[bd]").FindAllString(pair, -1))
			if pair == "np" || pair == "nt" {
				want[5] = 1
			}
			before, after := "ta", "ta"
			if strings.ContainsRune(vowels, x) {
				before = "tat"
			}
			if strings.ContainsRune(consonants, y) {
				after = "ata"
			}
			if got := markCounts(before + pair + after); got != want {
				t.Errorf("the marks of %q are %v, want %v", before+pair+after, got, want)
			}
			if got := markCounts(pair); got != wantMarks(pair) {
				t.Errorf("the marks of %q are %v, want %v", pair, got, wantMarks(pair))
			}
		}
	}
}

func TestMarksAgreeWithSyllables(t *testing.T) {
	for _, s := range markedForms() {
		onsetless, joined := 0, 0
		for _, x := range impl.SyllablesOf(s) {
			if x.Onset == "" {
				onsetless++
			} else {
				joined++
			}
		}
		codas := len(s) - impl.CountVowels(s) - joined
		if impl.CountOnsetless(s) != onsetless || impl.CountCodas(s) != codas {
			t.Errorf("%q has %d onsetless vowels and %d codas, but syllables %v", s, impl.CountOnsetless(s), impl.CountCodas(s), impl.SyllablesOf(s))
		}
	}
}

func TestIsPerfect(t *testing.T) {
	for _, s := range []string{"", "ta", "pi", "na", "tata", "napiti", "tatatata", "ninini", "pinata"} {
		if !impl.IsPerfect(s) {
			t.Errorf("IsPerfect(%q) = false", s)
		}
	}
	for _, s := range []string{"a", "t", "n", "da", "bi", "tad", "tat", "tan", "at", "ata", "tai", "tia", "tta", "nta", "tanta", "tanda", "tadata", "tatatatd", "atatata"} {
		if impl.IsPerfect(s) {
			t.Errorf("IsPerfect(%q) = true", s)
		}
	}
	perfect := regexp.MustCompile("^([ptn][ai])*$")
	for _, s := range append(markedForms(), stringsUpTo("pnai", 6)...) {
		marks := wantMarks(s)
		marks[4] = 0
		if got := impl.IsPerfect(s); got != perfect.MatchString(s) || got != (marks == [6]int{}) {
			t.Errorf("IsPerfect(%q) = %v, marks %v", s, got, marks)
		}
	}
}

func TestMarksOfNoForms(t *testing.T) {
	list := append(noForms(), "xa", "ax", "a a", "antatx", "ntntx", "bdbd ", "tadx", "xtad", "\x00a", "a\x00", "d\x00", "nt\x00", "\x00", "\x00\x00", "TA", "tata\n", "t\u00e1", "\xff")
	for _, s := range append(markedForms(), "aaaaaaaa", "ntntntnt", "bbbbbbbb") {
		// These have 9 sounds, though each part of them is a form.
		list = append(list, (s + "aiaiaiaia")[:9], (s + "ntbdntbdn")[:9], (s + "tatatatad")[:9])
	}
	list = append(list, strings.Repeat("a", 100), strings.Repeat("bd", 500), strings.Repeat("ta", 5), strings.Repeat("ant", 1000))
	for _, s := range list {
		if got := markCounts(s); got != [6]int{} {
			t.Errorf("the marks of %q are %v", s, got)
		}
		if impl.IsPerfect(s) {
			t.Errorf("IsPerfect(%q) = true", s)
		}
	}
}
