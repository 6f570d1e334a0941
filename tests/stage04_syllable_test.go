package tests

import (
	"regexp"
	"slices"
	"strings"
	"testing"

	"loop.example/g02080/impl"
)

// wantSyllables cuts the syllables off a form from its end.
func wantSyllables(s string) []impl.Syllable {
	vowel := strings.LastIndexAny(s, "ai")
	if vowel < 0 {
		return nil
	}
	from := 0
	if strings.ContainsAny(s[:vowel], "ai") {
		from = vowel
		if strings.IndexByte("ptbdn", s[vowel-1]) >= 0 {
			from--
		}
	}
	last := impl.Syllable{Onset: s[from:vowel], Nucleus: s[vowel : vowel+1], Coda: s[vowel+1:]}
	return append(wantSyllables(s[:from]), last)
}

// vowelShapes returns forms of every pattern of consonants and vowels.
func vowelShapes() []string {
	list := stringsUpTo("ta", 8)
	return append(list, stringsUpTo("nia", 5)...)
}

// anySyllables returns syllables of which most are in no form.
func anySyllables() []impl.Syllable {
	var list []impl.Syllable
	parts := []string{"", "t", "pt", "a", "ai", "x", ".", "\x00\xff", strings.Repeat("tan", 50)}
	for _, onset := range parts {
		for _, nucleus := range parts {
			for _, coda := range parts {
				list = append(list, impl.Syllable{Onset: onset, Nucleus: nucleus, Coda: coda})
			}
		}
	}
	return list
}

func TestSyllablesOfExamples(t *testing.T) {
	cases := map[string]string{
		"a": "a", "ta": "ta", "an": "an", "tan": "tan", "tada": "ta.da", "antatt": "an.tatt",
		"ai": "a.i", "ptaia": "pta.i.a", "ptbdnaip": "ptbdna.ip", "aptbdnip": "aptbd.nip",
		"aptbdnpt": "aptbdnpt", "aiaiaiai": "a.i.a.i.a.i.a.i", "tatitani": "ta.ti.ta.ni",
		"anna": "an.na", "ana": "a.na", "antna": "ant.na", "nnnnnnni": "nnnnnnni", "innnnnnn": "innnnnnn",
	}
	for s, want := range cases {
		if got := impl.FormatSyllables(impl.SyllablesOf(s)); got != want {
			t.Errorf("the syllables of %q are %q, want %q", s, got, want)
		}
	}
	got := impl.SyllablesOf("ptantpai")
	want := []impl.Syllable{{Onset: "pt", Nucleus: "a", Coda: "nt"}, {Onset: "p", Nucleus: "a"}, {Nucleus: "i"}}
	if !slices.Equal(got, want) {
		t.Errorf("SyllablesOf(\"ptantpai\") = %q", got)
	}
}

func TestSyllablesOf(t *testing.T) {
	for _, s := range slices.Concat(someForms(), vowelShapes()) {
		if got, want := impl.SyllablesOf(s), wantSyllables(s); !slices.Equal(got, want) {
			t.Errorf("SyllablesOf(%q) = %q, want %q", s, got, want)
		}
	}
}

func TestSyllablesMakeUpTheForm(t *testing.T) {
	consonants := regexp.MustCompile("^[ptbdn]*$")
	for _, s := range slices.Concat(someForms(), vowelShapes()) {
		l := impl.SyllablesOf(s)
		if len(l) != impl.CountVowels(s) || impl.CountSyllables(s) != len(l) {
			t.Errorf("%q has %d syllables, CountSyllables = %d", s, len(l), impl.CountSyllables(s))
		}
		if len(l) > 0 && (impl.JoinSyllables(l) != s || strings.ReplaceAll(impl.FormatSyllables(l), ".", "") != s) {
			t.Errorf("the syllables of %q make up %q and %q", s, impl.JoinSyllables(l), impl.FormatSyllables(l))
		}
		for i, x := range l {
			if x.Nucleus != "a" && x.Nucleus != "i" || !consonants.MatchString(x.Onset+x.Coda) {
				t.Errorf("SyllablesOf(%q)[%d] = %q", s, i, x)
			}
			if i > 0 && (len(x.Onset) > 1 || x.Onset == "" && l[i-1].Coda != "") {
				t.Errorf("SyllablesOf(%q)[%d] = %q after %q", s, i, x, l[i-1])
			}
		}
	}
}

func TestFormsWithoutVowels(t *testing.T) {
	for _, s := range append(stringsUpTo("ptbdn", 3), "ptn", "tttt", "ptbdnptb", "nnnnnnnn") {
		l := impl.SyllablesOf(s)
		if len(l) != 0 || impl.CountSyllables(s) != 0 || impl.IsRegular(s) {
			t.Errorf("%q has syllables %q, count %d, regular %v", s, l, impl.CountSyllables(s), impl.IsRegular(s))
		}
		if impl.JoinSyllables(l) != "" || impl.FormatSyllables(l) != "" {
			t.Errorf("no syllables make up %q and %q", impl.JoinSyllables(l), impl.FormatSyllables(l))
		}
	}
}

func TestSyllablesOfInvalid(t *testing.T) {
	list := append(noForms(), "a.ta", "ta ", "TA", "tadanaita", "aiaiaiaia", "tantantan", "\xffa", "tax")
	for _, s := range list {
		if got := impl.SyllablesOf(s); len(got) != 0 {
			t.Errorf("SyllablesOf(%q) = %q", s, got)
		}
		if got := impl.CountSyllables(s); got != 0 {
			t.Errorf("CountSyllables(%q) = %d", s, got)
		}
		if impl.IsRegular(s) {
			t.Errorf("IsRegular(%q) = true", s)
		}
	}
}

func TestJoinAndFormatSyllables(t *testing.T) {
	if got := impl.JoinSyllables(nil) + impl.FormatSyllables(nil) + impl.JoinSyllables([]impl.Syllable{}); got != "" {
		t.Errorf("no syllables make up %q", got)
	}
	empty := make([]impl.Syllable, 3)
	if impl.JoinSyllables(empty) != "" || impl.FormatSyllables(empty) != ".." || impl.FormatSyllables(empty[:1]) != "" {
		t.Errorf("empty syllables make up %q and %q", impl.JoinSyllables(empty), impl.FormatSyllables(empty))
	}
	l := []impl.Syllable{{Onset: "x.", Nucleus: "ai", Coda: "\xff"}, {Coda: "pt"}, {}, {Onset: "t", Nucleus: "a", Coda: "n"}}
	if impl.JoinSyllables(l) != "x.ai\xffpttan" || impl.FormatSyllables(l) != "x.ai\xff.pt..tan" {
		t.Errorf("%q make up %q and %q", l, impl.JoinSyllables(l), impl.FormatSyllables(l))
	}
	all := anySyllables()
	join, format := "", ""
	for _, x := range all {
		text := x.Onset + x.Nucleus + x.Coda
		join += text
		format += "." + text
		if one := []impl.Syllable{x}; impl.JoinSyllables(one) != text || impl.FormatSyllables(one) != text {
			t.Errorf("%q alone makes up %q and %q", x, impl.JoinSyllables(one), impl.FormatSyllables(one))
		}
	}
	if impl.JoinSyllables(all) != join || impl.FormatSyllables(all) != format[1:] {
		t.Error("many syllables make up another string")
	}
}

func TestIsOpenAndWeightOf(t *testing.T) {
	for _, x := range anySyllables() {
		if got := impl.IsOpen(x); got != (x.Coda == "") {
			t.Errorf("IsOpen(%q) = %v", x, got)
		}
		want := 2
		if x.Coda == "" {
			want = 1
		}
		if x.Nucleus == "" {
			want = 0
		}
		if got := impl.WeightOf(x); got != want {
			t.Errorf("WeightOf(%q) = %d, want %d", x, got, want)
		}
	}
}

func TestIsRegular(t *testing.T) {
	for _, s := range []string{"ta", "tan", "tada", "tadan", "tanda", "tantin", "dindan"} {
		if !impl.IsRegular(s) {
			t.Errorf("IsRegular(%q) = false", s)
		}
	}
	for _, s := range []string{"", "a", "t", "an", "anta", "pta", "tann", "tantta", "tai", "taana", "ptadan", "tadann", "tatannta"} {
		if impl.IsRegular(s) {
			t.Errorf("IsRegular(%q) = true", s)
		}
	}
	regular := regexp.MustCompile("^([ptbdn][ai][ptbdn]?)+$")
	for _, s := range slices.Concat(someForms(), vowelShapes()) {
		if got := impl.IsRegular(s); got != regular.MatchString(s) {
			t.Errorf("IsRegular(%q) = %v", s, got)
		}
	}
}

func TestSyllablesAreNewMemory(t *testing.T) {
	first := impl.SyllablesOf("tada")
	first[0] = impl.Syllable{}
	l := impl.SyllablesOf("tada")
	if impl.FormatSyllables(l) != "ta.da" {
		t.Error("a result changed after an earlier one was changed")
	}
	before := slices.Clone(l)
	if impl.JoinSyllables(l[:1])+impl.FormatSyllables(l[:1]) != "tata" || !slices.Equal(l, before) {
		t.Error("an argument was changed")
	}
}
