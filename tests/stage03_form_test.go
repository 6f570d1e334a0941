package tests

import (
	"math"
	"slices"
	"strings"
	"testing"

	"loop.example/g02080/impl"
)

// someForms returns all forms of up to 3 sounds and some of each longer length.
func someForms() []string {
	list := stringsUpTo("ptbdnai", 3)
	for _, word := range []string{"tadanaip", "bbbbbbbb", "aiaiaiai", "npnpttdb", "iaiiaapb"} {
		for n := 4; n <= 8; n++ {
			list = append(list, word[:n], word[8-n:])
		}
	}
	return list
}

// noForms returns strings that are no forms.
func noForms() []string {
	list := []string{"tatatatat", strings.Repeat("a", 9), strings.Repeat("ptb", 100), "kat", "tak", "P", "tA", "t a", " ", "a\n", "\u00e9", "a\u0131", "taxtatat", strings.Repeat("x", 8), strings.Repeat("x", 9)}
	for _, b := range []byte(allBytes()) {
		if strings.IndexByte("ptbdnai", b) >= 0 {
			continue
		}
		x := string([]byte{b})
		list = append(list, x)
		for i := range 8 {
			list = append(list, "tadanai"[:i]+x+"tadanai"[i:])
		}
	}
	return list
}

// changed returns s with the sounds from i to j replaced.
func changed(s string, i int, j int, sounds string) string {
	return s[:i] + sounds + s[j:]
}

// wantNeighbours follows the order of the document place by place.
func wantNeighbours(s string) []string {
	var all []string
	for i := 0; i <= len(s); i++ {
		for _, r := range "ptbdnai" {
			all = append(all, changed(s, i, i, string(r)))
			if i < len(s) {
				all = append(all, changed(s, i, i+1, string(r)))
			}
		}
		if i < len(s) {
			all = append(all, changed(s, i, i+1, ""))
		}
	}
	seen := map[string]bool{s: true}
	return slices.DeleteFunc(all, func(form string) bool {
		known := seen[form]
		seen[form] = true
		return known
	})
}

// wantDistance tries every way to spell the last sounds of a and b.
func wantDistance(a string, b string) int {
	if a == "" || b == "" {
		return len(a) + len(b)
	}
	shorterA, shorterB := a[:len(a)-1], b[:len(b)-1]
	change := wantDistance(shorterA, shorterB)
	if a[len(a)-1] == b[len(b)-1] {
		return change
	}
	return 1 + min(change, wantDistance(shorterA, b), wantDistance(a, shorterB))
}

func TestIsForm(t *testing.T) {
	if impl.MaxForm != 8 {
		t.Errorf("MaxForm = %d", impl.MaxForm)
	}
	for _, s := range someForms() {
		if !impl.IsForm(s) {
			t.Errorf("IsForm(%q) = false", s)
		}
	}
	for _, s := range noForms() {
		if impl.IsForm(s) {
			t.Errorf("IsForm(%q) = true", s)
		}
	}
	for n := range 40 {
		if got := impl.IsForm(strings.Repeat("n", n)); got != (n <= 8) {
			t.Errorf("IsForm of %d sounds = %v", n, got)
		}
	}
}

func TestIsVowelAt(t *testing.T) {
	list := []string{"", "a", "i", "t", "ta", "anti", "x", "xax", "A", "\u00e1a", allBytes(), strings.Repeat("kai", 100)}
	for _, s := range list {
		for i := range len(s) {
			if got, want := impl.IsVowelAt(s, i), s[i] == 'a' || s[i] == 'i'; got != want {
				t.Errorf("IsVowelAt(%q, %d) = %v", s, i, got)
			}
		}
		for _, i := range []int{math.MinInt, -len(s), -2, -1, len(s), len(s) + 1, 2*len(s) + 1, math.MaxInt} {
			if impl.IsVowelAt(s, i) {
				t.Errorf("IsVowelAt(%q, %d) = true", s, i)
			}
		}
	}
}

func TestCountVowels(t *testing.T) {
	cases := map[string]int{
		"": 0, "a": 1, "i": 1, "t": 0, "taia": 3, "ptbdn": 0, "aiaiaiai": 8,
		"x": 0, "xaxix": 2, "AIEOU eou": 0, "\x00a\xff": 1, allBytes(): 2,
		"tatatatat": 4, strings.Repeat("kai", 1000): 2000,
	}
	for s, want := range cases {
		if got := impl.CountVowels(s); got != want {
			t.Errorf("CountVowels(%q) = %d, want %d", s, got, want)
		}
	}
}

func TestSkeletonOf(t *testing.T) {
	kinds := strings.NewReplacer("p", "C", "t", "C", "b", "C", "d", "C", "n", "C", "a", "V", "i", "V")
	for _, s := range someForms() {
		got := impl.SkeletonOf(s)
		if got != kinds.Replace(s) || strings.Count(got, "V") != impl.CountVowels(s) {
			t.Errorf("SkeletonOf(%q) = %q", s, got)
		}
	}
	for _, s := range noForms() {
		if got := impl.SkeletonOf(s); got != "" {
			t.Errorf("SkeletonOf(%q) = %q", s, got)
		}
	}
}

func TestFormsOf(t *testing.T) {
	for n, count := range []int{1, 7, 49, 343} {
		list := impl.FormsOf(n)
		if len(list) != count {
			t.Fatalf("FormsOf(%d) has %d forms", n, len(list))
		}
		for k, form := range list {
			// Read with the sounds as digits, the forms count up from 0.
			number := 0
			for i := range len(form) {
				number = 7*number + strings.IndexByte("ptbdnai", form[i])
			}
			if len(form) != n || number != k || !impl.IsForm(form) {
				t.Errorf("FormsOf(%d)[%d] = %q", n, k, form)
			}
		}
	}
	if got := impl.FormsOf(2)[:8]; !slices.Equal(got, []string{"pp", "pt", "pb", "pd", "pn", "pa", "pi", "tp"}) {
		t.Errorf("FormsOf(2) begins %q", got)
	}
	for _, n := range []int{math.MinInt, -4, -1, 4, 5, 8, 9, 100, math.MaxInt} {
		if got := impl.FormsOf(n); len(got) != 0 {
			t.Errorf("FormsOf(%d) has %d forms", n, len(got))
		}
	}
}

func TestNeighboursOf(t *testing.T) {
	if got := impl.NeighboursOf(""); !slices.Equal(got, []string{"p", "t", "b", "d", "n", "a", "i"}) {
		t.Errorf("NeighboursOf(\"\") = %q", got)
	}
	want := []string{
		"pa", "p", "ta", "t", "ba", "b", "da", "d", "na", "n", "aa", "ia", "i", "",
		"ap", "at", "ab", "ad", "an", "ai",
	}
	if got := impl.NeighboursOf("a"); !slices.Equal(got, want) {
		t.Errorf("NeighboursOf(\"a\") = %q", got)
	}
	for _, s := range someForms() {
		want := wantNeighbours(s)
		if len(s) == 8 {
			want = nil
		}
		if got := impl.NeighboursOf(s); !slices.Equal(got, want) {
			t.Errorf("NeighboursOf(%q) = %q, want %q", s, got, want)
		}
	}
	for _, s := range noForms() {
		if got := impl.NeighboursOf(s); len(got) != 0 {
			t.Errorf("NeighboursOf(%q) = %q", s, got)
		}
	}
}

func TestNeighboursAreThoseAtDistanceOne(t *testing.T) {
	small := stringsUpTo("ptbdnai", 3)
	for _, s := range stringsUpTo("ptbdnai", 2) {
		list := impl.NeighboursOf(s)
		for _, form := range small {
			if slices.Contains(list, form) != (impl.DistanceBetween(s, form) == 1) {
				t.Errorf("NeighboursOf(%q) and DistanceBetween disagree on %q", s, form)
			}
		}
	}
	for _, s := range someForms() {
		for _, form := range impl.NeighboursOf(s) {
			if impl.DistanceBetween(s, form) != 1 || !impl.IsForm(form) {
				t.Errorf("NeighboursOf(%q) has %q at distance %d", s, form, impl.DistanceBetween(s, form))
			}
			if len(form) < 8 && !slices.Contains(impl.NeighboursOf(form), s) {
				t.Errorf("%q is a neighbour of %q, but not the other way", form, s)
			}
		}
	}
}

func TestFormListsAreNewMemory(t *testing.T) {
	impl.FormsOf(2)[0] = "x"
	impl.FormsOf(0)[0] = "x"
	impl.NeighboursOf("t")[0] = "x"
	if impl.FormsOf(2)[0] != "pp" || impl.FormsOf(0)[0] != "" || impl.NeighboursOf("t")[0] != "pt" {
		t.Error("a result changed after an earlier one was changed")
	}
}

func TestDistanceBetween(t *testing.T) {
	cases := []struct {
		a, b string
		want int
	}{
		{"", "", 0}, {"", "tadanaip", 8}, {"tada", "ta", 2}, {"tada", "data", 2}, {"tada", "adat", 2},
		{"tadanaip", "tadanaip", 0}, {"tadanaip", "adanaipt", 2}, {"pppppppp", "tttttttt", 8},
		{"pa", "ap", 2}, {"pat", "tap", 2}, {"anta", "nt", 2}, {"bin", "dia", 2}, {"p", "i", 1},
	}
	for _, c := range cases {
		if got := impl.DistanceBetween(c.a, c.b); got != c.want {
			t.Errorf("DistanceBetween(%q, %q) = %d, want %d", c.a, c.b, got, c.want)
		}
	}
	list := slices.Concat(stringsUpTo("tna", 3), stringsUpTo("ai", 4), []string{"tadanai", "iananda", "pppat"})
	for _, a := range list {
		for _, b := range list {
			got := impl.DistanceBetween(a, b)
			if got != wantDistance(a, b) {
				t.Errorf("DistanceBetween(%q, %q) = %d, want %d", a, b, got, wantDistance(a, b))
			}
			if impl.DistanceBetween(impl.ReverseForm(a), impl.ReverseForm(b)) != got {
				t.Errorf("DistanceBetween(%q, %q) changes when both are reversed", a, b)
			}
		}
	}
}

func TestDistancesAreTheSameBothWays(t *testing.T) {
	list := someForms()
	for _, a := range list {
		for _, b := range list {
			there, back := impl.DistanceBetween(a, b), impl.DistanceBetween(b, a)
			if there != back || (there == 0) != (a == b) || there < max(len(a)-len(b), len(b)-len(a)) || there > max(len(a), len(b)) {
				t.Errorf("DistanceBetween(%q, %q) = %d, back %d", a, b, there, back)
			}
		}
	}
}

// TestDistancesAreStepsOfNeighbours walks from each form to all that it reaches in two steps.
func TestDistancesAreStepsOfNeighbours(t *testing.T) {
	for _, s := range []string{"", "t", "an", "tad", "nnnnn", "tadana"} {
		steps := map[string]int{s: 0}
		front := []string{s}
		for step := 1; step <= 2; step++ {
			var next []string
			for _, form := range front {
				for _, near := range impl.NeighboursOf(form) {
					if _, known := steps[near]; !known {
						steps[near] = step
						next = append(next, near)
					}
				}
			}
			front = next
		}
		for form, want := range steps {
			if got := impl.DistanceBetween(s, form); got != want {
				t.Errorf("DistanceBetween(%q, %q) = %d, but it takes %d steps", s, form, got, want)
			}
		}
	}
}

func TestDistanceInvalid(t *testing.T) {
	for _, s := range noForms() {
		for _, other := range []string{"", "ta", "tadanaip", s, "x"} {
			if got := impl.DistanceBetween(s, other); got != -1 {
				t.Errorf("DistanceBetween(%q, %q) = %d", s, other, got)
			}
			if got := impl.DistanceBetween(other, s); got != -1 {
				t.Errorf("DistanceBetween(%q, %q) = %d", other, s, got)
			}
		}
	}
}

func TestReverseForm(t *testing.T) {
	cases := map[string]string{
		"": "", "p": "p", "pa": "ap", "pat": "tap", "tadanaip": "pianadat", "tatatatat": "tatatatat",
		"xyz": "zyx", "\x00\xff": "\xff\x00", "a\u00e9": "\xa9\xc3a", "abcdefghijkl": "lkjihgfedcba",
	}
	for s, want := range cases {
		if got := impl.ReverseForm(s); got != want {
			t.Errorf("ReverseForm(%q) = %q, want %q", s, got, want)
		}
	}
	for _, s := range append(someForms(), allBytes(), strings.Repeat("pta", 1000), "\u00e9\u0131") {
		back := impl.ReverseForm(s)
		for i := range len(s) {
			if len(back) != len(s) || back[len(s)-1-i] != s[i] {
				t.Fatalf("ReverseForm(%q) = %q", s, back)
			}
		}
		if impl.ReverseForm(back) != s {
			t.Errorf("ReverseForm(ReverseForm(%q)) = %q", s, impl.ReverseForm(back))
		}
	}
}
