package tests

import (
	"math/rand"
	"regexp"
	"slices"
	"strings"
	"testing"

	"loop.example/g02080/impl"
)

// linkTexts returns the formats of all links that candidates may have.
func linkTexts() []string {
	return strings.Split("p t b d n a i -p -t -b -d -n -a -i +p +t +b +d +n +a +i *p *t *b *d", " ")
}

// linkFor returns the link with a format.
func linkFor(text string) impl.Link {
	sound := text[len(text)-1]
	switch text[0] {
	case '-':
		return impl.Link{In: sound}
	case '+':
		return impl.Link{Out: sound}
	case '*':
		return impl.Link{In: sound, Out: map[byte]byte{'p': 'b', 'b': 'p', 't': 'd', 'd': 't'}[sound]}
	}
	return impl.Link{In: sound, Out: sound}
}

// candidateFor returns the candidate with links of these formats.
func candidateFor(texts ...string) impl.Candidate {
	var c impl.Candidate
	for _, text := range texts {
		c.Links = append(c.Links, linkFor(text))
	}
	return c
}

// repeated returns the candidate with the links of each text so many times.
func repeated(times ...any) impl.Candidate {
	var c impl.Candidate
	for i := 0; i < len(times); i += 2 {
		for range times[i].(int) {
			c.Links = append(c.Links, linkFor(times[i+1].(string)))
		}
	}
	return c
}

// wantSides returns the input and the output of links of these formats.
func wantSides(texts []string) (string, string) {
	all := strings.Join(texts, "")
	in := regexp.MustCompile(`\+.|[*-]`).ReplaceAllString(all, "")
	changed := strings.NewReplacer("*p", "b", "*b", "p", "*t", "d", "*d", "t").Replace(all)
	return in, regexp.MustCompile(`-.|\+`).ReplaceAllString(changed, "")
}

// linkTextLists returns lists of formats of links that make up candidates.
func linkTextLists() [][]string {
	list := [][]string{{}}
	for _, x := range linkTexts() {
		list = append(list, []string{x})
		for _, y := range linkTexts() {
			list = append(list, []string{x, y})
			for _, z := range linkTexts() {
				list = append(list, []string{x, y, z})
			}
		}
	}
	r := rand.New(rand.NewSource(6))
	for range 2000 {
		texts := make([]string, r.Intn(17))
		for i := range texts {
			texts[i] = linkTexts()[r.Intn(len(linkTexts()))]
		}
		if in, out := wantSides(texts); len(in) <= 8 && len(out) <= 8 {
			list = append(list, texts)
		}
	}
	return list
}

// noLinks returns all links that no candidate may have.
func noLinks() []impl.Link {
	valid := map[impl.Link]bool{}
	for _, text := range linkTexts() {
		valid[linkFor(text)] = true
	}
	var list []impl.Link
	for in := range 256 {
		for out := range 256 {
			if x := (impl.Link{In: byte(in), Out: byte(out)}); !valid[x] {
				list = append(list, x)
			}
		}
	}
	return list
}

// longestCandidates returns candidates with an input or an output of 8 sounds.
func longestCandidates() []impl.Candidate {
	return []impl.Candidate{
		repeated(8, "t"), repeated(8, "*d"), repeated(8, "-a"), repeated(8, "+i"), repeated(8, "-n", 8, "+p"), repeated(8, "+p", 8, "-n"),
		repeated(7, "t", 1, "-a"), repeated(7, "t", 1, "+a"), repeated(7, "t", 1, "-a", 1, "+i"), repeated(4, "*b", 4, "+i", 4, "-a"),
		repeated(1, "t", 7, "+t", 7, "-t"), repeated(7, "-t", 1, "n", 7, "+t"), repeated(4, "a", 4, "*p"), repeated(3, "+a", 5, "d"),
	}
}

// noCandidates returns candidates of which none is valid.
func noCandidates() []impl.Candidate {
	list := []impl.Candidate{
		repeated(9, "t"), repeated(9, "*d"), repeated(9, "-a"), repeated(9, "+i"), repeated(9, "-n", 8, "+p"), repeated(8, "-n", 9, "+p"),
		repeated(8, "t", 1, "-a"), repeated(8, "t", 1, "+a"), repeated(1, "+a", 8, "t"), repeated(1, "-a", 8, "t"), repeated(1, "*t", 8, "+t"),
		repeated(7, "t", 1, "*d", 1, "+i"), repeated(4, "b", 5, "*b"), repeated(5, "+b", 4, "*b"), repeated(5, "-b", 4, "i"),
		repeated(8, "-t", 8, "+t", 1, "a"), repeated(16, "a"), repeated(16, "-a"), repeated(16, "+a"), repeated(17, "a"), repeated(500, "-a", 500, "+i"),
		{Links: make([]impl.Link, 1)}, {Links: make([]impl.Link, 16)}, {Links: make([]impl.Link, 17)}, {Links: make([]impl.Link, 1000)},
	}
	for _, x := range noLinks() {
		list = append(list, impl.Candidate{Links: []impl.Link{x}})
	}
	for _, x := range []impl.Link{{}, {In: 'x'}, {Out: 'x'}, {In: 't', Out: 'p'}, {In: 'n', Out: 'd'}, {In: 'a', Out: 'i'}, {In: 't', Out: 'x'}, {In: '+', Out: 't'}} {
		for i := range 4 {
			c := candidateFor("t", "-a", "+i")
			c.Links = slices.Insert(c.Links, i, x)
			list = append(list, c)
		}
	}
	return list
}

func TestCandidateExamples(t *testing.T) {
	if impl.MaxEdits != 2 {
		t.Errorf("MaxEdits = %d", impl.MaxEdits)
	}
	cases := []struct {
		c             impl.Candidate
		text, in, out string
		edits         int
	}{
		{impl.Candidate{}, "none", "", "", 0},
		{candidateFor("t", "a"), "ta", "ta", "ta", 0},
		{candidateFor("*t", "a", "-d", "+i"), "*ta-d+i", "tad", "dai", 3},
		{candidateFor("*b", "*p", "*d", "*t"), "*b*p*d*t", "bpdt", "pbtd", 4},
		{candidateFor("+t", "-t"), "+t-t", "t", "t", 2},
		{candidateFor("-t", "+t"), "-t+t", "t", "t", 2},
		{candidateFor("t", "+i", "-i", "a"), "t+i-ia", "tia", "tia", 2},
		{candidateFor("+p", "-b"), "+p-b", "b", "p", 2},
		{candidateFor("+t", "+t", "-t", "-t"), "+t+t-t-t", "tt", "tt", 4},
		{candidateFor("-n"), "-n", "n", "", 1},
		{candidateFor("+n"), "+n", "", "n", 1},
	}
	for _, x := range cases {
		if !impl.IsCandidate(x.c) {
			t.Errorf("%v is no candidate", x.c)
		}
		if got := impl.FormatCandidate(x.c); got != x.text {
			t.Errorf("FormatCandidate(%v) = %q, want %q", x.c, got, x.text)
		}
		if c, ok := impl.ParseCandidate(x.text); !ok || !slices.Equal(c.Links, x.c.Links) {
			t.Errorf("ParseCandidate(%q) = %v, %v", x.text, c, ok)
		}
		if in, out := impl.InputOf(x.c), impl.OutputOf(x.c); in != x.in || out != x.out {
			t.Errorf("%v leads from %q to %q, want %q and %q", x.c, in, out, x.in, x.out)
		}
		if got := impl.CountEdits(x.c); got != x.edits {
			t.Errorf("CountEdits(%v) = %d, want %d", x.c, got, x.edits)
		}
	}
}

func TestCandidates(t *testing.T) {
	for _, texts := range linkTextLists() {
		c := candidateFor(texts...)
		text := strings.Join(texts, "")
		edits := strings.Count(text, "+") + strings.Count(text, "-") + strings.Count(text, "*")
		if text == "" {
			text = "none"
		}
		if !impl.IsCandidate(c) {
			t.Errorf("%v is no candidate", c)
		}
		in, out := wantSides(texts)
		if gotIn, gotOut := impl.InputOf(c), impl.OutputOf(c); gotIn != in || gotOut != out {
			t.Errorf("%v leads from %q to %q, want %q and %q", texts, gotIn, gotOut, in, out)
		}
		if got := impl.FormatCandidate(c); got != text {
			t.Errorf("FormatCandidate(%v) = %q, want %q", c, got, text)
		}
		if got, ok := impl.ParseCandidate(text); !ok || !slices.Equal(got.Links, c.Links) {
			t.Errorf("ParseCandidate(%q) = %v, %v", text, got, ok)
		}
		if got := impl.CountEdits(c); got != edits {
			t.Errorf("CountEdits(%v) = %d, want %d", c, got, edits)
		}
	}
}

func TestLongestCandidates(t *testing.T) {
	for _, c := range longestCandidates() {
		text := impl.FormatCandidate(c)
		if !impl.IsCandidate(c) || text == "" || len(impl.InputOf(c)) != 8 && len(impl.OutputOf(c)) != 8 {
			t.Errorf("%v has the format %q", c, text)
		}
		if got, ok := impl.ParseCandidate(text); !ok || !slices.Equal(got.Links, c.Links) {
			t.Errorf("ParseCandidate(%q) = %v, %v", text, got, ok)
		}
	}
	all := repeated(8, "-n", 8, "+p")
	if in, out := impl.InputOf(all), impl.OutputOf(all); in != "nnnnnnnn" || out != "pppppppp" || impl.CountEdits(all) != 16 {
		t.Errorf("8 sounds taken away and 8 put in lead from %q to %q", in, out)
	}
	if got, want := impl.FormatCandidate(all), strings.Repeat("-n", 8)+strings.Repeat("+p", 8); got != want {
		t.Errorf("FormatCandidate(%v) = %q, want %q", all, got, want)
	}
}

func TestNoCandidates(t *testing.T) {
	for _, c := range noCandidates() {
		if impl.IsCandidate(c) {
			t.Errorf("%v is a candidate", c)
		}
		if in, out, text := impl.InputOf(c), impl.OutputOf(c), impl.FormatCandidate(c); in != "" || out != "" || text != "" {
			t.Errorf("%v leads from %q to %q with the format %q", c, in, out, text)
		}
		edits := 0
		for _, x := range c.Links {
			if x.In != x.Out {
				edits++
			}
		}
		if got := impl.CountEdits(c); got != edits {
			t.Errorf("CountEdits(%v) = %d, want %d", c, got, edits)
		}
	}
}

func TestFaithfulCandidate(t *testing.T) {
	for _, s := range someForms() {
		c, ok := impl.FaithfulCandidate(s)
		if want := candidateFor(strings.Split(s, "")...); !ok || !slices.Equal(c.Links, want.Links) {
			t.Errorf("FaithfulCandidate(%q) = %v, %v", s, c, ok)
		}
		if in, out := impl.InputOf(c), impl.OutputOf(c); in != s || out != s || impl.CountEdits(c) != 0 {
			t.Errorf("the faithful candidate of %q leads from %q to %q", s, in, out)
		}
	}
	for _, s := range append(noForms(), "none", "+t", "-t", "*t", strings.Repeat("ta", 8), strings.Repeat("ta", 9)) {
		if c, ok := impl.FaithfulCandidate(s); ok || len(c.Links) != 0 {
			t.Errorf("FaithfulCandidate(%q) = %v, %v", s, c, ok)
		}
	}
}

// isCandidateText decides by a pattern whether s is the format of a candidate.
func isCandidateText(s string) bool {
	if !regexp.MustCompile(`\A(?:[ptbdnai]|[+-][ptbdnai]|\*[ptbd])+\z`).MatchString(s) {
		return s == "none"
	}
	in, out := wantSides([]string{s})
	return len(in) <= 8 && len(out) <= 8
}

// candidateTexts returns formats of candidates and strings that are close to them.
func candidateTexts() []string {
	list := stringsUpTo("tan+-*x", 4)
	for _, s := range []string{"*ta-d+i", "none", "+t-t", "tadanaip", strings.Repeat("-t", 8) + strings.Repeat("+t", 8)} {
		for i := range len(s) + 1 {
			list = append(list, s[:i], s[i:], s[:i]+s)
			for _, b := range []byte(allBytes()) {
				x := string([]byte{b})
				list = append(list, s[:i]+x+s[i:])
				if i < len(s) {
					list = append(list, s[:i]+x+s[i+1:])
				}
			}
		}
	}
	return append(list, "None", "NONE", "none ", " none", "nonenone", "none+t", "+tnone", "no", "ne", "none\n", "ta\n", "ta ", "t,a", "t a",
		"++t", "--t", "**t", "+-t", "-+t", "+*t", "*+t", "-*t", "*-t", "t+", "t-", "t*", "*a", "*i", "*n", "*", "+", "-", "\u207at", "+\x00", "-\x00", "\x00",
		strings.Repeat("t", 16), strings.Repeat("t", 17), strings.Repeat("-t", 9), strings.Repeat("+t", 9), strings.Repeat("*t", 9), strings.Repeat("*t", 8),
		strings.Repeat("-t+t", 8), strings.Repeat("+t-t", 8), strings.Repeat("-t+t", 9), strings.Repeat("t", 100000), strings.Repeat("+", 100000), strings.Repeat("x", 100000))
}

func TestParseCandidate(t *testing.T) {
	valid := 0
	for _, s := range candidateTexts() {
		c, ok := impl.ParseCandidate(s)
		if ok != isCandidateText(s) {
			t.Errorf("ParseCandidate(%q) = %v, %v", s, c, ok)
		}
		if !ok && len(c.Links) != 0 {
			t.Errorf("ParseCandidate(%q) is false with %v", s, c)
		}
		if ok && (!impl.IsCandidate(c) || impl.FormatCandidate(c) != s) {
			t.Errorf("ParseCandidate(%q) = %v", s, c)
		}
		if ok {
			valid++
		}
	}
	if valid < 500 {
		t.Errorf("only %d formats are valid", valid)
	}
}

func TestDifferentCandidatesHaveDifferentFormats(t *testing.T) {
	seen := map[string]bool{}
	for _, texts := range linkTextLists()[:1+25+25*25+25*25*25] {
		text := impl.FormatCandidate(candidateFor(texts...))
		if seen[text] {
			t.Errorf("two candidates have the format %q", text)
		}
		seen[text] = true
	}
}

func TestEqualCandidates(t *testing.T) {
	list := slices.Concat(longestCandidates(), noCandidates()[:60])
	for _, texts := range linkTextLists()[:200] {
		list = append(list, candidateFor(texts...))
	}
	for _, a := range list {
		for _, b := range list {
			if got, want := impl.EqualCandidates(a, b), slices.Equal(a.Links, b.Links); got != want {
				t.Errorf("EqualCandidates(%v, %v) = %v", a, b, got)
			}
		}
		if !impl.EqualCandidates(a, impl.Candidate{Links: slices.Clone(a.Links)}) {
			t.Errorf("%v is not equal to its copy", a)
		}
	}
	if !impl.EqualCandidates(impl.Candidate{Links: []impl.Link{}}, impl.Candidate{}) {
		t.Error("no links are not equal to no links")
	}
	if impl.EqualCandidates(candidateFor("+t", "-t"), candidateFor("-t", "+t")) || impl.EqualCandidates(candidateFor("t"), candidateFor("t", "a")) {
		t.Error("candidates with different links are equal")
	}
}

func TestCandidatesShareNoMemory(t *testing.T) {
	for _, s := range []string{"", "t", "ta", "tadanaip"} {
		text := s
		if s == "" {
			text = "none"
		}
		a, _ := impl.FaithfulCandidate(s)
		b, _ := impl.ParseCandidate(text)
		for _, c := range []impl.Candidate{a, b} {
			links := c.Links[:cap(c.Links)]
			for i := range links {
				links[i] = impl.Link{In: 'x', Out: 'y'}
			}
			x, _ := impl.FaithfulCandidate(s)
			y, _ := impl.ParseCandidate(text)
			if impl.OutputOf(x) != s || impl.OutputOf(y) != s || len(c.Links) != len(x.Links) {
				t.Errorf("candidates of %q share memory", s)
			}
		}
	}
}

func TestCandidatesAreNotChanged(t *testing.T) {
	list := slices.Concat(longestCandidates(), noCandidates()[:60])
	for _, texts := range linkTextLists()[:700] {
		list = append(list, candidateFor(texts...))
	}
	for _, c := range list {
		room := append(slices.Clone(c.Links), linkFor("+t"), linkFor("-a"))
		before := slices.Clone(room)
		d := impl.Candidate{Links: room[:len(c.Links)]}
		impl.IsCandidate(d)
		impl.InputOf(d)
		impl.OutputOf(d)
		impl.CountEdits(d)
		impl.FormatCandidate(d)
		impl.EqualCandidates(d, d)
		if !slices.Equal(room, before) {
			t.Fatalf("the links %v were changed to %v", before, room)
		}
	}
}
