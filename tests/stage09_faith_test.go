package tests

import (
	"math/rand"
	"regexp"
	"slices"
	"strings"
	"testing"

	"loop.example/g02080/impl"
)

// faithCounts returns the four counts in the order of the document.
func faithCounts(c impl.Candidate) [4]int {
	return [4]int{impl.CountDeleted(c), impl.CountInserted(c), impl.CountVoiceChanged(c), impl.CountBreaks(c)}
}

// wantFaith counts the edits by the signs in the format of a candidate, and the
// breaks without those at both ends.
func wantFaith(text string) [4]int {
	inside := regexp.MustCompile(`\A([+-].)+`).ReplaceAllString(text, "")
	inside = regexp.MustCompile(`([+-].)+\z`).ReplaceAllString(inside, "")
	breaks := strings.Count(inside, "-") + strings.Count(inside, "+")
	return [4]int{strings.Count(text, "-"), strings.Count(text, "+"), strings.Count(text, "*"), breaks}
}

// linksIn splits the format of a candidate into the formats of its links.
func linksIn(text string) []string {
	if text == "none" {
		return nil
	}
	return regexp.MustCompile(`[+*-]?.`).FindAllString(text, -1)
}

func TestFaithExamples(t *testing.T) {
	cases := []struct {
		text string
		want [4]int
	}{
		{"none", [4]int{}},
		{"t", [4]int{}},
		{"tadanaip", [4]int{}},
		{"-n", [4]int{1, 0, 0, 0}},
		{"+n", [4]int{0, 1, 0, 0}},
		{"*b", [4]int{0, 0, 1, 0}},
		{"*b*p*d*t", [4]int{0, 0, 4, 0}},
		{"*t-a+id", [4]int{1, 1, 1, 2}},
		{"*ta-d+i", [4]int{1, 1, 1, 0}},
		{"t-at", [4]int{1, 0, 0, 1}},
		{"t+at", [4]int{0, 1, 0, 1}},
		{"t*pt", [4]int{0, 0, 1, 0}},
		{"*t+a*d", [4]int{0, 1, 2, 1}},
		{"t-a*d+it", [4]int{1, 1, 1, 2}},
		{"tad-a-n-ap", [4]int{3, 0, 0, 3}},
		{"t-d+d+i-aa", [4]int{2, 2, 0, 4}},
		{"t-pa-b-di", [4]int{3, 0, 0, 3}},
		{"-t+t-t+t", [4]int{2, 2, 0, 0}},
		{strings.Repeat("-n", 8) + strings.Repeat("+p", 8), [4]int{8, 8, 0, 0}},
		{"t" + strings.Repeat("-n", 6) + strings.Repeat("+p", 6) + "a", [4]int{6, 6, 0, 12}},
		{strings.Repeat("*d", 8), [4]int{0, 0, 8, 0}},
	}
	for _, x := range cases {
		c := candidateFor(linksIn(x.text)...)
		if got := faithCounts(c); got != x.want {
			t.Errorf("the counts of %s are %v, want %v", x.text, got, x.want)
		}
		if got := impl.IsFaithful(c); got != !strings.ContainsAny(x.text, "+-*") {
			t.Errorf("IsFaithful(%s) = %v", x.text, got)
		}
	}
}

func TestBreaksWithEditsAtBothEnds(t *testing.T) {
	cases := []struct {
		text string
		want [4]int
	}{
		{"-tad+i", [4]int{1, 1, 0, 0}},
		{"+tad-i", [4]int{1, 1, 0, 0}},
		{"-t-ada-n-i", [4]int{4, 0, 0, 0}},
		{"+t+ada+n+i", [4]int{0, 4, 0, 0}},
		{"-ta-t", [4]int{2, 0, 0, 0}},
		{"+t*b+t", [4]int{0, 2, 1, 0}},
		{"*tan*d", [4]int{0, 0, 2, 0}},
		{"-t+i*da*t+i-n", [4]int{2, 2, 2, 0}},
		{"-ta+ia-t", [4]int{2, 1, 0, 1}},
		{"+n*d-a+pa-i*b-d+t", [4]int{3, 3, 2, 3}},
		{"-t+i", [4]int{1, 1, 0, 0}},
		{"+t-t-a", [4]int{2, 1, 0, 0}},
	}
	for _, x := range cases {
		if got := faithCounts(candidateFor(linksIn(x.text)...)); got != x.want {
			t.Errorf("the counts of %s are %v, want %v", x.text, got, x.want)
		}
	}
	ends := [][]string{nil, {"-t"}, {"+i"}, {"-n", "+a"}, {"+a", "-n"}, {"-d", "-d"}, {"+d", "+t"}}
	for _, texts := range linkTextLists()[:1+25+25*25] {
		inside := wantFaith(strings.Join(texts, ""))
		for _, before := range ends {
			for _, behind := range ends {
				all := slices.Concat(before, texts, behind)
				signs := strings.Join(slices.Concat(before, behind), "")
				want := inside
				want[0] += strings.Count(signs, "-")
				want[1] += strings.Count(signs, "+")
				if got := faithCounts(candidateFor(all...)); got != want {
					t.Errorf("the counts of %s are %v, want %v", all, got, want)
				}
				if got := impl.IsFaithful(candidateFor(all...)); got != (editsIn(all) == 0) {
					t.Errorf("IsFaithful(%s) = %v", all, got)
				}
			}
		}
	}
}

func TestCountsAreThoseOfTheEdits(t *testing.T) {
	list := longestCandidates()
	for _, texts := range linkTextLists() {
		list = append(list, candidateFor(texts...))
	}
	for _, s := range []string{"", "t", "ban", "tdia"} {
		list = append(list, impl.Generate(s)...)
	}
	for _, c := range list {
		got := faithCounts(c)
		if want := wantFaith(impl.FormatCandidate(c)); got != want {
			t.Errorf("the counts of %v are %v, want %v", c, got, want)
		}
		edits := impl.CountEdits(c)
		if got[0]+got[1]+got[2] != edits || impl.IsFaithful(c) != (edits == 0) {
			t.Errorf("%v has %d edits with the counts %v, faithful %v", c, edits, got, impl.IsFaithful(c))
		}
		if len(impl.InputOf(c))-got[0] != len(impl.OutputOf(c))-got[1] {
			t.Errorf("%v leads from %q to %q with the counts %v", c, impl.InputOf(c), impl.OutputOf(c), got)
		}
	}
}

func TestIsFaithful(t *testing.T) {
	for _, s := range someForms() {
		c, _ := impl.FaithfulCandidate(s)
		if !impl.IsFaithful(c) || faithCounts(c) != [4]int{} {
			t.Errorf("the faithful candidate of %q has the counts %v", s, faithCounts(c))
		}
	}
	if !impl.IsFaithful(impl.Candidate{}) || !impl.IsFaithful(impl.Candidate{Links: []impl.Link{}}) {
		t.Error("no links are not faithful")
	}
	for _, text := range []string{"+t-t", "-t+t", "*t", "ta-i", "+ita"} {
		if impl.IsFaithful(candidateFor(linksIn(text)...)) {
			t.Errorf("IsFaithful(%s) = true", text)
		}
	}
}

// spoiledCandidates returns candidates that are not valid, though they have
// edits and breaks.
func spoiledCandidates() []impl.Candidate {
	list := append(noCandidates(), repeated(1, "t", 8, "-a", 1, "t"), repeated(1, "t", 8, "+a", 1, "t"), repeated(1, "*t", 9, "-a", 1, "*d"), repeated(9, "t", 8, "*d"))
	for _, x := range []impl.Link{{}, {In: 'x'}, {Out: 'x'}, {In: 'x', Out: 'x'}, {In: 't', Out: 'b'}, {In: 'a', Out: 'i'}} {
		for i := range 6 {
			c := candidateFor("t", "-a", "+i", "*d", "n")
			c.Links = slices.Insert(c.Links, i, x)
			list = append(list, c)
		}
	}
	return list
}

func TestFaithOfNoCandidates(t *testing.T) {
	for _, c := range spoiledCandidates() {
		if got := faithCounts(c); got != [4]int{} || impl.IsFaithful(c) {
			t.Errorf("the counts of %v are %v, faithful %v", c, got, impl.IsFaithful(c))
		}
	}
}

// wantComposed first takes b apart into what it puts in before each sound of its
// input and at the end, and what each sound becomes.
func wantComposed(a impl.Candidate, b impl.Candidate) impl.Candidate {
	putIn := [][]impl.Link{nil}
	var becomes []byte
	for _, x := range b.Links {
		if x.In == 0 {
			putIn[len(becomes)] = append(putIn[len(becomes)], x)
			continue
		}
		becomes = append(becomes, x.Out)
		putIn = append(putIn, nil)
	}
	var c impl.Candidate
	sounds := 0
	for _, x := range a.Links {
		if x.Out == 0 {
			c.Links = append(c.Links, x)
			continue
		}
		c.Links = append(c.Links, putIn[sounds]...)
		if x.In != 0 || becomes[sounds] != 0 {
			c.Links = append(c.Links, impl.Link{In: x.In, Out: becomes[sounds]})
		}
		sounds++
	}
	c.Links = append(c.Links, putIn[sounds]...)
	return c
}

// checkComposed tests one composition of candidates that fit together.
func checkComposed(t *testing.T, a impl.Candidate, b impl.Candidate) {
	t.Helper()
	c, ok := impl.ComposeCandidates(a, b)
	if want := wantComposed(a, b); !ok || !slices.Equal(c.Links, want.Links) {
		t.Errorf("%v and %v make %v, %v, want %v", a, b, c, ok, want)
	}
	if !impl.IsCandidate(c) || impl.InputOf(c) != impl.InputOf(a) || impl.OutputOf(c) != impl.OutputOf(b) {
		t.Errorf("%v and %v make %v from %q to %q", a, b, c, impl.InputOf(c), impl.OutputOf(c))
	}
}

func TestComposeExamples(t *testing.T) {
	cases := []struct{ a, b, want string }{
		{"none", "none", "none"},
		{"ta", "ta", "ta"},
		{"*ta+i", "da-i", "*ta"},
		{"*t", "*d", "t"},
		{"*t", "d", "*t"},
		{"t", "*t", "*t"},
		{"*p", "-b", "-p"},
		{"+t", "*t", "+d"},
		{"+t", "-t", "none"},
		{"-t", "+t", "-t+t"},
		{"-t", "none", "-t"},
		{"none", "+t", "+t"},
		{"-ta", "+ia", "-t+ia"},
		{"t-a", "t+i", "t-a+i"},
		{"t-ai", "t+n+ni", "t-a+n+ni"},
		{"t+an", "t+i-a+dn", "t+i+dn"},
		{"+t-na", "+i-ta", "+i-na"},
		{"+t-na", "-t+ia", "-n+ia"},
		{"-t-a", "+p+i", "-t-a+p+i"},
		// Edits at both ends.
		{"-pta+i", "+dta-i+n", "-p+dta+n"},
		{"-pta-p", "+ita+i", "-p+ita-p+i"},
		{"+tta+i", "-tta-i", "ta"},
		{"+tan+p", "*tan*p", "+dan+b"},
		{"ba", "+tba+i", "+tba+i"},
		{"-dba-i", "ba", "-dba-i"},
		{"+dba+i", "dbai", "+dba+i"},
		{"*bat*d", "-pa*t-t", "-ba*t-d"},
		{"-a+i-t", "+n-i+n", "-a+n-t+n"},
		{"-a+i-t", "+ni+n", "-a+n+i-t+n"},
	}
	for _, x := range cases {
		a, b := candidateFor(linksIn(x.a)...), candidateFor(linksIn(x.b)...)
		c, ok := impl.ComposeCandidates(a, b)
		if got := impl.FormatCandidate(c); !ok || got != x.want {
			t.Errorf("%s and %s make %s, %v, want %s", x.a, x.b, got, ok, x.want)
		}
	}
}

// shortCandidates returns all candidates of up to 3 of some links.
func shortCandidates() []impl.Candidate {
	list := []impl.Candidate{{}}
	for from, n := 0, 0; n < 3; n++ {
		to := len(list)
		for _, c := range list[from:to] {
			for _, text := range []string{"t", "-t", "+t", "*t", "d", "-d", "+d", "*d", "a", "-a", "+a"} {
				list = append(list, impl.Candidate{Links: append(slices.Clone(c.Links), linkFor(text))})
			}
		}
		from = to
	}
	return list
}

func TestComposeShortCandidates(t *testing.T) {
	byInput := map[string][]impl.Candidate{}
	for _, c := range shortCandidates() {
		byInput[impl.InputOf(c)] = append(byInput[impl.InputOf(c)], c)
	}
	for _, a := range shortCandidates() {
		for _, b := range byInput[impl.OutputOf(a)] {
			checkComposed(t, a, b)
		}
	}
}

// candidateTo returns a candidate with an output, by chance.
func candidateTo(r *rand.Rand, out string) impl.Candidate {
	var c impl.Candidate
	room := 8
	for i := range len(out) + 1 {
		for room > len(out) && r.Intn(3) == 0 {
			c.Links = append(c.Links, impl.Link{In: "ptbdnai"[r.Intn(7)]})
			room--
		}
		if i == len(out) {
			break
		}
		x := impl.Link{In: out[i], Out: out[i]}
		switch r.Intn(3) {
		case 0:
			x.In = 0
		case 1:
			x.In, _ = impl.SwapVoice(out[i])
		}
		c.Links = append(c.Links, x)
	}
	return c
}

// turned returns the candidate that leads back.
func turned(c impl.Candidate) impl.Candidate {
	d := impl.Candidate{Links: slices.Clone(c.Links)}
	for i, x := range d.Links {
		d.Links[i] = impl.Link{In: x.Out, Out: x.In}
	}
	return d
}

func TestComposeLongCandidates(t *testing.T) {
	r := rand.New(rand.NewSource(9))
	for _, s := range slices.Concat(someForms(), longForms(), fullForms()) {
		for range 20 {
			checkComposed(t, candidateTo(r, s), turned(candidateTo(r, s)))
		}
	}
	for _, a := range longestCandidates() {
		for _, s := range []string{impl.InputOf(a), impl.OutputOf(a)} {
			b, _ := impl.FaithfulCandidate(s)
			if s == impl.InputOf(a) {
				checkComposed(t, b, a)
			}
			if s == impl.OutputOf(a) {
				checkComposed(t, a, b)
			}
		}
		checkComposed(t, a, turned(a))
		checkComposed(t, turned(a), a)
	}
	c, ok := impl.ComposeCandidates(repeated(8, "-n", 8, "+p"), repeated(8, "-p", 8, "+i"))
	if want := repeated(8, "-n", 8, "+i"); !ok || !slices.Equal(c.Links, want.Links) {
		t.Errorf("8 sounds put in and taken away again make %v, %v", c, ok)
	}
}

func TestComposeWithFaithfulCandidates(t *testing.T) {
	for _, texts := range linkTextLists() {
		c := candidateFor(texts...)
		before, _ := impl.FaithfulCandidate(impl.InputOf(c))
		behind, _ := impl.FaithfulCandidate(impl.OutputOf(c))
		if got, ok := impl.ComposeCandidates(before, c); !ok || !slices.Equal(got.Links, c.Links) {
			t.Errorf("%v behind its input is %v, %v", c, got, ok)
		}
		if got, ok := impl.ComposeCandidates(c, behind); !ok || !slices.Equal(got.Links, c.Links) {
			t.Errorf("%v before its output is %v, %v", c, got, ok)
		}
	}
}

// checkNotComposed tests that two candidates make none.
func checkNotComposed(t *testing.T, a impl.Candidate, b impl.Candidate) {
	t.Helper()
	if c, ok := impl.ComposeCandidates(a, b); ok || len(c.Links) != 0 {
		t.Errorf("%v and %v make %v, %v", a, b, c, ok)
	}
}

func TestComposeOtherForms(t *testing.T) {
	for _, a := range shortCandidates()[:133] {
		for _, b := range shortCandidates()[:133] {
			if impl.OutputOf(a) != impl.InputOf(b) {
				checkNotComposed(t, a, b)
			}
		}
	}
	for _, x := range [][2]string{{"t", "d"}, {"*t", "t"}, {"ta", "t"}, {"t", "ta"}, {"ta", "a"}, {"t-a", "ta"}, {"t+a", "t"}, {"none", "t"}, {"-t", "t"}, {"t", "none"}, {"+t", "+t"}, {"ta", "at"}, {"tadanaip", "tadanai"}, {"tadanai", "tadanaip"}, {"tadanaip", "tadanait"}, {"*da*ti", "ta-ti"}} {
		checkNotComposed(t, candidateFor(linksIn(x[0])...), candidateFor(linksIn(x[1])...))
	}
}

// keeping returns the links that keep each sound, also of strings that are no forms.
func keeping(s []byte) impl.Candidate {
	var c impl.Candidate
	for _, b := range s {
		c.Links = append(c.Links, impl.Link{In: b, Out: b})
	}
	return c
}

func TestComposeNoCandidates(t *testing.T) {
	for _, c := range spoiledCandidates() {
		var in, out []byte
		for _, x := range c.Links {
			if x.In != 0 {
				in = append(in, x.In)
			}
			if x.Out != 0 {
				out = append(out, x.Out)
			}
		}
		checkNotComposed(t, keeping(in), c)
		checkNotComposed(t, c, keeping(out))
		checkNotComposed(t, c, c)
		checkNotComposed(t, c, turned(c))
		checkNotComposed(t, c, impl.Candidate{})
		checkNotComposed(t, impl.Candidate{}, c)
	}
}

func TestComposedCandidatesShareNoMemory(t *testing.T) {
	for _, x := range [][2]string{{"ta", "ta"}, {"none", "+t+a"}, {"-t-a", "none"}, {"-ta+i", "+da-i"}, {"*ta+i", "+n*d-ai+n"}} {
		a, b := candidateFor(linksIn(x[0])...), candidateFor(linksIn(x[1])...)
		wantA, wantB := slices.Clone(a.Links), slices.Clone(b.Links)
		c, _ := impl.ComposeCandidates(a, b)
		want := slices.Clone(c.Links)
		links := c.Links[:cap(c.Links)]
		for i := range links {
			links[i] = impl.Link{In: 'x', Out: 'y'}
		}
		if !slices.Equal(a.Links, wantA) || !slices.Equal(b.Links, wantB) {
			t.Errorf("what %v and %v make shares their memory", x[0], x[1])
		}
		if d, ok := impl.ComposeCandidates(a, b); !ok || !slices.Equal(d.Links, want) {
			t.Errorf("%v and %v make %v and then %v", x[0], x[1], want, d)
		}
	}
}

func TestFaithChangesNothing(t *testing.T) {
	list := slices.Concat(longestCandidates(), spoiledCandidates()[:60])
	for _, texts := range linkTextLists()[:700] {
		list = append(list, candidateFor(texts...))
	}
	for _, c := range list {
		room := append(slices.Clone(c.Links), linkFor("+t"), linkFor("-a"), linkFor("n"))
		back := append(turned(c).Links, linkFor("+t"), linkFor("-a"), linkFor("n"))
		before, backBefore := slices.Clone(room), slices.Clone(back)
		a, b := impl.Candidate{Links: room[:len(c.Links)]}, impl.Candidate{Links: back[:len(c.Links)]}
		faithCounts(a)
		impl.IsFaithful(a)
		impl.ComposeCandidates(a, b)
		impl.ComposeCandidates(b, a)
		if !slices.Equal(room, before) || !slices.Equal(back, backBefore) {
			t.Fatalf("the links %v were changed to %v, or %v to %v", before, room, backBefore, back)
		}
	}
}
