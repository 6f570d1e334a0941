package tests

import (
	"math/rand"
	"runtime"
	"slices"
	"strings"
	"sync"
	"testing"
	"time"

	"loop.example/g02080/impl"
)

// inputs returns the valid inputs of up to 3 sounds and some of 4.
func inputs() []string {
	list := stringsUpTo("ptbdnai", 3)
	for _, s := range stringsUpTo("tdi", 4) {
		if len(s) == 4 {
			list = append(list, s)
		}
	}
	return append(list, "ptbd", "naip", "dnat", "aaaa", "pppp", "bnbn", "intd", "npab", "bdpt", "antn")
}

// longForms returns forms that are too long as inputs.
func longForms() []string {
	r := rand.New(rand.NewSource(7))
	list := []string{"tatat", "ttttt", "aiaia", "tatata", "tatatat", "aaaaaaa", "bnpnbnp"}
	for range 40 {
		s := make([]byte, 5+r.Intn(3))
		for i := range s {
			s[i] = "ptbdnai"[r.Intn(7)]
		}
		list = append(list, string(s))
	}
	return list
}

// fullForms returns forms of 8 sounds.
func fullForms() []string {
	return []string{"tadanaip", "tttttttt", "aiaiaiai", "npnpttdb"}
}

func editsIn(texts []string) int {
	return strings.Count(strings.Join(texts, ""), "+") + strings.Count(strings.Join(texts, ""), "-") + strings.Count(strings.Join(texts, ""), "*")
}

// withPutIn returns lists of formats of links with t and i put in behind them in
// all ways, without those that have too many edits.
func withPutIn(lists [][]string, edits int) [][]string {
	var all [][]string
	for _, list := range lists {
		for _, sounds := range stringsUpTo("ti", edits) {
			x := slices.Clone(list)
			for _, sound := range strings.Split(sounds, "") {
				x = append(x, "+"+sound)
			}
			if editsIn(x) <= edits {
				all = append(all, x)
			}
		}
	}
	return all
}

// placeInOrder returns a string that stands for a list of formats of links in
// the order of the document.
func placeInOrder(texts []string) string {
	place := ""
	for _, text := range texts {
		switch {
		case len(text) == 1:
			place += "0"
		case text[0] == '-':
			place += "1"
		case text[0] == '*':
			place += "2"
		case text == "+t":
			place += "3"
		default:
			place += "4"
		}
	}
	return place
}

// wantGenerated makes the candidates of s sound by sound, and sorts them.
func wantGenerated(s string, edits int) []impl.Candidate {
	lists := withPutIn([][]string{nil}, edits)
	for _, sound := range strings.Split(s, "") {
		var next [][]string
		for _, list := range lists {
			next = append(next, append(slices.Clone(list), sound), append(slices.Clone(list), "-"+sound))
			if strings.Contains("ptbd", sound) {
				next = append(next, append(slices.Clone(list), "*"+sound))
			}
		}
		lists = withPutIn(next, edits)
	}
	slices.SortFunc(lists, func(a []string, b []string) int { return strings.Compare(placeInOrder(a), placeInOrder(b)) })
	var all []impl.Candidate
	for _, list := range lists {
		all = append(all, candidateFor(list...))
	}
	return all
}

func sameCandidates(a []impl.Candidate, b []impl.Candidate) bool {
	return slices.EqualFunc(a, b, func(x impl.Candidate, y impl.Candidate) bool { return slices.Equal(x.Links, y.Links) })
}

// formatsOf returns the formats of candidates, one word each.
func formatsOf(list []impl.Candidate) string {
	var texts []string
	for _, c := range list {
		texts = append(texts, impl.FormatCandidate(c))
	}
	return strings.Join(texts, " ")
}

// outputFor returns the output of a candidate.
func outputFor(c impl.Candidate) string {
	out := ""
	for _, x := range c.Links {
		if x.Out != 0 {
			out += string([]byte{x.Out})
		}
	}
	return out
}

// numberGenerated counts the candidates with at most 2 edits without making them.
func numberGenerated(s string) int {
	single, squares := 0, 0
	for i := range len(s) {
		ways := 1
		if strings.IndexByte("ptbd", s[i]) >= 0 {
			ways = 2
		}
		single += ways
		squares += ways * ways
	}
	places := len(s) + 1
	putIn := 2*places + 4*places*(places+1)/2
	return 1 + putIn + single + 2*places*single + (single*single-squares)/2
}

func TestGeneratorExamples(t *testing.T) {
	if impl.MaxInput != 4 {
		t.Errorf("MaxInput = %d", impl.MaxInput)
	}
	generated := map[string]string{
		"": "none +t +t+t +t+i +i +i+t +i+i",
		"t": "t t+t t+t+t t+t+i t+i t+i+t t+i+i -t -t+t -t+i *t *t+t *t+i " +
			"+tt +tt+t +tt+i +t-t +t*t +t+tt +t+it +it +it+t +it+i +i-t +i*t +i+tt +i+it",
		"a": "a a+t a+t+t a+t+i a+i a+i+t a+i+i -a -a+t -a+i " +
			"+ta +ta+t +ta+i +t-a +t+ta +t+ia +ia +ia+t +ia+i +i-a +i+ta +i+ia",
	}
	for s, want := range generated {
		if got := formatsOf(impl.Generate(s)); got != want {
			t.Errorf("Generate(%q) is %s, want %s", s, got, want)
		}
	}
	single := map[string]string{
		"":        "none +t +i",
		"t":       "t t+t t+i -t *t +tt +it",
		"da":      "da da+t da+i d-a d+ta d+ia -da *da +tda +ida",
		"nnnnnnn": "nnnnnnn nnnnnnn+t nnnnnnn+i nnnnnn-n nnnnnn+tn nnnnnn+in nnnnn-nn nnnnn+tnn nnnnn+inn nnnn-nnn nnnn+tnnn nnnn+innn nnn-nnnn nnn+tnnnn nnn+innnn nn-nnnnn nn+tnnnnn nn+innnnn n-nnnnnn n+tnnnnnn n+innnnnn -nnnnnnn +tnnnnnnn +innnnnnn",
	}
	for s, want := range single {
		if got := formatsOf(impl.OneEdit(s)); got != want {
			t.Errorf("OneEdit(%q) is %s, want %s", s, got, want)
		}
	}
	if got := impl.CountCandidates("tttt"); got != 183 {
		t.Errorf("CountCandidates(%q) = %d", "tttt", got)
	}
	if got, want := impl.OutputsOf("t"), strings.Split("t tt ttt tti ti tit tii  i d dt di td it itt iti id iit", " "); !slices.Equal(got, want) {
		t.Errorf("OutputsOf(%q) = %q, want %q", "t", got, want)
	}
}

func TestGenerate(t *testing.T) {
	for _, s := range inputs() {
		got := impl.Generate(s)
		if want := wantGenerated(s, 2); !sameCandidates(got, want) {
			t.Errorf("Generate(%q) is %s, want %s", s, formatsOf(got), formatsOf(want))
		}
		if want := numberGenerated(s); len(got) != want || impl.CountCandidates(s) != want {
			t.Errorf("%d candidates of %q, counted as %d, want %d", len(got), s, impl.CountCandidates(s), want)
		}
	}
}

func TestGeneratedCandidatesAreDifferent(t *testing.T) {
	for _, s := range inputs() {
		seen := map[string]bool{}
		for _, c := range impl.Generate(s) {
			text := impl.FormatCandidate(c)
			if seen[text] || !impl.IsCandidate(c) || impl.InputOf(c) != s || impl.CountEdits(c) > impl.MaxEdits {
				t.Errorf("Generate(%q) has %q", s, text)
			}
			seen[text] = true
		}
	}
}

func TestOneEdit(t *testing.T) {
	for _, s := range slices.Concat(inputs(), longForms()) {
		got := impl.OneEdit(s)
		if want := wantGenerated(s, 1); !sameCandidates(got, want) {
			t.Errorf("OneEdit(%q) is %s, want %s", s, formatsOf(got), formatsOf(want))
		}
		for _, c := range got {
			if !impl.IsCandidate(c) || impl.InputOf(c) != s {
				t.Errorf("OneEdit(%q) has %v", s, c)
			}
		}
	}
	for _, s := range slices.Concat(noForms(), fullForms()) {
		if got := impl.OneEdit(s); len(got) != 0 {
			t.Errorf("OneEdit(%q) is %s", s, formatsOf(got))
		}
	}
}

func TestNothingIsGenerated(t *testing.T) {
	for _, s := range slices.Concat(noForms(), longForms(), fullForms()) {
		if got := impl.Generate(s); len(got) != 0 {
			t.Errorf("Generate(%q) is %s", s, formatsOf(got))
		}
		if got := impl.CountCandidates(s); got != 0 {
			t.Errorf("CountCandidates(%q) = %d", s, got)
		}
		if got := impl.OutputsOf(s); len(got) != 0 {
			t.Errorf("OutputsOf(%q) = %q", s, got)
		}
		for _, out := range []string{s, "", "t", "tata"} {
			if got := impl.FewestEdits(s, out); got != -1 {
				t.Errorf("FewestEdits(%q, %q) = %d", s, out, got)
			}
		}
		c := candidateFor()
		for i := range len(s) {
			c.Links = append(c.Links, impl.Link{In: s[i], Out: s[i]})
		}
		if impl.IsGenerated(s, c) || impl.IsGenerated(s, impl.Candidate{}) || impl.IsGenerated(s, candidateFor("t")) {
			t.Errorf("a candidate of %q is generated", s)
		}
	}
}

func TestIsGenerated(t *testing.T) {
	for _, s := range []string{"", "t", "a", "n", "ta", "bi", "tt", "pad", "iii", "tdnb", "tata"} {
		list := impl.Generate(s)
		for i, c := range list {
			if !impl.IsGenerated(s, c) || !impl.IsGenerated(s, impl.Candidate{Links: slices.Clone(c.Links)}) {
				t.Errorf("candidate %d of %q is not generated", i, s)
			}
			if impl.IsGenerated(s+"t", c) || impl.IsGenerated("d"+s, c) {
				t.Errorf("candidate %d of %q is generated for other inputs", i, s)
			}
			for j := range len(c.Links) + 1 {
				for _, text := range []string{"+t", "+i", "+a", "+p", "t", "-t"} {
					d := impl.Candidate{Links: slices.Insert(slices.Clone(c.Links), j, linkFor(text))}
					if got, want := impl.IsGenerated(s, d), text[0] == '+' && text[1] != 'a' && text[1] != 'p' && impl.CountEdits(c) < 2; got != want {
						t.Errorf("IsGenerated(%q, %v) = %v", s, d, got)
					}
				}
			}
		}
	}
	for _, c := range append(noCandidates()[:200], longestCandidates()...) {
		for _, s := range []string{"", "t", "tttt", "aaaa", "nnnn"} {
			if impl.IsGenerated(s, c) {
				t.Errorf("%v is generated for %q", c, s)
			}
		}
	}
	if !impl.IsGenerated("", impl.Candidate{}) || !impl.IsGenerated("", impl.Candidate{Links: []impl.Link{}}) {
		t.Error("no links are not generated for no sounds")
	}
	if !impl.IsGenerated("t", candidateFor("+t", "-t")) || !impl.IsGenerated("t", candidateFor("-t", "+t")) || impl.IsGenerated("t", candidateFor("-t", "+d")) {
		t.Error("a sound that is taken away beside one that is put in")
	}
}

func TestOutputsOf(t *testing.T) {
	for _, s := range inputs() {
		var want []string
		seen := map[string]bool{}
		for _, c := range wantGenerated(s, 2) {
			if out := outputFor(c); !seen[out] {
				want = append(want, out)
				seen[out] = true
			}
		}
		if got := impl.OutputsOf(s); !slices.Equal(got, want) {
			t.Errorf("OutputsOf(%q) = %q, want %q", s, got, want)
		}
	}
}

func TestFewestEdits(t *testing.T) {
	for _, s := range []string{"", "t", "d", "a", "n", "ta", "td", "it", "bi", "pad", "iti", "nnn", "tdnb", "tata", "dtdt", "iiii"} {
		want := map[string]int{}
		for _, c := range wantGenerated(s, 2) {
			out, edits := outputFor(c), impl.CountEdits(c)
			if old, ok := want[out]; !ok || edits < old {
				want[out] = edits
			}
		}
		others := append(stringsUpTo("ptbdnai", 2), "x", "tatatatat", "ta ", "\x00", "none", "+t", "-t", s+s+s, s+"a", s+"ti", s+"tit")
		for out := range want {
			others = append(others, out)
		}
		for _, out := range others {
			edits, ok := want[out]
			if !ok {
				edits = -1
			}
			if got := impl.FewestEdits(s, out); got != edits {
				t.Errorf("FewestEdits(%q, %q) = %d, want %d", s, out, got, edits)
			}
		}
		if got := impl.FewestEdits(s, s); got != 0 {
			t.Errorf("FewestEdits(%q, %q) = %d", s, s, got)
		}
	}
}

func TestFewestEditsExamples(t *testing.T) {
	cases := []struct {
		s, out string
		want   int
	}{
		{"", "", 0}, {"", "t", 1}, {"", "ti", 2}, {"", "a", -1}, {"", "tit", -1}, {"t", "d", 1}, {"d", "t", 1}, {"b", "t", 2}, {"b", "d", -1},
		{"tt", "", 2}, {"ttt", "", -1}, {"ttt", "t", 2}, {"ta", "at", 2}, {"dd", "tt", 2}, {"ddd", "ttt", -1}, {"pata", "pata", 0}, {"pata", "bada", 2},
		{"pata", "batai", 2}, {"pata", "patati", 2}, {"patat", "patat", -1}, {"patat", "pata", -1}, {"x", "x", -1}, {"x", "", -1}, {"t", "tx", -1},
	}
	for _, x := range cases {
		if got := impl.FewestEdits(x.s, x.out); got != x.want {
			t.Errorf("FewestEdits(%q, %q) = %d, want %d", x.s, x.out, got, x.want)
		}
	}
}

// overwriteCandidates changes all links and candidates, also in unused capacity.
func overwriteCandidates(list []impl.Candidate) {
	list = list[:cap(list)]
	for i := range list {
		links := list[i].Links[:cap(list[i].Links)]
		for j := range links {
			links[j] = impl.Link{In: 'x', Out: 'y'}
		}
		list[i] = impl.Candidate{}
	}
}

func TestGeneratedCandidatesShareNoMemory(t *testing.T) {
	for _, generate := range []func(string) []impl.Candidate{impl.Generate, impl.OneEdit} {
		for _, s := range []string{"", "t", "nai", "tata"} {
			list := generate(s)
			want := formatsOf(list)
			for i := range list {
				mine := generate(s)
				before := formatsOf(mine)
				overwriteCandidates(mine[i : i+1 : i+1])
				mine = slices.Delete(mine, i, i+1)
				if other := slices.Delete(slices.Clone(list), i, i+1); formatsOf(mine) != formatsOf(other) || before != want {
					t.Fatalf("candidates of %q share memory", s)
				}
			}
			overwriteCandidates(list)
			if formatsOf(generate(s)) != want {
				t.Fatalf("two lists of candidates of %q share memory", s)
			}
		}
	}
	outputs := impl.OutputsOf("ta")
	want := slices.Clone(outputs)
	for i := range outputs[:cap(outputs)] {
		outputs[:cap(outputs)][i] = "x"
	}
	if !slices.Equal(impl.OutputsOf("ta"), want) {
		t.Error("two lists of outputs share memory")
	}
}

func TestIsGeneratedChangesNothing(t *testing.T) {
	for _, s := range []string{"", "t", "tad"} {
		for _, c := range append(wantGenerated(s, 3), noCandidates()[:40]...) {
			room := append(slices.Clone(c.Links), linkFor("+t"), linkFor("-a"))
			before := slices.Clone(room)
			impl.IsGenerated(s, impl.Candidate{Links: room[:len(c.Links)]})
			if !slices.Equal(room, before) {
				t.Fatalf("the links %v were changed to %v", before, room)
			}
		}
	}
}

func TestGeneratorLeavesNothingBehind(t *testing.T) {
	before := runtime.NumGoroutine()
	for _, s := range []string{"", "t", "tata", "tatat", "tatatat", "tadanaip", "x"} {
		for range 20 {
			impl.Generate(s)
			impl.CountCandidates(s)
			impl.IsGenerated(s, candidateFor("t"))
			impl.OutputsOf(s)
			impl.OneEdit(s)
			impl.FewestEdits(s, s)
		}
	}
	// A goroutine that has sent all it had may take a moment to end.
	for wait := 0; wait < 100 && runtime.NumGoroutine() > before; wait++ {
		time.Sleep(10 * time.Millisecond)
	}
	if after := runtime.NumGoroutine(); after > before {
		t.Errorf("%d goroutines before, %d after", before, after)
	}
}

func TestGeneratorsAtTheSameTime(t *testing.T) {
	list := []string{"", "t", "an", "pad", "tata", "bnbn"}
	var wg sync.WaitGroup
	for i := range 24 {
		s := list[i%len(list)]
		want := wantGenerated(s, 2)
		wg.Go(func() {
			for range 5 {
				if got := impl.Generate(s); !sameCandidates(got, want) || impl.CountCandidates(s) != len(want) {
					t.Errorf("Generate(%q) is %s", s, formatsOf(got))
				}
			}
		})
	}
	wg.Wait()
}
