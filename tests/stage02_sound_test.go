package tests

import (
	"math"
	"slices"
	"strings"
	"testing"

	"loop.example/g02080/impl"
)

// noFeatures are numbers below and above those of the features.
var noFeatures = []int{math.MinInt, -5, -1, 5, 6, 255, 256, math.MaxInt}

// soundFeatures returns the features of each sound, as the document lists them.
func soundFeatures() map[byte][]int {
	return map[byte][]int{
		'p': {impl.FeatureLabial},
		't': {},
		'b': {impl.FeatureVoice, impl.FeatureLabial},
		'd': {impl.FeatureVoice},
		'n': {impl.FeatureVoice, impl.FeatureNasal},
		'a': {impl.FeatureVowel, impl.FeatureVoice},
		'i': {impl.FeatureVowel, impl.FeatureVoice, impl.FeatureHigh},
	}
}

// wantShared returns what the sounds of s share, by soundFeatures alone.
func wantShared(s string) []int {
	var list []int
	for f := range 5 {
		have := 0
		for i := range len(s) {
			if slices.Contains(soundFeatures()[s[i]], f) {
				have++
			}
		}
		switch have {
		case len(s):
			list = append(list, f+1)
		case 0:
			list = append(list, -f-1)
		}
	}
	return list
}

// wantClass returns the sounds that agree with all that the sounds of s share.
func wantClass(s string) string {
	class := ""
	for _, r := range "ptbdnai" {
		own := wantShared(string(r))
		agrees := true
		for _, x := range wantShared(s) {
			agrees = agrees && slices.Contains(own, x)
		}
		if agrees {
			class += string(r)
		}
	}
	return class
}

// noClasses returns strings that have no shared features.
func noClasses() []string {
	list := []string{"", strings.Repeat("a", 21), strings.Repeat("pt", 11), strings.Repeat("x", 20), strings.Repeat("a", 1000), "P", "pT", "a ", " a", "\x00", "a\x00", "\u00e9", "a\u0131", "k", "pk", "kp", "pka"}
	for _, b := range []byte(allBytes()) {
		if strings.IndexByte("ptbdnai", b) < 0 {
			x := string([]byte{b})
			list = append(list, x, x+"a", "a"+x, "p"+x+"t", strings.Repeat("n", 19)+x)
		}
	}
	return list
}

func TestSoundConstants(t *testing.T) {
	if impl.Sounds != "ptbdnai" {
		t.Errorf("Sounds = %q", impl.Sounds)
	}
	list := []int{impl.FeatureVowel, impl.FeatureVoice, impl.FeatureNasal, impl.FeatureLabial, impl.FeatureHigh}
	if !slices.Equal(list, []int{0, 1, 2, 3, 4}) {
		t.Errorf("features = %v", list)
	}
}

func TestSoundsAndObstruents(t *testing.T) {
	for _, b := range []byte(allBytes()) {
		if got, want := impl.IsSound(b), strings.IndexByte("ptbdnai", b) >= 0; got != want {
			t.Errorf("IsSound(%q) = %v", b, got)
		}
		if got, want := impl.IsObstruent(b), strings.IndexByte("ptbd", b) >= 0; got != want {
			t.Errorf("IsObstruent(%q) = %v", b, got)
		}
	}
}

func TestHasFeature(t *testing.T) {
	for _, b := range []byte(allBytes()) {
		for f := range 5 {
			if got, want := impl.HasFeature(b, f), slices.Contains(soundFeatures()[b], f); got != want {
				t.Errorf("HasFeature(%q, %d) = %v", b, f, got)
			}
		}
		for _, f := range noFeatures {
			if impl.HasFeature(b, f) {
				t.Errorf("HasFeature(%q, %d) = true", b, f)
			}
		}
	}
}

func TestSwapVoice(t *testing.T) {
	pairs := map[byte]byte{'p': 'b', 'b': 'p', 't': 'd', 'd': 't'}
	for _, b := range []byte(allBytes()) {
		want, wantOk := pairs[b]
		if !wantOk {
			want = b
		}
		if got, ok := impl.SwapVoice(b); got != want || ok != wantOk {
			t.Errorf("SwapVoice(%q) = %q, %v", b, got, ok)
		}
	}
}

func TestSoundsWith(t *testing.T) {
	with := []string{"ai", "bdnai", "n", "pb", "i"}
	without := []string{"ptbdn", "pt", "ptbdai", "tdnai", "ptbdna"}
	for f := range 5 {
		if s := impl.SoundsWith(f, true); s != with[f] {
			t.Errorf("SoundsWith(%d, true) = %q", f, s)
		}
		if s := impl.SoundsWith(f, false); s != without[f] {
			t.Errorf("SoundsWith(%d, false) = %q", f, s)
		}
	}
	for _, f := range noFeatures {
		if s := impl.SoundsWith(f, true) + impl.SoundsWith(f, false); s != "" {
			t.Errorf("SoundsWith(%d) = %q", f, s)
		}
	}
}

func TestSharedFeatures(t *testing.T) {
	cases := map[string][]int{
		"t":       {-1, -2, -3, -4, -5},
		"i":       {1, 2, -3, -4, 5},
		"pb":      {-1, -3, 4, -5},
		"nn":      {-1, 2, 3, -4, -5},
		"ptbdnai": nil,
		"ni":      {2, -4},
		"tai":     {-3, -4},
	}
	for s, want := range cases {
		if got := impl.SharedFeatures(s); !slices.Equal(got, want) {
			t.Errorf("SharedFeatures(%q) = %v, want %v", s, got, want)
		}
	}
	for _, s := range stringsUpTo("ptbdnai", 4)[1:] {
		if got, want := impl.SharedFeatures(s), wantShared(s); !slices.Equal(got, want) {
			t.Errorf("SharedFeatures(%q) = %v, want %v", s, got, want)
		}
	}
}

func TestSharedFeaturesAreNewMemory(t *testing.T) {
	first := impl.SharedFeatures("ai")
	first[0] = 99
	if got := impl.SharedFeatures("ai"); !slices.Equal(got, []int{1, 2, -3, -4}) {
		t.Errorf("SharedFeatures(\"ai\") = %v after its last result was changed", got)
	}
}

func TestNaturalClass(t *testing.T) {
	cases := map[string]string{
		"t": "t", "p": "p", "pt": "pt", "tp": "pt", "pd": "ptbd", "bi": "bdai", "tttt": "t",
		"ai": "ai", "na": "dna", "ni": "dnai", "pn": "ptbdn", "ti": "tdai", "pb": "pb", "ip": "ptbdai",
	}
	for s, want := range cases {
		if got := impl.NaturalClass(s); got != want {
			t.Errorf("NaturalClass(%q) = %q, want %q", s, got, want)
		}
	}
	for _, s := range stringsUpTo("ptbdnai", 4)[1:] {
		if got, want := impl.NaturalClass(s), wantClass(s); got != want {
			t.Errorf("NaturalClass(%q) = %q, want %q", s, got, want)
		}
	}
}

func TestNaturalClassesAreClosed(t *testing.T) {
	for _, s := range stringsUpTo("ptbdnai", 4)[1:] {
		class := impl.NaturalClass(s)
		for i := range len(s) {
			if strings.IndexByte(class, s[i]) < 0 {
				t.Errorf("NaturalClass(%q) = %q lacks %q", s, class, s[i])
			}
		}
		if !slices.Equal(impl.SharedFeatures(class), impl.SharedFeatures(s)) {
			t.Errorf("NaturalClass(%q) = %q shares %v, not %v", s, class, impl.SharedFeatures(class), impl.SharedFeatures(s))
		}
		if again := impl.NaturalClass(class); again != class || !impl.IsNaturalClass(class) {
			t.Errorf("NaturalClass(%q) = %q is not closed: %q", s, class, again)
		}
	}
}

func TestIsNaturalClass(t *testing.T) {
	classes := 0
	for _, s := range stringsUpTo("ptbdnai", 4) {
		want := s != "" && wantClass(s) == s
		if got := impl.IsNaturalClass(s); got != want {
			t.Errorf("IsNaturalClass(%q) = %v", s, got)
		}
		if want {
			classes++
		}
	}
	if classes == 0 || !impl.IsNaturalClass("ptbdnai") || impl.IsNaturalClass("iandbtp") {
		t.Errorf("IsNaturalClass of all sounds, of %d classes", classes)
	}
	for _, s := range []string{"pp", "tp", "ia", "pd", "nd", "aii", "ptbdnaii"} {
		if impl.IsNaturalClass(s) {
			t.Errorf("IsNaturalClass(%q) = true", s)
		}
	}
}

func TestClassLengths(t *testing.T) {
	for n := 1; n <= 30; n++ {
		s := strings.Repeat("a", n-1) + "i"
		wantClass, wantShared := "ai", []int{1, 2, -3, -4}
		switch {
		case n == 1:
			wantClass, wantShared = "i", []int{1, 2, -3, -4, 5}
		case n > 20:
			wantClass, wantShared = "", nil
		}
		if got := impl.NaturalClass(s); got != wantClass {
			t.Errorf("NaturalClass of %d sounds = %q", n, got)
		}
		if got := impl.SharedFeatures(s); !slices.Equal(got, wantShared) {
			t.Errorf("SharedFeatures of %d sounds = %v", n, got)
		}
	}
}

func TestClassInvalid(t *testing.T) {
	for _, s := range noClasses() {
		if got := impl.SharedFeatures(s); len(got) != 0 {
			t.Errorf("SharedFeatures(%q) = %v", s, got)
		}
		if got := impl.NaturalClass(s); got != "" {
			t.Errorf("NaturalClass(%q) = %q", s, got)
		}
		if impl.IsNaturalClass(s) {
			t.Errorf("IsNaturalClass(%q) = true", s)
		}
	}
}
