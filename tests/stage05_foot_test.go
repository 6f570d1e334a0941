package tests

import (
	"fmt"
	"math"
	"slices"
	"strings"
	"testing"

	"loop.example/g02080/impl"
)

// footShapes returns all ways to put feet on n syllables, with x for each
// head, in the order of the document.
func footShapes(n int) []string {
	if n == 0 {
		return []string{""}
	}
	var list []string
	for _, part := range []string{"0", "(x)", "(x0)", "(0x)"} {
		size := strings.Count(part, "x") + strings.Count(part, "0")
		if size > n {
			break
		}
		for _, rest := range footShapes(n - size) {
			list = append(list, part+rest)
		}
	}
	return list
}

// footingTexts returns the formats of all footings of n syllables.
func footingTexts(n int) []string {
	var list []string
	for _, shape := range footShapes(n) {
		parts := strings.Split(shape, "x")
		for head := 1; head < len(parts); head++ {
			list = append(list, strings.Join(parts[:head], "1")+"2"+strings.Join(parts[head:], "1"))
		}
	}
	return list
}

// readFooting reads the format of a footing.
func readFooting(text string) impl.Footing {
	var f impl.Footing
	for _, c := range text {
		last := len(f.Feet) - 1
		switch {
		case c == '(':
			f.Feet = append(f.Feet, impl.Foot{From: f.Syllables})
			continue
		case c == ')':
			f.Feet[last].Size = f.Syllables - f.Feet[last].From
			continue
		case c == '2':
			f.Main = last
		}
		if c != '0' {
			f.Feet[last].Head = f.Syllables - f.Feet[last].From
		}
		f.Syllables++
	}
	return f
}

func readFootings(texts []string) []impl.Footing {
	var list []impl.Footing
	for _, text := range texts {
		list = append(list, readFooting(text))
	}
	return list
}

// stressesIn returns the stresses in the format of a footing.
func stressesIn(text string) []int {
	var list []int
	for _, c := range strings.NewReplacer("(", "", ")", "").Replace(text) {
		list = append(list, int(c-'0'))
	}
	return list
}

// marksIn returns the marks of the format of a footing.
func marksIn(text string) []int {
	shape := strings.ReplaceAll(text, "2", "1")
	ones, ends, starts := strings.Count(shape, "(1)"), strings.Count(shape, "(01)"), strings.Count(shape, "(10)")
	_, last, _ := strings.Cut(text[strings.IndexByte(text, '2'):], ")")
	all := len(stressesIn(text))
	return []int{all - ones - 2*ends - 2*starts, ones, ends, starts, strings.IndexByte(text, '('), len(stressesIn(last))}
}

// validTexts returns the formats of all valid footings.
func validTexts() []string {
	var list []string
	for n := 1; n <= 6; n++ {
		list = append(list, footingTexts(n)...)
	}
	return list
}

func foot(from, size, head int) impl.Foot {
	return impl.Foot{From: from, Size: size, Head: head}
}

func footing(syllables, main int, feet ...impl.Foot) impl.Footing {
	return impl.Footing{Syllables: syllables, Feet: feet, Main: main}
}

func footingKey(f impl.Footing) string {
	return fmt.Sprint(f.Syllables, f.Main, f.Feet)
}

func sameFootings(a, b []impl.Footing) bool {
	return slices.EqualFunc(a, b, func(x, y impl.Footing) bool { return footingKey(x) == footingKey(y) })
}

// changedFootings returns footings that differ from f in one number, one
// foot or the order of two feet.
func changedFootings(f impl.Footing) []impl.Footing {
	var list []impl.Footing
	values := []int{-2, -1, 0, 1, 2, 3, 4, 5, 6, 7, 8, math.MaxInt - 1, math.MaxInt, math.MinInt, math.MinInt + 1}
	for _, v := range values {
		list = append(list, footing(v, f.Main, f.Feet...), footing(f.Syllables, v, f.Feet...))
		for i, x := range f.Feet {
			for _, y := range []impl.Foot{foot(v, x.Size, x.Head), foot(x.From, v, x.Head), foot(x.From, x.Size, v)} {
				feet := slices.Clone(f.Feet)
				feet[i] = y
				list = append(list, footing(f.Syllables, f.Main, feet...))
			}
		}
	}
	for i, x := range f.Feet {
		twice := slices.Insert(slices.Clone(f.Feet), i, x)
		without := slices.Delete(slices.Clone(f.Feet), i, i+1)
		swapped := slices.Clone(f.Feet)
		swapped[0], swapped[i] = swapped[i], swapped[0]
		for _, feet := range [][]impl.Foot{twice, without, swapped} {
			list = append(list, footing(f.Syllables, f.Main, feet...))
		}
	}
	return list
}

// noFootings returns footings of which none is valid.
func noFootings() []impl.Footing {
	feet := []impl.Foot{
		foot(0, 0, 0), foot(0, 3, 0), foot(0, 1, 1), foot(0, 2, 2), foot(0, 1, -1), foot(0, 2, -1), foot(0, -1, 0),
		foot(-1, 1, 0), foot(-1, 2, 1), foot(3, 1, 0), foot(2, 2, 0), foot(math.MaxInt, 1, 0), foot(math.MaxInt, 2, 0),
		foot(math.MaxInt-1, 2, 0), foot(math.MinInt, 1, 0), foot(0, math.MaxInt, 0), foot(1, math.MaxInt, 5),
		foot(0, math.MinInt, 0), foot(-2, math.MinInt, 0), foot(0, 2, math.MaxInt), foot(0, 2, math.MinInt),
	}
	list := []impl.Footing{
		{}, footing(3, 0), footing(0, 0, foot(0, 1, 0)), footing(-1, 0, foot(0, 1, 0)), footing(1, 0, foot(0, 2, 0)),
		footing(7, 0, foot(0, 1, 0)), footing(math.MaxInt, 0, foot(0, 1, 0)), footing(math.MinInt, 0, foot(0, 1, 0)),
		footing(3, 1, foot(0, 1, 0)), footing(3, -1, foot(0, 1, 0)), footing(3, math.MaxInt, foot(0, 1, 0)), footing(3, math.MinInt, foot(0, 1, 0)),
		footing(3, 0, foot(1, 1, 0), foot(0, 1, 0)), footing(3, 0, foot(0, 2, 0), foot(1, 2, 0)), footing(3, 0, foot(0, 2, 0), foot(1, 1, 0)),
		footing(3, 0, foot(1, 1, 0), foot(0, 2, 0)), footing(3, 1, foot(0, 1, 0), foot(0, 1, 0)), footing(3, 2, foot(0, 1, 0), foot(1, 2, 1)),
		footing(3, 3, foot(0, 1, 0), foot(1, 1, 0), foot(2, 1, 0)), footing(6, 0, make([]impl.Foot, 1000)...),
	}
	for _, x := range feet {
		list = append(list, footing(3, 0, x), footing(3, 0, foot(0, 1, 0), x), footing(3, 1, x, foot(2, 1, 0)))
	}
	return list
}

func TestIsFooting(t *testing.T) {
	valid := map[string]bool{}
	footings := readFootings(validTexts())
	for _, f := range footings {
		valid[footingKey(f)] = true
	}
	for _, f := range footings {
		if !impl.IsFooting(f) {
			t.Errorf("%v is no footing", f)
		}
		for _, g := range changedFootings(f) {
			if got := impl.IsFooting(g); got != valid[footingKey(g)] {
				t.Fatalf("IsFooting(%v) = %v", g, got)
			}
		}
	}
}

func TestIsFootingExamples(t *testing.T) {
	if impl.MaxFooted != 6 {
		t.Errorf("MaxFooted = %d", impl.MaxFooted)
	}
	for _, f := range []impl.Footing{
		footing(1, 0, foot(0, 1, 0)), footing(2, 0, foot(0, 2, 0)), footing(2, 0, foot(0, 2, 1)), footing(2, 1, foot(0, 1, 0), foot(1, 1, 0)),
		footing(6, 0, foot(5, 1, 0)), footing(6, 0, foot(4, 2, 1)), footing(6, 2, foot(0, 2, 0), foot(2, 2, 1), foot(4, 2, 0)),
		footing(6, 1, foot(0, 1, 0), foot(3, 2, 1)),
	} {
		if !impl.IsFooting(f) {
			t.Errorf("%v is no footing", f)
		}
	}
	for _, f := range noFootings() {
		if impl.IsFooting(f) {
			t.Errorf("%v is a footing", f)
		}
	}
}

func TestFootingExamples(t *testing.T) {
	cases := []struct {
		f        impl.Footing
		text     string
		stresses []int
		marks    []int
	}{
		{footing(1, 0, foot(0, 1, 0)), "(2)", []int{2}, []int{0, 1, 0, 0, 0, 0}},
		{footing(3, 0, foot(1, 1, 0)), "0(2)0", []int{0, 2, 0}, []int{2, 1, 0, 0, 1, 1}},
		{footing(3, 1, foot(0, 1, 0), foot(1, 1, 0)), "(1)(2)0", []int{1, 2, 0}, []int{1, 2, 0, 0, 0, 1}},
		{footing(2, 0, foot(0, 2, 1)), "(02)", []int{0, 2}, []int{0, 0, 1, 0, 0, 0}},
		{footing(2, 0, foot(0, 2, 0)), "(20)", []int{2, 0}, []int{0, 0, 0, 1, 0, 0}},
		{footing(6, 1, foot(1, 1, 0), foot(2, 2, 1), foot(4, 2, 0)), "0(1)(02)(10)", []int{0, 1, 0, 2, 1, 0}, []int{1, 1, 1, 1, 1, 2}},
		{footing(6, 0, foot(2, 1, 0), foot(4, 1, 0)), "00(2)0(1)0", []int{0, 0, 2, 0, 1, 0}, []int{4, 2, 0, 0, 2, 3}},
	}
	for _, c := range cases {
		if got := impl.FormatFooting(c.f); got != c.text {
			t.Errorf("FormatFooting(%v) = %q, want %q", c.f, got, c.text)
		}
		if got := impl.StressesOf(c.f); !slices.Equal(got, c.stresses) {
			t.Errorf("StressesOf(%v) = %v, want %v", c.f, got, c.stresses)
		}
		if got := impl.FootMarks(c.f); !slices.Equal(got, c.marks) {
			t.Errorf("FootMarks(%v) = %v, want %v", c.f, got, c.marks)
		}
	}
}

func TestPropertiesOfFootings(t *testing.T) {
	for _, text := range validTexts() {
		f := readFooting(text)
		if got := impl.FormatFooting(f); got != text {
			t.Errorf("FormatFooting(%v) = %q, want %q", f, got, text)
		}
		if got, want := impl.StressesOf(f), stressesIn(text); !slices.Equal(got, want) {
			t.Errorf("StressesOf(%v) = %v, want %v", f, got, want)
		}
		if got, want := impl.FootMarks(f), marksIn(text); !slices.Equal(got, want) {
			t.Errorf("FootMarks(%v) = %v, want %v", f, got, want)
		}
	}
}

func TestPropertiesOfNoFootings(t *testing.T) {
	for _, f := range noFootings() {
		if got := impl.FormatFooting(f); got != "" {
			t.Errorf("FormatFooting(%v) = %q", f, got)
		}
		if got := impl.StressesOf(f); len(got) != 0 {
			t.Errorf("StressesOf(%v) = %v", f, got)
		}
		if got := impl.FootMarks(f); len(got) != 0 {
			t.Errorf("FootMarks(%v) = %v", f, got)
		}
	}
}

func TestFootingsOf(t *testing.T) {
	for n, size := range []int{0, 1, 6, 24, 88} {
		got := impl.FootingsOf(n)
		if len(got) != size || !sameFootings(got, readFootings(footingTexts(n))) {
			t.Errorf("FootingsOf(%d) = %v", n, got)
		}
	}
	for _, n := range []int{0, -1, 5, 6, 7, 100, math.MaxInt, math.MinInt} {
		if got := impl.FootingsOf(n); len(got) != 0 {
			t.Errorf("FootingsOf(%d) = %v", n, got)
		}
	}
}

func TestFootingsOfInOrder(t *testing.T) {
	var got []string
	for _, f := range impl.FootingsOf(3) {
		got = append(got, impl.FormatFooting(f))
	}
	want := "00(2) 0(2)0 0(2)(1) 0(1)(2) 0(20) 0(02) (2)00 (2)0(1) (1)0(2) (2)(1)0 (1)(2)0 (2)(1)(1) (1)(2)(1) (1)(1)(2) " +
		"(2)(10) (1)(20) (2)(01) (1)(02) (20)0 (20)(1) (10)(2) (02)0 (02)(1) (01)(2)"
	if strings.Join(got, " ") != want {
		t.Errorf("the footings of 3 syllables are %v", got)
	}
}

// stressLists returns all lists of at most n of these numbers.
func stressLists(numbers []int, n int) [][]int {
	list := [][]int{nil}
	for i := 0; i < len(list); i++ {
		if len(list[i]) == n {
			break
		}
		for _, x := range numbers {
			list = append(list, append(slices.Clip(list[i]), x))
		}
	}
	return list
}

func TestFootingsFor(t *testing.T) {
	want := map[string][]impl.Footing{}
	for n := 1; n <= 4; n++ {
		for _, text := range footingTexts(n) {
			key := fmt.Sprint(stressesIn(text))
			want[key] = append(want[key], readFooting(text))
		}
	}
	lists := slices.Concat(stressLists([]int{-1, 0, 1, 2, 3}, 4), stressLists([]int{0, 1, 2}, 7))
	lists = append(lists, []int{math.MaxInt}, []int{math.MinInt}, []int{2, math.MinInt}, []int{258}, make([]int, 1000))
	for _, stresses := range lists {
		before := slices.Clone(stresses)
		if got := impl.FootingsFor(stresses); !sameFootings(got, want[fmt.Sprint(stresses)]) {
			t.Errorf("FootingsFor(%v) = %v", stresses, got)
		}
		if !slices.Equal(stresses, before) {
			t.Fatalf("FootingsFor changed %v to %v", before, stresses)
		}
	}
}

func TestFootingsForExamples(t *testing.T) {
	cases := map[string]string{
		"2": "(2)", "20": "(2)0 (20)", "02": "0(2) (02)", "21": "(2)(1)", "020": "0(2)0 0(20) (02)0", "201": "(2)0(1) (2)(01) (20)(1)",
		"2010": "(2)0(1)0 (2)0(10) (2)(01)0 (20)(1)0 (20)(10)", "0": "", "1": "", "22": "", "10": "", "3": "", "20000": "",
	}
	for digits, want := range cases {
		var got []string
		for _, f := range impl.FootingsFor(stressesIn(digits)) {
			got = append(got, impl.FormatFooting(f))
		}
		if strings.Join(got, " ") != want {
			t.Errorf("the footings for %s are %v, want %s", digits, got, want)
		}
	}
}

func TestFootingsOfStressesHaveThem(t *testing.T) {
	for n := 1; n <= 4; n++ {
		for _, f := range impl.FootingsOf(n) {
			stresses := impl.StressesOf(f)
			for _, g := range impl.FootingsOf(n) {
				listed := slices.ContainsFunc(impl.FootingsFor(stresses), func(x impl.Footing) bool { return impl.EqualFootings(x, g) })
				if listed != slices.Equal(impl.StressesOf(g), stresses) {
					t.Errorf("%v is listed for %v: %v", g, stresses, listed)
				}
			}
		}
	}
}

// overwriteFeet changes all memory of the feet, used or not.
func overwriteFeet(feet []impl.Foot) {
	feet = feet[:cap(feet)]
	for i := range feet {
		feet[i] = foot(9, 9, 9)
	}
}

// copiesOf returns copies of the footings by way of their formats.
func copiesOf(list []impl.Footing) []impl.Footing {
	var copies []impl.Footing
	for _, f := range list {
		copies = append(copies, readFooting(impl.FormatFooting(f)))
	}
	return copies
}

func TestFootingsShareNoMemory(t *testing.T) {
	for _, stresses := range [][]int{{2}, {2, 1}, {0, 2, 0}, {2, 0, 1}, {2, 0, 1, 0}, {1, 1, 2, 1}} {
		for _, list := range [][]impl.Footing{impl.FootingsOf(len(stresses)), impl.FootingsFor(stresses)} {
			for i, f := range list {
				rest := copiesOf(list[i+1:])
				overwriteFeet(f.Feet)
				if !sameFootings(list[i+1:], rest) {
					t.Fatalf("footing %d for %v shares memory", i, stresses)
				}
			}
		}
		if got := impl.FootingsOf(len(stresses)); !sameFootings(got, readFootings(footingTexts(len(stresses)))) {
			t.Errorf("FootingsOf(%d) changed to %v", len(stresses), got)
		}
	}
}

func TestFootingsAreNotChanged(t *testing.T) {
	for _, f := range append(readFootings(validTexts()), noFootings()...) {
		room := append(slices.Clone(f.Feet), foot(7, 7, 7), foot(8, 8, 8))
		before := slices.Clone(room)
		g := footing(f.Syllables, f.Main, room[:len(f.Feet)]...)
		impl.IsFooting(g)
		impl.StressesOf(g)
		impl.FormatFooting(g)
		impl.FootMarks(g)
		impl.EqualFootings(g, g)
		if !slices.Equal(room, before) {
			t.Fatalf("the feet of %v were changed to %v", before, room)
		}
	}
}

func TestEqualFootings(t *testing.T) {
	list := slices.Concat(readFootings(slices.Concat(footingTexts(1), footingTexts(2), footingTexts(3))), noFootings())
	list = append(list, changedFootings(footing(2, 1, foot(0, 1, 0), foot(1, 1, 0)))...)
	for _, a := range list {
		for _, b := range list {
			if got, want := impl.EqualFootings(a, b), footingKey(a) == footingKey(b); got != want {
				t.Errorf("EqualFootings(%v, %v) = %v", a, b, got)
			}
		}
		if !impl.EqualFootings(a, footing(a.Syllables, a.Main, slices.Clone(a.Feet)...)) {
			t.Errorf("%v is not equal to its copy", a)
		}
	}
	if !impl.EqualFootings(impl.Footing{Feet: []impl.Foot{}}, impl.Footing{}) {
		t.Error("no feet are not equal to no feet")
	}
}
