package tests

import (
	"math"
	"regexp"
	"slices"
	"strconv"
	"strings"
	"testing"

	"loop.example/g00736/impl"
)

// once is an atom that stands once.
func once(class string) impl.Atom {
	return impl.Atom{Class: class, Least: 1, Most: 1}
}

// times is a pattern of one atom.
func times(class string, least int64, most int64) []impl.Atom {
	return []impl.Atom{{Class: class, Least: least, Most: most}}
}

// sameAtom holds n times one atom.
func sameAtom(n int, a impl.Atom) []impl.Atom {
	return slices.Repeat([]impl.Atom{a}, n)
}

func wantPattern(t *testing.T, what string, got impl.PatternOut, want []impl.Atom) {
	t.Helper()
	if got.Code != impl.OK || !slices.Equal(got.Pattern, want) {
		t.Fatalf("%s: got %#v, want %#v", what, got, want)
	}
}

func wantRefused(t *testing.T, what string, got impl.PatternOut, code int64) {
	t.Helper()
	if got.Code != code || len(got.Pattern) != 0 {
		t.Fatalf("%s: got %#v, want the code %d alone", what, got, code)
	}
}

// isStroked tells the bytes that the document has written with a stroke ahead, one by one.
func isStroked(b int) bool {
	switch b {
	case '.', '\\', '[', ']', '?', '*', '+', '{', '}', '(', ')', '^', '-':
		return true
	}
	return false
}

// plainByte writes a byte by the document's words.
func plainByte(b int) string {
	digits := strconv.FormatInt(int64(b)+256, 16)[1:]
	switch {
	case b < 32 || b > 126:
		return `\x` + digits
	case isStroked(b):
		return `\` + string(rune(b))
	}
	return string(rune(b))
}

// plainRuns writes the runs of a class by the document's words.
func plainRuns(c string) string {
	out := ""
	for b := 0; b < 256; b++ {
		first := b
		if !hasByte(c, b) {
			continue
		}
		for b < 255 && hasByte(c, b+1) {
			b++
		}
		switch b - first {
		case 0:
			out += plainByte(b)
		case 1:
			out += plainByte(first) + plainByte(b)
		default:
			out += plainByte(first) + "-" + plainByte(b)
		}
	}
	return out
}

// plainClassText writes a right class that is not empty by the document's words.
func plainClassText(c string) string {
	switch {
	case len(c) == 1:
		return plainByte(int(c[0]))
	case len(c) == 256:
		return "."
	case len(c) <= 128:
		return "[" + plainRuns(c) + "]"
	}
	return "[^" + plainRuns(plainClass(func(b int) bool { return !hasByte(c, b) })) + "]"
}

// plainTimes writes how often by the document's words.
func plainTimes(least int64, most int64) string {
	switch [2]int64{least, most} {
	case [2]int64{1, 1}:
		return ""
	case [2]int64{0, 1}:
		return "?"
	case [2]int64{0, -1}:
		return "*"
	case [2]int64{1, -1}:
		return "+"
	}
	out := "{" + strconv.Itoa(int(least))
	if most != least {
		out += ","
		if most != -1 {
			out += strconv.Itoa(int(most))
		}
	}
	return out + "}"
}

// plainText writes a right pattern by the document's words.
func plainText(p []impl.Atom) string {
	out := ""
	for _, a := range p {
		out += plainClassText(a.Class) + plainTimes(a.Least, a.Most)
	}
	return out
}

// fullClasses are the classes that may stand in an atom.
func fullClasses() []string {
	return slices.DeleteFunc(someClasses(), func(c string) bool { return c == "" })
}

// allTimes holds each right pair of Least and Most.
func allTimes() [][2]int64 {
	var all [][2]int64
	for least := int64(0); least <= 20; least++ {
		all = append(all, [2]int64{least, -1})
		for most := max(least, 1); most <= 20; most++ {
			all = append(all, [2]int64{least, most})
		}
	}
	return all
}

// dice throws numbers below a bound, the same ones in each run.
type dice uint32

func (d *dice) below(n int) int {
	*d = *d*1664525 + 1013904223
	return int(uint32(*d) >> 8 % uint32(n))
}

// mixedPatterns holds right patterns of all counts of atoms.
func mixedPatterns() [][]impl.Atom {
	d := dice(5)
	classes, pairs := fullClasses(), allTimes()
	var all [][]impl.Atom
	for n := 1; n <= impl.MaxAtoms; n++ {
		for range 20 {
			var p []impl.Atom
			for left := int64(40); len(p) < n; {
				pair := pairs[d.below(len(pairs))]
				need := max(pair[0], pair[1], 1)
				// Each of the atoms behind it must find room for one.
				if need > left-int64(n-len(p)-1) {
					continue
				}
				left -= need
				p = append(p, impl.Atom{Class: classes[d.below(len(classes))], Least: pair[0], Most: pair[1]})
			}
			all = append(all, p)
		}
	}
	return all
}

// rightPatterns holds right patterns at the edges that the document names.
func rightPatterns() [][]impl.Atom {
	all := [][]impl.Atom{
		{once("a")},
		{once(allBytes())},
		{once("\x00"), once("\xff")},
		sameAtom(impl.MaxAtoms, once("ab")),
		sameAtom(impl.MaxAtoms, impl.Atom{Class: "a", Least: 0, Most: -1}),
		sameAtom(impl.MaxAtoms, impl.Atom{Class: "a", Least: 2, Most: 2}),
		sameAtom(impl.MaxAtoms, impl.Atom{Class: "a", Least: 0, Most: 2}),
		sameAtom(impl.MaxAtoms, impl.Atom{Class: "a", Least: 2, Most: -1}),
		sameAtom(2, impl.Atom{Class: "a", Least: 20, Most: 20}),
		sameAtom(2, impl.Atom{Class: "a", Least: 20, Most: -1}),
		sameAtom(2, impl.Atom{Class: "a", Least: 0, Most: 20}),
		{{Class: "a", Least: 3, Most: 20}, {Class: "b", Least: 19, Most: -1}, {Class: "c", Least: 0, Most: -1}},
		{{Class: "a", Least: 0, Most: -1}, {Class: "b", Least: 19, Most: 19}, {Class: "c", Least: 20, Most: -1}},
	}
	for _, pair := range allTimes() {
		all = append(all, times("ab", pair[0], pair[1]))
	}
	for _, c := range fullClasses() {
		all = append(all, times(c, 1, 1))
	}
	return append(all, mixedPatterns()...)
}

// wrongPattern is a pattern that is not right, and why.
type wrongPattern struct {
	what    string
	pattern []impl.Atom
}

// wrongAtoms are not right by themselves.
func wrongAtoms() []wrongPattern {
	all := []wrongPattern{
		{"an empty class", times("", 1, 1)},
		{"an empty class, that may be left out", times("", 0, -1)},
		{"Least below 0", times("a", -1, 1)},
		{"Least below 0, Most -1", times("a", -1, -1)},
		{"Least far below 0", times("a", math.MinInt64, -1)},
		{"Least one above MaxTimes", times("a", 21, -1)},
		{"Least and Most one above MaxTimes", times("a", 21, 21)},
		{"Least far above MaxTimes", times("a", math.MaxInt64, -1)},
		{"Most one above MaxTimes", times("a", 1, 21)},
		{"Most one above MaxTimes, Least 0", times("a", 0, 21)},
		{"Most far above MaxTimes", times("a", 0, math.MaxInt64)},
		{"Least above Most", times("a", 2, 1)},
		{"Least above Most at MaxTimes", times("a", 20, 19)},
		{"none at all", times("a", 0, 0)},
		{"Least 1, Most 0", times("a", 1, 0)},
		{"Most -2", times("a", 0, -2)},
		{"Most -2 and Least -2", times("a", -2, -2)},
		{"Most far below -1", times("a", 0, math.MinInt64)},
	}
	for _, c := range wrongClasses() {
		all = append(all, wrongPattern{c.what, times(c.class, 1, 1)})
	}
	return all
}

func wrongPatterns() []wrongPattern {
	star := impl.Atom{Class: "a", Least: 0, Most: -1}
	all := []wrongPattern{
		{"none", nil},
		{"no atoms", []impl.Atom{}},
		{"one atom more than MaxAtoms", sameAtom(impl.MaxAtoms+1, once("a"))},
		{"one atom more than MaxAtoms, that may all be left out", sameAtom(impl.MaxAtoms+1, star)},
		{"MaxList atoms", sameAtom(impl.MaxList, once("a"))},
		{"one atom more than MaxList", sameAtom(impl.MaxList+1, once("a"))},
		{"41 by Most", append(sameAtom(2, impl.Atom{Class: "a", Least: 0, Most: 20}), once("b"))},
		{"41 by Least", append(sameAtom(2, impl.Atom{Class: "a", Least: 20, Most: -1}), once("b"))},
		{"41 by what counts 1 at least", append(sameAtom(2, impl.Atom{Class: "a", Least: 20, Most: 20}), star)},
		{"41 by what may be left out", append(sameAtom(2, impl.Atom{Class: "a", Least: 20, Most: 20}), times("b", 0, 1)...)},
		{"41 of MaxAtoms", append(sameAtom(impl.MaxAtoms-1, impl.Atom{Class: "a", Least: 2, Most: 2}), times("b", 3, 3)...)},
		{"60 of three", sameAtom(3, impl.Atom{Class: "a", Least: 20, Most: 20})},
	}
	for _, w := range wrongAtoms() {
		all = append(all, w,
			wrongPattern{w.what + ", ahead of a right one", append(slices.Clone(w.pattern), once("b"))},
			wrongPattern{w.what + ", behind a right one", append(sameAtom(1, once("b")), w.pattern...)})
	}
	return all
}

func TestPatternLimits(t *testing.T) {
	if got, want := [2]int64{impl.MaxAtoms, impl.MaxTimes}, [2]int64{20, 20}; got != want {
		t.Errorf("got %v, want %v", got, want)
	}
}

func TestRightPatterns(t *testing.T) {
	for _, p := range rightPatterns() {
		if !impl.PatternRight(p) {
			t.Fatalf("PatternRight(%#v): got false", p)
		}
	}
}

func TestWrongPatterns(t *testing.T) {
	for _, w := range wrongPatterns() {
		if impl.PatternRight(w.pattern) {
			t.Errorf("PatternRight, %s: got true", w.what)
		}
		if got := impl.PatternText(w.pattern); got != "" {
			t.Errorf("PatternText, %s: got %q", w.what, got)
		}
		if got := impl.LeastLen(w.pattern); got != -1 {
			t.Errorf("LeastLen, %s: got %d", w.what, got)
		}
		if got := impl.MostLen(w.pattern); got != -1 {
			t.Errorf("MostLen, %s: got %d", w.what, got)
		}
		if got := impl.Reverse(w.pattern); len(got) != 0 {
			t.Errorf("Reverse, %s: got %#v", w.what, got)
		}
	}
}

func TestEachLeastAndMost(t *testing.T) {
	for least := int64(-3); least <= 23; least++ {
		for most := int64(-3); most <= 23; most++ {
			want := slices.Contains(allTimes(), [2]int64{least, most})
			if got := impl.PatternRight(times("a", least, most)); got != want {
				t.Fatalf("Least %d, Most %d: got %v, want %v", least, most, got, want)
			}
		}
	}
}

func TestClassTextOfEachByte(t *testing.T) {
	for b := range 256 {
		class := string([]byte{byte(b)})
		text := impl.ClassText(class)
		wantClass(t, "ClassText of one byte", text, plainByte(b))
		wantPattern(t, text, impl.PatternRead(text), times(class, 1, 1))
	}
}

func TestClassText(t *testing.T) {
	every2 := plainClass(func(b int) bool { return b%2 == 0 })
	for _, c := range []struct {
		class string
		want  string
	}{
		{"a", "a"},
		{"\x00", `\x00`},
		{"\x1f", `\x1f`},
		{" ", " "},
		{"~", "~"},
		{"\x7f", `\x7f`},
		{"\xff", `\xff`},
		{"\\", `\\`},
		{"-", `\-`},
		{"^", `\^`},
		{"$", "$"},
		{"ab", "[ab]"},
		{"ac", "[ac]"},
		{"abc", "[a-c]"},
		{"abd", "[abd]"},
		{"acd", "[acd]"},
		{"abce", "[a-ce]"},
		{"acdeg", "[ac-eg]"},
		{"abcxyz", "[a-cx-z]"},
		{"\x1e\x1f ", `[\x1e- ]`},
		{"~\x7f\x80", `[~-\x80]`},
		{"\xfe\xff", `[\xfe\xff]`},
		{"\xfd\xfe\xff", `[\xfd-\xff]`},
		{"\x00\xff", `[\x00\xff]`},
		{",-.", `[,-\.]`},
		{"+-", `[\+\-]`},
		{"[\\]^", `[\[-\^]`},
		{"()*+", `[\(-\+]`},
		{impl.ClassSpan(0, 127), `[\x00-\x7f]`},
		{impl.ClassSpan(128, 255), `[\x80-\xff]`},
		{impl.ClassSpan(0, 128), `[^\x81-\xff]`},
		{impl.ClassSpan(127, 255), `[^\x00-~]`},
		{impl.ClassSpan(0, 254), `[^\xff]`},
		{impl.ClassSpan(1, 255), `[^\x00]`},
		{impl.ClassSpan(0, 253), `[^\xfe\xff]`},
		{impl.ClassNot("^"), `[^\^]`},
		{impl.ClassNot("az"), "[^az]"},
		{impl.ClassNot("abc"), "[^a-c]"},
		{every2, "[" + plainRuns(every2) + "]"},
		{impl.ClassNot(every2), "[" + plainRuns(impl.ClassNot(every2)) + "]"},
		{impl.ClassOr(every2, "a"), "[^" + plainRuns(impl.ClassNot(impl.ClassOr(every2, "a"))) + "]"},
		{allBytes(), "."},
	} {
		wantClass(t, "ClassText of "+strconv.Quote(c.class), impl.ClassText(c.class), c.want)
	}
}

func TestClassTextOfWrongClasses(t *testing.T) {
	wantClass(t, "ClassText of none", impl.ClassText(""), "")
	for _, c := range wrongClasses() {
		wantClass(t, "ClassText, "+c.what, impl.ClassText(c.class), "")
	}
}

func TestClassesComeBackFromTheirTexts(t *testing.T) {
	for _, c := range fullClasses() {
		text := impl.ClassText(c)
		wantClass(t, "ClassText", text, plainClassText(c))
		wantPattern(t, text, impl.PatternRead(text), times(c, 1, 1))
	}
}

func TestEachSpanComesBackFromItsText(t *testing.T) {
	for low := range int64(256) {
		for high := low; high < 256; high++ {
			c := impl.ClassSpan(low, high)
			text := impl.ClassText(c)
			wantClass(t, "ClassText", text, plainClassText(c))
			wantPattern(t, text, impl.PatternRead(text), times(c, 1, 1))
		}
	}
}

func TestHowOftenIsWritten(t *testing.T) {
	for _, c := range []struct {
		least int64
		most  int64
		want  string
	}{
		{1, 1, "a"},
		{0, 1, "a?"},
		{0, -1, "a*"},
		{1, -1, "a+"},
		{2, 2, "a{2}"},
		{20, 20, "a{20}"},
		{2, -1, "a{2,}"},
		{20, -1, "a{20,}"},
		{0, 2, "a{0,2}"},
		{0, 20, "a{0,20}"},
		{1, 2, "a{1,2}"},
		{10, 20, "a{10,20}"},
	} {
		wantClass(t, "PatternText", impl.PatternText(times("a", c.least, c.most)), c.want)
	}
}

func TestPatternsComeBackFromTheirTexts(t *testing.T) {
	for _, p := range rightPatterns() {
		text := impl.PatternText(p)
		wantClass(t, "PatternText", text, plainText(p))
		if len(text) > impl.MaxBytes {
			wantRefused(t, text, impl.PatternRead(text), impl.ErrSize)
			continue
		}
		wantPattern(t, text, impl.PatternRead(text), p)
	}
}

// TestALongText: a right pattern may have a text that is too long to be handed in.
func TestALongText(t *testing.T) {
	every2 := plainClass(func(b int) bool { return b%2 == 0 })
	one := plainClassText(every2)
	for n := 1; n <= impl.MaxAtoms; n++ {
		p := sameAtom(n, once(every2))
		text := impl.PatternText(p)
		wantClass(t, "PatternText", text, strings.Repeat(one, n))
		if len(text) > impl.MaxBytes {
			wantRefused(t, "a long text", impl.PatternRead(text), impl.ErrSize)
		} else {
			wantPattern(t, "a long text", impl.PatternRead(text), p)
		}
	}
}

func TestPatternRead(t *testing.T) {
	not := func(c string) string { return plainClass(func(b int) bool { return !hasByte(c, b) }) }
	for _, c := range []struct {
		text string
		want []impl.Atom
	}{
		{"a", times("a", 1, 1)},
		{" ", times(" ", 1, 1)},
		{"~", times("~", 1, 1)},
		{",", times(",", 1, 1)},
		{"0", times("0", 1, 1)},
		{".", times(allBytes(), 1, 1)},
		{"ab", []impl.Atom{once("a"), once("b")}},
		{"a1", []impl.Atom{once("a"), once("1")}},
		{"a?", times("a", 0, 1)},
		{"a*", times("a", 0, -1)},
		{"a+", times("a", 1, -1)},
		{"a{1}", times("a", 1, 1)},
		{"a{2}", times("a", 2, 2)},
		{"a{2,2}", times("a", 2, 2)},
		{"a{1,1}", times("a", 1, 1)},
		{"a{0,1}", times("a", 0, 1)},
		{"a{0,}", times("a", 0, -1)},
		{"a{1,}", times("a", 1, -1)},
		{"a{0,20}", times("a", 0, 20)},
		{"a{20}", times("a", 20, 20)},
		{"a{20,}", times("a", 20, -1)},
		{"a{20,20}", times("a", 20, 20)},
		{"a{02}", times("a", 2, 2)},
		{"a{00,09}", times("a", 0, 9)},
		{".?", times(allBytes(), 0, 1)},
		{"[ab]{3}", times("ab", 3, 3)},
		{"a?b*c+d{2}", []impl.Atom{{Class: "a", Most: 1}, {Class: "b", Most: -1}, {Class: "c", Least: 1, Most: -1}, {Class: "d", Least: 2, Most: 2}}},
		{`\.`, times(".", 1, 1)},
		{`\\`, times(`\`, 1, 1)},
		{`\ `, times(" ", 1, 1)},
		{`\_`, times("_", 1, 1)},
		{`\,`, times(",", 1, 1)},
		{"\\\x00", times("\x00", 1, 1)},
		{"\\\x7f", times("\x7f", 1, 1)},
		{"\\\xff", times("\xff", 1, 1)},
		{`\x61`, times("a", 1, 1)},
		{`\x2e`, times(".", 1, 1)},
		{`\x00\xff`, []impl.Atom{once("\x00"), once("\xff")}},
		{`\x611`, []impl.Atom{once("a"), once("1")}},
		{`\\x61`, []impl.Atom{once(`\`), once("x"), once("6"), once("1")}},
		{"[a]", times("a", 1, 1)},
		{"[aa]", times("a", 1, 1)},
		{"[ba]", times("ab", 1, 1)},
		{"[a-a]", times("a", 1, 1)},
		{"[a-b]", times("ab", 1, 1)},
		{"[a-c]", times("abc", 1, 1)},
		{"[x-za-c]", times("abcxyz", 1, 1)},
		{"[a-cb-e]", times("abcde", 1, 1)},
		{"[a-cb]", times("abc", 1, 1)},
		{`[\]]`, times("]", 1, 1)},
		{`[\^a]`, times("^a", 1, 1)},
		{`[a\^]`, times("^a", 1, 1)},
		{`[\-]`, times("-", 1, 1)},
		{`[a\-c]`, times("-ac", 1, 1)},
		{`[\+-\-]`, times("+,-", 1, 1)},
		{`[,-\.]`, times(",-.", 1, 1)},
		{`[\x61-\x63]`, times("abc", 1, 1)},
		{`[\x00-\xff]`, times(allBytes(), 1, 1)},
		{`[\xff]`, times("\xff", 1, 1)},
		{`[\xfe-\xff]`, times("\xfe\xff", 1, 1)},
		{"[\\\x80-\\\x82]", times("\x80\x81\x82", 1, 1)},
		{"[^a]", times(not("a"), 1, 1)},
		{"[^a-c]+", times(not("abc"), 1, -1)},
		{`[^\^]`, times(not("^"), 1, 1)},
		{`[^\x00-\xfe]`, times("\xff", 1, 1)},
		{`[^\x01-\xff]`, times("\x00", 1, 1)},
	} {
		wantPattern(t, c.text, impl.PatternRead(c.text), c.want)
	}
}

func TestPatternReadFolded(t *testing.T) {
	for _, c := range []struct {
		text string
		want []impl.Atom
	}{
		{"(?i)a", times("Aa", 1, 1)},
		{"(?i)Z+", times("Zz", 1, -1)},
		{"(?i)aB{2}", []impl.Atom{once("Aa"), {Class: "Bb", Least: 2, Most: 2}}},
		{"(?i)1a?_", []impl.Atom{once("1"), {Class: "Aa", Most: 1}, once("_")}},
		{"(?i)[a-c1]", times("1ABCabc", 1, 1)},
		{"(?i)[aA]", times("Aa", 1, 1)},
		{"(?i).", times(allBytes(), 1, 1)},
		{"(?i)[@`\\{]", times("@`{", 1, 1)},
		{`(?i)\x41`, times("Aa", 1, 1)},
		{`(?i)\xe0`, times("\xe0", 1, 1)},
		{"(?i)[^a]", times(allBytes(), 1, 1)},
		{"(?i)[^Aa]", times(plainClass(func(b int) bool { return b != 'A' && b != 'a' }), 1, 1)},
		{`\(\?i\)a`, []impl.Atom{once("("), once("?"), once("i"), once(")"), once("a")}},
	} {
		wantPattern(t, c.text, impl.PatternRead(c.text), c.want)
	}
	for _, p := range rightPatterns() {
		want := slices.Clone(p)
		for i := range want {
			want[i].Class = plainFold(want[i].Class)
		}
		if text := "(?i)" + plainText(p); len(text) <= impl.MaxBytes {
			wantPattern(t, text, impl.PatternRead(text), want)
		}
	}
}

func TestTextsThatMeanNone(t *testing.T) {
	for _, text := range []string{
		"", "(?i)", "(", ")", "(a)", "(?i", "(?i)(?i)a", "a(?i)", "(?I)a", "(?i) (", " (?i)a",
		"?", "*", "+", "{", "}", "{2}", "]", "^", "^a", "-", "a-b", "}a", "a}", "a]",
		"a??", "a**", "a++", "a?*", "a+?", "a*+", "a{2}?", "a?{2}", "a{2}{2}", "a{1}{1}", "(?i)?",
		"a{", "a{}", "a{2", "a{2,", "a{2,3", "a{,}", "a{,3}", "a{2,3,}", "a{2,3,4}", "a{2;3}", "a{x}", "a{2x}", "a{2,x}",
		"a{ 2}", "a{2 }", "a{2, 3}", "a{2 ,3}", "a{-1}", "a{+1}", "a{2,-1}", "a{0x2}", "a{a}", "a{1,a}", "a{1f}",
		"a{002}", "a{100}", "a{020}", "a{0,020}", "a{2,002}", "a{111,}", "a{1111111111111111111111}",
		"a{0}", "a{0,0}", "a{00}", "a{2,1}", "a{20,19}", "a{1,0}", "a{21}", "a{21,}", "a{0,21}", "a{99}", "a{21,21}",
		"[", "[]", "[^", "[^]", "[a", "[^a", "[a-", "[a-]", "[a-c", "[-a]", "[-]", "[a--]", "[a-b-c]", "[b-a]", `[\x02-\x01]`,
		"[^b-a]", "[]a]", "[^]a]", "[[]", "[[a]]", "[a^]", "[^^]", "[.]", "[?]", "[*]", "[+]", "[(]", "[)]", "[{]", "[}]", "[ab]]", "[+--]", "[,{]", "(?i)[@`{]",
		`[\`, `[\]`, `[a\`, `[a-\`, `[a-\]`, `[\a]`, `[\n]`, `[\d]`, `[a-\d]`, `[\0]`, `[\x6]`, `[\xg0]`, `[^\x00-\xff]`,
		`[^\x00-\x7f\x80-\xff]`, `(?i)[^\x00-\xff]`,
		`\`, `a\`, `\\\`, `\a`, `\n`, `\z`, `\A`, `\Z`, `\d`, `\w`, `\0`, `\1`, `\9`, `\X61`, `\u0061`,
		`\x`, `\x6`, `\xg1`, `\x1g`, `\x-1`, `\x+1`, `\x 1`, `\x6A`, `\x6F`, `\xAa`, `\x1`, `\x{61}`,
		"\x00", "\x1f", "\x7f", "\x80", "\xff", "\n", "\t", "a\x1f", "a\nb", "\u00e9", "[\x1f]", "[\x7f]", "[\xff]", "[a-\x7f]", "[\x00-a]",
		"a{2\x00}", "a\x00{2}", "a[", "ab[]c", "a[b-a]c",
	} {
		wantRefused(t, strconv.Quote(text), impl.PatternRead(text), impl.ErrSyntax)
	}
}

func TestTextsAtTheLimitsOfPatterns(t *testing.T) {
	for _, text := range []string{
		strings.Repeat("a", impl.MaxAtoms),
		strings.Repeat("a*", impl.MaxAtoms),
		strings.Repeat("a{2}", impl.MaxAtoms),
		"a{20}b{20,}",
		"a{0,20}b{19}c*",
		"(?i)" + strings.Repeat("a", impl.MaxAtoms),
	} {
		if got := impl.PatternRead(text); got.Code != impl.OK || !impl.PatternRight(got.Pattern) {
			t.Errorf("%q: got %#v", text, got)
		}
	}
	for _, text := range []string{
		strings.Repeat("a", impl.MaxAtoms+1),
		strings.Repeat("a*", impl.MaxAtoms+1),
		strings.Repeat("a", impl.MaxBytes),
		strings.Repeat(".", impl.MaxBytes),
		"a{20}b{20,}c",
		"a{20}b{20}c?",
		"a{20}b{20}c*",
		"a{0,20}b{0,20}c",
		"(?i)" + strings.Repeat("a", impl.MaxAtoms+1),
	} {
		wantRefused(t, text, impl.PatternRead(text), impl.ErrSyntax)
	}
}

func TestTextsAtMaxBytes(t *testing.T) {
	full := "[" + strings.Repeat("a", impl.MaxBytes-2) + "]"
	wantPattern(t, "MaxBytes bytes", impl.PatternRead(full), times("a", 1, 1))
	wantPattern(t, "MaxBytes bytes, folded", impl.PatternRead("(?i)["+full[5:]), times("Aa", 1, 1))
	wantRefused(t, "MaxBytes bytes, not shut", impl.PatternRead(full[:impl.MaxBytes-1]+"a"), impl.ErrSyntax)
	// Too long is looked for ahead of all else, be it a pattern or not.
	wantRefused(t, "one byte more", impl.PatternRead("[a"+full[1:]), impl.ErrSize)
	wantRefused(t, "one byte more, folded", impl.PatternRead("(?i)"+full[:impl.MaxBytes-4]+"]"), impl.ErrSize)
	wantRefused(t, "one byte more, not shut", impl.PatternRead("["+full[:impl.MaxBytes]), impl.ErrSize)
	wantRefused(t, "one byte more of no pattern", impl.PatternRead(someBytes(impl.MaxBytes+1)), impl.ErrSize)
	wantRefused(t, "twice as many", impl.PatternRead(full+full), impl.ErrSize)
}

func TestEachByteAloneAndBehindAStroke(t *testing.T) {
	for b := range 256 {
		one := string([]byte{byte(b)})
		alone, span, stroked := impl.PatternRead(one), impl.PatternRead("["+one+"]"), impl.PatternRead(`\`+one)
		switch {
		case b == '.':
			wantPattern(t, "a dot", alone, times(allBytes(), 1, 1))
		case b >= 32 && b <= 126 && !isStroked(b):
			wantPattern(t, "alone "+one, alone, times(one, 1, 1))
			wantPattern(t, "in brackets "+one, span, times(one, 1, 1))
		default:
			wantRefused(t, "alone "+one, alone, impl.ErrSyntax)
			wantRefused(t, "in brackets "+one, span, impl.ErrSyntax)
		}
		if isLetter(b) || b >= '0' && b <= '9' {
			wantRefused(t, "behind a stroke "+one, stroked, impl.ErrSyntax)
		} else {
			wantPattern(t, "behind a stroke "+one, stroked, times(one, 1, 1))
		}
	}
}

func TestEachPairOfHexDigits(t *testing.T) {
	for a := range 256 {
		for b := range 256 {
			text := `\x` + string([]byte{byte(a), byte(b)})
			got := impl.PatternRead(text)
			if hasByte("0123456789abcdef", a) && hasByte("0123456789abcdef", b) {
				n, _ := strconv.ParseUint(text[2:], 16, 8)
				wantPattern(t, text, got, times(string([]byte{byte(n)}), 1, 1))
			} else {
				wantRefused(t, strconv.Quote(text), got, impl.ErrSyntax)
			}
		}
	}
}

// The document's grammar, over texts whose runes are the bytes.
const (
	gramByte  = `(?:[ !"#$%&',/0-9:;<=>@A-Z_` + "`" + `a-z|~]|\\[^0-9A-Za-z]|\\x[0-9a-f]{2})`
	gramClass = `(\.|` + gramByte + `|\[\^?(?:` + gramByte + `(?:-` + gramByte + `)?)+\])`
	gramTimes = `(\?|\*|\+|\{[0-9]{1,2}(?:,(?:[0-9]{1,2})?)?\}|)`
)

// grammar reads patterns by the document's words alone, for small texts.
type grammar struct {
	whole *regexp.Regexp
	atom  *regexp.Regexp
	item  *regexp.Regexp
}

func newGrammar() grammar {
	return grammar{
		whole: regexp.MustCompile(`(?s)\A(?:\(\?i\))?(?:` + gramClass + gramTimes + `)+\z`),
		atom:  regexp.MustCompile(`(?s)\A` + gramClass + gramTimes),
		item:  regexp.MustCompile(`(?s)\A(` + gramByte + `)(?:-(` + gramByte + `))?`),
	}
}

// byteMeant is the byte that a piece of the grammar means.
func byteMeant(piece string) int {
	runes := []rune(piece)
	if len(runes) == 4 {
		n, _ := strconv.ParseUint(piece[2:], 16, 8)
		return int(n)
	}
	return int(runes[len(runes)-1])
}

// classMeant is the class that a piece of the grammar means; right is false, if a span is the wrong way round.
func (g grammar) classMeant(piece string) (class string, right bool) {
	if piece == "." {
		return allBytes(), true
	}
	if !strings.HasPrefix(piece, "[") {
		return plainClass(func(b int) bool { return b == byteMeant(piece) }), true
	}
	rest, not := strings.CutPrefix(strings.TrimPrefix(piece, "["), "^")
	var in [256]bool
	for rest != "]" {
		m := g.item.FindStringSubmatch(rest)
		rest = rest[len(m[0]):]
		low := byteMeant(m[1])
		high := low
		if m[2] != "" {
			high = byteMeant(m[2])
		}
		if low > high {
			return "", false
		}
		for b := low; b <= high; b++ {
			in[b] = true
		}
	}
	return plainClass(func(b int) bool { return in[b] != not }), true
}

// timesMeant is what a piece of the grammar tells of how often.
func timesMeant(piece string) (least int64, most int64) {
	switch piece {
	case "":
		return 1, 1
	case "?":
		return 0, 1
	case "*":
		return 0, -1
	case "+":
		return 1, -1
	}
	first, second, two := strings.Cut(strings.Trim(piece, "{}"), ",")
	least, _ = strconv.ParseInt(first, 10, 64)
	most = least
	if two {
		most = -1
		if second != "" {
			most, _ = strconv.ParseInt(second, 10, 64)
		}
	}
	return least, most
}

// read tells the pattern that a text means, none if it means none.
func (g grammar) read(text string) []impl.Atom {
	runes := make([]rune, len(text))
	for i := range runes {
		runes[i] = rune(text[i])
	}
	if !g.whole.MatchString(string(runes)) {
		return nil
	}
	rest, fold := strings.CutPrefix(string(runes), "(?i)")
	var p []impl.Atom
	for together := int64(0); rest != ""; {
		m := g.atom.FindStringSubmatch(rest)
		rest = rest[len(m[0]):]
		class, right := g.classMeant(m[1])
		if fold {
			class = plainFold(class)
		}
		least, most := timesMeant(m[2])
		together += max(least, most, 1)
		if !right || class == "" || !slices.Contains(allTimes(), [2]int64{least, most}) || together > 40 || len(p) == 20 {
			return nil
		}
		p = append(p, impl.Atom{Class: class, Least: least, Most: most})
	}
	return p
}

// wantAsGrammar holds what is read of a text against the grammar, and tells whether it means a pattern.
func (g grammar) wantAsGrammar(t *testing.T, text string) bool {
	t.Helper()
	got, want := impl.PatternRead(text), g.read(text)
	if want == nil {
		wantRefused(t, strconv.Quote(text), got, impl.ErrSyntax)
		return false
	}
	wantPattern(t, strconv.Quote(text), got, want)
	again := impl.PatternText(got.Pattern)
	wantClass(t, "PatternText of what "+strconv.Quote(text)+" means", again, plainText(want))
	wantPattern(t, strconv.Quote(again), impl.PatternRead(again), want)
	return true
}

func TestAllTextsOfTwoBytes(t *testing.T) {
	g := newGrammar()
	for a := range 256 {
		for b := range 256 {
			g.wantAsGrammar(t, string([]byte{byte(a), byte(b)}))
		}
	}
}

// pieces are what texts of patterns, and texts that are nearly so, are made of.
func pieces() []string {
	return []string{"a", "b", "z", "A", "0", "2", "9", " ", "~", ",", ".", "-", "^", "?", "*", "+", "{", "}", "(", ")", "[", "]", `\`, "x", "\x1f", "\x7f", "\xff",
		"(?i)", "[a-c]", "[^a]", "[^", "[", "]", "]", "a-c", `\x00`, `\x6`, `\xff`, `\\`, `\-`, `\]`, `\a`, "{2}", "{0,1}", "{1,}", "{0,}", "{20}", "{21}", "{2,1}", "{0}", "{03}", "{003}", "a{2,3}"}
}

func TestMixedTextsAreReadByTheGrammar(t *testing.T) {
	g, d, all := newGrammar(), dice(11), pieces()
	patterns := 0
	for range 60000 {
		text := ""
		for range 1 + d.below(6) {
			text += all[d.below(len(all))]
		}
		if g.wantAsGrammar(t, text) {
			patterns++
		}
	}
	if patterns < 2000 {
		t.Fatalf("only %d of the texts mean a pattern", patterns)
	}
}

func TestTurnedTextsAreReadByTheGrammar(t *testing.T) {
	g, d := newGrammar(), dice(12)
	for _, p := range rightPatterns() {
		text := []byte(plainText(p))
		if len(text) > 300 {
			continue
		}
		for range 5 {
			at := d.below(len(text))
			changed := slices.Clone(text)
			changed[at] = byte(d.below(256))
			g.wantAsGrammar(t, string(changed))
			g.wantAsGrammar(t, string(text[:at]))
			g.wantAsGrammar(t, string(text[at:]))
			g.wantAsGrammar(t, string(text[:at])+string(text[at+1:]))
		}
	}
}

func TestLeastLenAndMostLen(t *testing.T) {
	for _, c := range []struct {
		text  string
		least int64
		most  int64
	}{
		{"a", 1, 1},
		{"a?", 0, 1},
		{"a*", 0, -1},
		{"a+", 1, -1},
		{"abc", 3, 3},
		{"a{2,5}b", 3, 6},
		{"a?b?c?", 0, 3},
		{"a{20}b{20}", 40, 40},
		{"a{0,20}b{0,20}", 0, 40},
		{"a{20,}b{20,}", 40, -1},
		{"a*b", 1, -1},
		{"ab*", 1, -1},
		{"a{3,}b{4}", 7, -1},
		{strings.Repeat(".", 20), 20, 20},
		{strings.Repeat("a*", 20), 0, -1},
	} {
		p := impl.PatternRead(c.text).Pattern
		if got := impl.LeastLen(p); got != c.least {
			t.Errorf("LeastLen of %q: got %d, want %d", c.text, got, c.least)
		}
		if got := impl.MostLen(p); got != c.most {
			t.Errorf("MostLen of %q: got %d, want %d", c.text, got, c.most)
		}
	}
	for _, p := range rightPatterns() {
		least, most := int64(0), int64(0)
		for _, a := range p {
			least += a.Least
			if most += a.Most; a.Most == -1 {
				most = math.MinInt64 / 2
			}
		}
		if got, want := [2]int64{impl.LeastLen(p), impl.MostLen(p)}, [2]int64{least, max(most, -1)}; got != want {
			t.Fatalf("LeastLen and MostLen of %#v: got %v, want %v", p, got, want)
		}
	}
}

func TestReverse(t *testing.T) {
	if got, want := impl.PatternText(impl.Reverse(impl.PatternRead("ab?[cd]*e{2,3}").Pattern)), "e{2,3}[cd]*b?a"; got != want {
		t.Errorf("got %q, want %q", got, want)
	}
	for _, p := range rightPatterns() {
		want := slices.Clone(p)
		slices.Reverse(want)
		got := impl.Reverse(p)
		if !slices.Equal(got, want) {
			t.Fatalf("Reverse(%#v): got %#v", p, got)
		}
		if again := impl.Reverse(got); !slices.Equal(again, p) {
			t.Fatalf("Reverse twice of %#v: got %#v", p, again)
		}
		if impl.LeastLen(got) != impl.LeastLen(p) || impl.MostLen(got) != impl.MostLen(p) {
			t.Fatalf("Reverse(%#v) has other lengths", p)
		}
	}
}

// roomy is a copy of a pattern with an atom behind it that no call may touch.
func roomy(p []impl.Atom) []impl.Atom {
	return append(slices.Clone(p), impl.Atom{Class: "guard", Least: 7, Most: 9})[:len(p)]
}

func TestPatternsHandedInAreNotChanged(t *testing.T) {
	for _, w := range append(wrongPatterns(), wrongPattern{"right", impl.PatternRead("a?b[^c]*").Pattern}) {
		p := roomy(w.pattern)
		impl.PatternRight(p)
		impl.PatternText(p)
		impl.LeastLen(p)
		impl.MostLen(p)
		impl.Reverse(p)
		want := append(slices.Clone(w.pattern), impl.Atom{Class: "guard", Least: 7, Most: 9})
		if !slices.Equal(p[:len(p)+1], want) {
			t.Errorf("%s: a call changed what was handed in", w.what)
		}
	}
}

func TestReverseIsNewMemory(t *testing.T) {
	for _, p := range rightPatterns() {
		was := slices.Clone(p)
		got := impl.Reverse(p)
		for i := range got {
			if a, b := p[len(p)-1-i].Class, got[i].Class; sharesMemory(a, b) {
				t.Fatalf("Reverse: the class %q shares memory with what was handed in", b)
			}
			got[i] = impl.Atom{Class: "other"}
		}
		if !slices.Equal(p, was) {
			t.Fatalf("Reverse shares memory with what was handed in")
		}
	}
}

func TestReadPatternsAreNewMemory(t *testing.T) {
	text := "ab?[c-e]*"
	first, second := impl.PatternRead(text), impl.PatternRead(text)
	for i := range first.Pattern {
		first.Pattern[i] = impl.Atom{}
	}
	wantPattern(t, "what was read beside it", second, []impl.Atom{once("a"), {Class: "b", Most: 1}, {Class: "cde", Most: -1}})
	wantPattern(t, "what is read again", impl.PatternRead(text), second.Pattern)
	for _, long := range []string{"abc", "[abc]", "a[xyz]c"} {
		for _, a := range impl.PatternRead(long).Pattern {
			if sharesMemory(long, a.Class) {
				t.Errorf("the class %q shares memory with the text", a.Class)
			}
		}
	}
}

func TestPatternTextsAreNewMemory(t *testing.T) {
	class := "a"
	if sharesMemory(class, impl.ClassText(class)) {
		t.Errorf("ClassText shares memory with the class")
	}
	if sharesMemory(class, impl.PatternText(times(class, 1, 1))) {
		t.Errorf("PatternText shares memory with the class")
	}
}
