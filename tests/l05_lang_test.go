package tests

import (
	"math"
	"regexp"
	"slices"
	"strings"
	"testing"

	"loop.example/g00736/impl"
)

// patternOf reads a pattern that a test needs.
func patternOf(t *testing.T, text string) []impl.Atom {
	t.Helper()
	out := impl.PatternRead(text)
	if out.Code != impl.OK {
		t.Fatalf("%q means no pattern: code %d", text, out.Code)
	}
	return out.Pattern
}

// patternsOf reads several.
func patternsOf(t *testing.T, texts ...string) [][]impl.Atom {
	t.Helper()
	var l [][]impl.Atom
	for _, text := range texts {
		l = append(l, patternOf(t, text))
	}
	return l
}

// cutsInto tries each way to cut a text, by the document's words; for short texts.
func cutsInto(p []impl.Atom, text string) bool {
	if len(p) == 0 {
		return text == ""
	}
	for size := 0; size <= len(text); size++ {
		if size > 0 && !hasByte(p[0].Class, int(text[size-1])) {
			return false
		}
		enough := int64(size) >= p[0].Least
		notTooMany := p[0].Most == -1 || int64(size) <= p[0].Most
		if enough && notTooMany && cutsInto(p[1:], text[size:]) {
			return true
		}
	}
	return false
}

// fitter tells whether a pattern means a text, without the program.
type fitter func(text string) bool

func byCuts(p []impl.Atom) fitter {
	return func(text string) bool { return cutsInto(p, text) }
}

// asRunes writes bytes as runes, so that no two of them are taken together.
func asRunes(text string) string {
	var out []rune
	for i := range len(text) {
		out = append(out, rune(text[i]))
	}
	return string(out)
}

// byRegexp asks the library, for patterns and texts that are too long to be cut in each way.
func byRegexp(p []impl.Atom) fitter {
	out := `(?s)\A`
	for _, a := range p {
		out += "["
		for i := range len(a.Class) {
			out += `\x` + string("0123456789abcdef"[a.Class[i]>>4]) + string("0123456789abcdef"[a.Class[i]&15])
		}
		out += "]" + plainTimes(a.Least, a.Most)
	}
	whole := regexp.MustCompile(out + `\z`)
	return func(text string) bool { return whole.MatchString(asRunes(text)) }
}

// plainStarts tells the beginnings of all pieces that are not empty and end at a place.
func plainStarts(fits fitter, text string, end int) []int64 {
	var out []int64
	for start := 0; start < end; start++ {
		if fits(text[start:end]) {
			out = append(out, int64(start))
		}
	}
	return out
}

// plainEnds tells the places from 1 on at which such a piece ends.
func plainEnds(fits fitter, text string) []int64 {
	var out []int64
	for end := 1; end <= len(text); end++ {
		if len(plainStarts(fits, text, end)) > 0 {
			out = append(out, int64(end))
		}
	}
	return out
}

func wantPlaces(t *testing.T, what string, got []int64, want []int64) {
	t.Helper()
	if !slices.Equal(got, want) {
		t.Fatalf("%s: got %v, want %v", what, got, want)
	}
}

// hitsOf writes hits as pairs of an End and a Pattern.
func hitsOf(pairs ...[2]int64) []impl.Hit {
	var out []impl.Hit
	for _, pair := range pairs {
		out = append(out, impl.Hit{End: pair[0], Pattern: pair[1]})
	}
	return out
}

func wantHits(t *testing.T, what string, got []impl.Hit, want []impl.Hit) {
	t.Helper()
	if !slices.Equal(got, want) {
		t.Fatalf("%s: got %v, want %v", what, got, want)
	}
}

// wantMeaning holds all that is asked of one pattern and one text against what was found without the program.
func wantMeaning(t *testing.T, p []impl.Atom, text string, fits fitter) {
	t.Helper()
	what := plainText(p) + " and " + asRunes(text)
	if got, want := impl.Fits(p, text), fits(text); got != want {
		t.Fatalf("Fits of %s: got %v, want %v", what, got, want)
	}
	ends := plainEnds(fits, text)
	wantPlaces(t, "EndsOf "+what, impl.EndsOf(p, text), ends)
	for end := 0; end <= len(text); end++ {
		wantPlaces(t, "StartsOf "+what, impl.StartsOf(p, text, int64(end)), plainStarts(fits, text, end))
	}
	var hits []impl.Hit
	for _, end := range ends {
		hits = append(hits, impl.Hit{End: end, Pattern: 0})
	}
	wantHits(t, "HitsOf "+what, impl.HitsOf([][]impl.Atom{p}, text), hits)
}

// placesTo counts from one place up to another.
func placesTo(first int64, last int64) []int64 {
	var out []int64
	for place := first; place <= last; place++ {
		out = append(out, place)
	}
	return out
}

func TestFits(t *testing.T) {
	for _, c := range []struct {
		pattern string
		fit     []string
		not     []string
	}{
		{"a", []string{"a"}, []string{"", "b", "aa", "ab", "ba"}},
		{"abc", []string{"abc"}, []string{"", "ab", "bc", "abcd", "acb", "ABC"}},
		{"a?", []string{"", "a"}, []string{"b", "aa"}},
		{"a*", []string{"", "a", "aa", "aaaa"}, []string{"b", "ab", "ba", "aba"}},
		{"a+", []string{"a", "aa", "aaaa"}, []string{"", "b", "ab", "ba"}},
		{"a{2}", []string{"aa"}, []string{"", "a", "aaa", "ab"}},
		{"a{20}", []string{strings.Repeat("a", 20)}, []string{"", strings.Repeat("a", 19), strings.Repeat("a", 21)}},
		{"a{2,}", []string{"aa", "aaa", strings.Repeat("a", 50)}, []string{"", "a", "aab"}},
		{"a{1,3}", []string{"a", "aa", "aaa"}, []string{"", "aaaa"}},
		{"a{0,3}", []string{"", "a", "aa", "aaa"}, []string{"aaaa", "b"}},
		{"a?b?c?", []string{"", "a", "b", "c", "ab", "ac", "bc", "abc"}, []string{"ba", "cb", "aa", "abcc"}},
		{"a*a", []string{"a", "aa", "aaaa"}, []string{"", "ab"}},
		{"aa*", []string{"a", "aa", "aaaa"}, []string{"", "ba"}},
		{".*b", []string{"b", "ab", "bb", "abab"}, []string{"", "a", "ba"}},
		{"[ab]*[bc]*", []string{"", "a", "b", "c", "abc", "aabbcc", "bab", "bcb"}, []string{"ca", "abca"}},
		{"[ab]{2}[bc]{1,2}", []string{"abb", "abc", "aabc", "bbbb"}, []string{"ab", "abcbc", "acb"}},
		{"a{1,2}a{1,2}b", []string{"aab", "aaab", "aaaab"}, []string{"ab", "aaaaab", "b", "aa"}},
		{`\x00\xff`, []string{"\x00\xff"}, []string{"", "\x00", "\xff\x00", "x00xff"}},
		{".", []string{"\x00", "\n", "a", "\x80", "\xff"}, []string{"", "ab", "\u00e9"}},
		{"[^a]+", []string{"b", "\x00\xff", "\u00e9"}, []string{"", "a", "ba", "bab"}},
		{"(?i)ab", []string{"ab", "AB", "aB", "Ab"}, []string{"a", "ac"}},
	} {
		p := patternOf(t, c.pattern)
		for _, text := range c.fit {
			if !impl.Fits(p, text) {
				t.Errorf("Fits of %q and %q: got false", c.pattern, text)
			}
		}
		for _, text := range c.not {
			if impl.Fits(p, text) {
				t.Errorf("Fits of %q and %q: got true", c.pattern, text)
			}
		}
	}
}

func TestEndsOf(t *testing.T) {
	for _, c := range []struct {
		pattern string
		text    string
		want    []int64
	}{
		{"a", "", nil},
		{"a*", "", nil},
		{"a*", "b", nil},
		{"a?", "bbb", nil},
		{"a", "a", []int64{1}},
		{"a", "abba", []int64{1, 4}},
		{"a", "baab", []int64{2, 3}},
		{"a*", "baab", []int64{2, 3}},
		{"a+b?", "aab", []int64{1, 2, 3}},
		{"a+b?", "bbaab", []int64{3, 4, 5}},
		{"aa", "aaaa", []int64{2, 3, 4}},
		{"aba", "ababa", []int64{3, 5}},
		{"a{2,3}", "aaaaa", []int64{2, 3, 4, 5}},
		{"ab*c", "abbcac", []int64{4, 6}},
		{"a?b?", "xaybxab", []int64{2, 4, 6, 7}},
		{".", "abc", []int64{1, 2, 3}},
		{"...", "abcde", []int64{3, 4, 5}},
		{".*", "abc", []int64{1, 2, 3}},
		{"[ab]*[bc]*", "xabcx", []int64{2, 3, 4}},
		{"ab", "b", nil},
		{"ab", "ba", nil},
	} {
		got := impl.EndsOf(patternOf(t, c.pattern), c.text)
		wantPlaces(t, "EndsOf "+c.pattern+" in "+c.text, got, c.want)
	}
}

func TestStartsOf(t *testing.T) {
	for _, c := range []struct {
		pattern string
		text    string
		end     int64
		want    []int64
	}{
		{"a+b?", "aab", 1, []int64{0}},
		{"a+b?", "aab", 2, []int64{0, 1}},
		{"a+b?", "aab", 3, []int64{0, 1}},
		{"a*", "aaa", 3, []int64{0, 1, 2}},
		{"a*", "aaa", 2, []int64{0, 1}},
		{"a*", "aba", 3, []int64{2}},
		{"a*", "aba", 2, nil},
		{"a", "aba", 1, []int64{0}},
		{"a", "aba", 3, []int64{2}},
		{"a{2,3}", "aaaaa", 5, []int64{2, 3}},
		{"a{2}", "aaaaa", 5, []int64{3}},
		{"ab", "abab", 2, []int64{0}},
		{"ab", "abab", 3, nil},
		{"ab", "abab", 4, []int64{2}},
		{".*b", "abab", 4, []int64{0, 1, 2, 3}},
		{".*b", "abab", 3, nil},
		{"a?b?", "ab", 2, []int64{0, 1}},
	} {
		got := impl.StartsOf(patternOf(t, c.pattern), c.text, c.end)
		wantPlaces(t, "StartsOf "+c.pattern+" in "+c.text, got, c.want)
	}
}

func TestStartsOfEndsThatAreNotThere(t *testing.T) {
	for _, pattern := range []string{"a", "a*", "a?", ".*", "a{3}"} {
		p := patternOf(t, pattern)
		for _, text := range []string{"", "a", "aaa", strings.Repeat("a", impl.MaxBytes)} {
			size := int64(len(text))
			for _, end := range []int64{0, size + 1, size + 2, -1, -2, -size, -size - 1, math.MinInt64, math.MaxInt64, math.MaxInt32 + 1, 1<<32 + 1} {
				if got := impl.StartsOf(p, text, end); len(got) != 0 {
					t.Errorf("StartsOf %s in %d bytes, end %d: got %v", pattern, size, end, got)
				}
			}
		}
	}
	p := patternOf(t, "a{3}")
	wantPlaces(t, "an end of how many bytes the text has", impl.StartsOf(p, "aaa", 3), []int64{0})
}

func TestHitsOf(t *testing.T) {
	for _, c := range []struct {
		patterns []string
		text     string
		want     [][2]int64
	}{
		{nil, "ab", nil},
		{nil, "", nil},
		{[]string{"a"}, "", nil},
		{[]string{"a*"}, "", nil},
		{[]string{"a"}, "aba", [][2]int64{{1, 0}, {3, 0}}},
		{[]string{"a", "b"}, "ab", [][2]int64{{1, 0}, {2, 1}}},
		{[]string{"b", "a"}, "ab", [][2]int64{{1, 1}, {2, 0}}},
		{[]string{"a", "a"}, "aa", [][2]int64{{1, 0}, {1, 1}, {2, 0}, {2, 1}}},
		{[]string{"ab", "b", "x", ".b"}, "ab", [][2]int64{{2, 0}, {2, 1}, {2, 3}}},
		{[]string{"c*", "x"}, "ab", nil},
		{[]string{"x", "b?", "a*b"}, "aab", [][2]int64{{3, 1}, {3, 2}}},
		{[]string{"aa", "a", "aaa"}, "aaa", [][2]int64{{1, 1}, {2, 0}, {2, 1}, {3, 0}, {3, 1}, {3, 2}}},
	} {
		got := impl.HitsOf(patternsOf(t, c.patterns...), c.text)
		wantHits(t, "HitsOf "+strings.Join(c.patterns, " ")+" in "+c.text, got, hitsOf(c.want...))
	}
	wantHits(t, "no patterns", impl.HitsOf([][]impl.Atom{}, "ab"), nil)
}

// shortTexts holds all texts of some bytes, up to a length.
func shortTexts(letters string, most int) []string {
	all := []string{""}
	for from := 0; len(all[len(all)-1]) < most; {
		to := len(all)
		for _, text := range all[from:to] {
			for i := range len(letters) {
				all = append(all, text+letters[i:i+1])
			}
		}
		from = to
	}
	return all
}

// rowsOf holds all rows of some things, up to a count of them.
func rowsOf[T any](things []T, most int) [][]T {
	var all [][]T
	rows := [][]T{nil}
	for range most {
		var next [][]T
		for _, row := range rows {
			for _, thing := range things {
				next = append(next, append(slices.Clone(row), thing))
			}
		}
		all = append(all, next...)
		rows = next
	}
	return all
}

// meetingPatterns holds all patterns of some atoms whose classes meet, up to a count of atoms.
func meetingPatterns(most int) [][]impl.Atom {
	var atoms []impl.Atom
	for _, class := range []string{"a", "b", "ab"} {
		for _, pair := range [][2]int64{{1, 1}, {0, 1}, {0, -1}, {1, -1}, {2, 2}, {1, 2}, {2, -1}, {0, 3}} {
			atoms = append(atoms, impl.Atom{Class: class, Least: pair[0], Most: pair[1]})
		}
	}
	return rowsOf(atoms, most)
}

func TestMeaningByEachWayToCut(t *testing.T) {
	texts := shortTexts("ab", 5)
	for _, p := range meetingPatterns(2) {
		for _, text := range texts {
			wantMeaning(t, p, text, byCuts(p))
		}
	}
}

func TestMeaningOfThreeAndMoreAtoms(t *testing.T) {
	d, all := dice(21), meetingPatterns(2)
	texts := shortTexts("abc", 5)
	for range 1500 {
		var p []impl.Atom
		for range 2 + d.below(3) {
			p = append(p, all[d.below(len(all))]...)
		}
		for range 6 {
			wantMeaning(t, p, texts[d.below(len(texts))]+texts[d.below(len(texts))], byCuts(p))
		}
	}
}

// textFor makes a text that a pattern means, with no more than some bytes above the Least of an atom without a Most.
func textFor(d *dice, p []impl.Atom, more int) string {
	var out []byte
	for _, a := range p {
		most := a.Most
		if most == -1 {
			most = a.Least + int64(more)
		}
		for range a.Least + int64(d.below(int(most-a.Least)+1)) {
			out = append(out, a.Class[d.below(len(a.Class))])
		}
	}
	return string(out)
}

// nearTexts holds a text that a pattern means, and some that differ a little.
func nearTexts(d *dice, p []impl.Atom) []string {
	text := textFor(d, p, 4)
	all := []string{text, text + text, text + "a", "a" + text}
	if len(text) > 0 {
		at := d.below(len(text))
		all = append(all, text[:at]+text[at+1:], text[:at]+string(text[at])+text[at:], turned(text, at, byte(1+d.below(255))))
	}
	return all
}

func TestMeaningByTheLibrary(t *testing.T) {
	d := dice(22)
	for _, p := range rightPatterns() {
		fits := byRegexp(p)
		for _, text := range nearTexts(&d, p) {
			if got, want := impl.Fits(p, text), fits(text); got != want {
				t.Fatalf("Fits of %s and %q: got %v, want %v", plainText(p), text, got, want)
			}
		}
	}
}

func TestEndsAndStartsByTheLibrary(t *testing.T) {
	d := dice(23)
	for i, p := range rightPatterns() {
		if i%4 != 0 {
			continue
		}
		text := nearTexts(&d, p)[d.below(4)]
		wantMeaning(t, p, text[:min(len(text), 30)], byRegexp(p))
	}
}

func TestEachByteIsMeantByItsClassAlone(t *testing.T) {
	for _, c := range fullClasses() {
		for b := range 256 {
			text := string([]byte{byte(b)})
			if got, want := impl.Fits(times(c, 1, 1), text), hasByte(c, b); got != want {
				t.Fatalf("Fits of the class %q and %q: got %v, want %v", c, text, got, want)
			}
		}
	}
}

func TestEachLeastAndMostMeansSoManyBytes(t *testing.T) {
	for _, pair := range allTimes() {
		p := times("ab", pair[0], pair[1])
		for size := int64(0); size <= 25; size++ {
			text := strings.Repeat("ab", 13)[:size]
			want := size >= pair[0] && (pair[1] == -1 || size <= pair[1])
			if got := impl.Fits(p, text); got != want {
				t.Fatalf("Fits of %v and %d bytes: got %v, want %v", pair, size, got, want)
			}
		}
	}
}

func turnedRound(text string) string {
	out := []byte(text)
	slices.Reverse(out)
	return string(out)
}

// turnedPlaces counts places from the other end.
func turnedPlaces(places []int64, size int) []int64 {
	out := slices.Clone(places)
	slices.Reverse(out)
	for i := range out {
		out[i] = int64(size) - out[i]
	}
	return out
}

// startsOfAny tells the beginnings of all pieces, whatever their end.
func startsOfAny(p []impl.Atom, text string) []int64 {
	var out []int64
	for end := range len(text) + 1 {
		out = append(out, impl.StartsOf(p, text, int64(end))...)
	}
	slices.Sort(out)
	return slices.Compact(out)
}

// wantTurnedRound holds promise 6 against one pattern and one text.
func wantTurnedRound(t *testing.T, p []impl.Atom, text string) {
	t.Helper()
	q, back := impl.Reverse(p), turnedRound(text)
	if got, want := impl.Fits(q, back), impl.Fits(p, text); got != want {
		t.Fatalf("Fits of %s and %q turned round: got %v, want %v", plainText(p), text, got, want)
	}
	wantPlaces(t, "the ends of "+plainText(p)+" turned round", turnedPlaces(impl.EndsOf(q, back), len(text)), startsOfAny(p, text))
	wantPlaces(t, "the beginnings of "+plainText(p)+" turned round", turnedPlaces(startsOfAny(q, back), len(text)), impl.EndsOf(p, text))
}

func TestTurnedRoundItMeansWhatIsTurnedRound(t *testing.T) {
	d := dice(24)
	for _, p := range rightPatterns() {
		for _, text := range nearTexts(&d, p)[:3] {
			wantTurnedRound(t, p, text[:min(len(text), 60)])
		}
	}
	for _, p := range meetingPatterns(2) {
		for _, text := range shortTexts("ab", 3) {
			wantTurnedRound(t, p, text)
		}
	}
}

// wantLengths holds the lengths of promise 6 against one pattern and one text.
func wantLengths(t *testing.T, p []impl.Atom, text string) {
	t.Helper()
	size, least, most := int64(len(text)), impl.LeastLen(p), impl.MostLen(p)
	if impl.Fits(p, text) && (size < least || most != -1 && size > most) {
		t.Fatalf("%s means %q, but of %d to %d bytes", plainText(p), text, least, most)
	}
	for _, end := range impl.EndsOf(p, text) {
		for _, start := range impl.StartsOf(p, text, end) {
			if !impl.Fits(p, text[start:end]) || end-start < max(least, 1) || most != -1 && end-start > most {
				t.Fatalf("%s in %q: a piece from %d to %d, but of %d to %d bytes", plainText(p), text, start, end, least, most)
			}
		}
	}
}

func TestWhatIsMeantIsNoShorterAndNoLonger(t *testing.T) {
	d := dice(25)
	for _, p := range rightPatterns() {
		for _, text := range nearTexts(&d, p) {
			wantLengths(t, p, text[:min(len(text), 60)])
		}
	}
}

func TestTextsOfTheLeastAndTheMostLength(t *testing.T) {
	for _, p := range rightPatterns() {
		shortest, longest := "", ""
		for _, a := range p {
			shortest += strings.Repeat(a.Class[:1], int(a.Least))
			longest += strings.Repeat(a.Class[:1], int(max(a.Least, a.Most)))
		}
		if !impl.Fits(p, shortest) || !impl.Fits(p, longest) {
			t.Fatalf("%s does not mean its shortest or its longest text", plainText(p))
		}
		if shortest != "" && impl.Fits(p, shortest[1:]) {
			t.Fatalf("%s means %q, which is too short", plainText(p), shortest[1:])
		}
		if over := longest + longest[:min(1, len(longest))]; impl.MostLen(p) != -1 && impl.Fits(p, over) {
			t.Fatalf("%s means %q, which is too long", plainText(p), over)
		}
	}
}

func TestWrongPatternsMeanNothing(t *testing.T) {
	for _, w := range wrongPatterns() {
		for _, text := range []string{"", "a", "b", "ab", "aab", strings.Repeat("a", 21), strings.Repeat("a", 41)} {
			if impl.Fits(w.pattern, text) {
				t.Errorf("Fits, %s: got true of %q", w.what, text)
			}
			if got := impl.EndsOf(w.pattern, text); len(got) != 0 {
				t.Errorf("EndsOf, %s: got %v of %q", w.what, got, text)
			}
			for end := range len(text) + 1 {
				if got := impl.StartsOf(w.pattern, text, int64(end)); len(got) != 0 {
					t.Errorf("StartsOf, %s: got %v of %q", w.what, got, text)
				}
			}
		}
	}
}

func TestOneWrongPatternAmongRightOnes(t *testing.T) {
	right := patternsOf(t, "a", "b*", "ab")
	for _, w := range wrongPatterns() {
		if got := impl.HitsOf([][]impl.Atom{w.pattern}, "aab"); len(got) != 0 {
			t.Errorf("HitsOf, %s: got %v", w.what, got)
		}
		for at := range len(right) + 1 {
			l := slices.Insert(slices.Clone(right), at, w.pattern)
			if got := impl.HitsOf(l, "aab"); len(got) != 0 {
				t.Errorf("HitsOf, %s, at %d: got %v", w.what, at, got)
			}
		}
	}
}

func TestMeaningOfTextsAtTheLimit(t *testing.T) {
	full := strings.Repeat("a", impl.MaxBytes)
	over := full + "a"
	many, one := patternOf(t, "a*"), patternOf(t, "a")
	if !impl.Fits(many, full) || impl.Fits(many, over) {
		t.Errorf("Fits: got %v of MaxBytes bytes, %v of one more", impl.Fits(many, full), impl.Fits(many, over))
	}
	wantPlaces(t, "EndsOf MaxBytes bytes", impl.EndsOf(many, full), placesTo(1, impl.MaxBytes))
	wantPlaces(t, "EndsOf one more", impl.EndsOf(many, over), nil)
	wantPlaces(t, "StartsOf MaxBytes bytes", impl.StartsOf(many, full, impl.MaxBytes), placesTo(0, impl.MaxBytes-1))
	wantPlaces(t, "StartsOf MaxBytes bytes, at the first", impl.StartsOf(many, full, 1), []int64{0})
	wantPlaces(t, "StartsOf one more", impl.StartsOf(many, over, impl.MaxBytes), nil)
	wantPlaces(t, "StartsOf one more, at the first", impl.StartsOf(many, over, 1), nil)
	wantPlaces(t, "StartsOf one more, at its end", impl.StartsOf(one, over, impl.MaxBytes+1), nil)
	b := full[1:] + "b"
	wantHits(t, "HitsOf MaxBytes bytes", impl.HitsOf(patternsOf(t, "x", "b"), b), hitsOf([2]int64{impl.MaxBytes, 1}))
	wantHits(t, "HitsOf one more", impl.HitsOf(patternsOf(t, "x", "b"), "a"+b), nil)
	wantHits(t, "HitsOf one more, of no patterns", impl.HitsOf(nil, over), nil)
}

// hitsOfEach holds a hit of each of so many patterns at one end.
func hitsOfEach(end int64, patterns int64) []impl.Hit {
	var out []impl.Hit
	for i := range patterns {
		out = append(out, impl.Hit{End: end, Pattern: i})
	}
	return out
}

func TestListsAtTheLimit(t *testing.T) {
	full := slices.Repeat(patternsOf(t, "a", "b"), impl.MaxList/2)
	var want []impl.Hit
	for end := int64(1); end <= 2; end++ {
		for i := end - 1; i < impl.MaxList; i += 2 {
			want = append(want, impl.Hit{End: end, Pattern: i})
		}
	}
	wantHits(t, "MaxList patterns", impl.HitsOf(full, "ab"), want)
	wantHits(t, "one more", impl.HitsOf(append(full, patternOf(t, "a")), "ab"), nil)
	wantHits(t, "twice as many", impl.HitsOf(append(full, full...), "ab"), nil)
	last := strings.Repeat("a", impl.MaxBytes-1) + "b"
	wantHits(t, "MaxList patterns and MaxBytes bytes", impl.HitsOf(slices.Repeat(full[1:2], impl.MaxList), last), hitsOfEach(impl.MaxBytes, impl.MaxList))
	wrong := append(slices.Clone(full[1:]), nil)
	wantHits(t, "MaxList patterns, the last one not right", impl.HitsOf(wrong, "ab"), nil)
	wantHits(t, "MaxList patterns, the first one not right", impl.HitsOf(append([][]impl.Atom{{}}, full[1:]...), "ab"), nil)
}

// What could be cut in more ways than could ever be tried must be answered, too.
func TestFullTextsThatAreCutInManyWays(t *testing.T) {
	full := strings.Repeat("a", impl.MaxBytes)
	for _, c := range []struct {
		pattern string
		fits    bool
		first   int64
		longest int64
	}{
		{strings.Repeat("a*", 20), true, 1, impl.MaxBytes},
		{strings.Repeat("a+", 20), true, 20, impl.MaxBytes},
		{strings.Repeat("a{2,}", 20), true, 40, impl.MaxBytes},
		{strings.Repeat("[ab]*[ac]*", 10), true, 1, impl.MaxBytes},
		{strings.Repeat("a?", 20), false, 1, 20},
		{strings.Repeat("a{0,2}", 20), false, 1, 40},
		{"a{0,20}a{0,20}", false, 1, 40},
		{"a{20}a{0,20}", false, 20, 40},
		{"a{20,}a{0,20}", true, 20, impl.MaxBytes},
	} {
		p := patternOf(t, c.pattern)
		if got := impl.Fits(p, full); got != c.fits {
			t.Errorf("Fits of %s: got %v, want %v", c.pattern, got, c.fits)
		}
		wantPlaces(t, "EndsOf "+c.pattern, impl.EndsOf(p, full), placesTo(c.first, impl.MaxBytes))
		starts := placesTo(impl.MaxBytes-c.longest, impl.MaxBytes-c.first)
		wantPlaces(t, "StartsOf "+c.pattern, impl.StartsOf(p, full, impl.MaxBytes), starts)
	}
}

func TestFullTextsThatNearlyFit(t *testing.T) {
	full := strings.Repeat("a", impl.MaxBytes)
	for _, pattern := range []string{
		strings.Repeat("a*", 19) + "b", "b" + strings.Repeat("a*", 19),
		strings.Repeat("a{2,}", 19) + "b", "b" + strings.Repeat("a{2,}", 19),
		strings.Repeat("a{0,2}", 19) + "b", "b" + strings.Repeat("a{0,2}", 19),
		strings.Repeat("[ab]*[ac]*", 9) + "d", "d" + strings.Repeat("[ab]*[ac]*", 9),
	} {
		p := patternOf(t, pattern)
		if impl.Fits(p, full) {
			t.Errorf("Fits of %s: got true", pattern)
		}
		wantPlaces(t, "EndsOf "+pattern, impl.EndsOf(p, full), nil)
		wantPlaces(t, "StartsOf "+pattern, impl.StartsOf(p, full, impl.MaxBytes), nil)
		wantHits(t, "HitsOf "+pattern, impl.HitsOf([][]impl.Atom{p, p}, full), nil)
	}
}

func TestHitsOfAreTheEndsOfEach(t *testing.T) {
	d := dice(26)
	all := append(rightPatterns(), meetingPatterns(2)...)
	letters := "ababc\x00\xff"
	for range 300 {
		var l [][]impl.Atom
		for range d.below(8) {
			l = append(l, all[d.below(len(all))])
		}
		var text []byte
		for range d.below(60) {
			text = append(text, letters[d.below(len(letters))])
		}
		var want []impl.Hit
		for end := int64(1); end <= int64(len(text)); end++ {
			for i, p := range l {
				if slices.Contains(impl.EndsOf(p, string(text)), end) {
					want = append(want, impl.Hit{End: end, Pattern: int64(i)})
				}
			}
		}
		wantHits(t, "HitsOf a mixed list", impl.HitsOf(l, string(text)), want)
	}
}

func TestMeaningChangesNothingHandedIn(t *testing.T) {
	guard := impl.Atom{Class: "guard", Least: 7, Most: 9}
	for _, w := range append(wrongPatterns(), wrongPattern{"right", patternOf(t, "a?b[^c]{2,}d*")}) {
		p := roomy(w.pattern)
		l := append([][]impl.Atom{p, roomy(times("a", 1, 1)), p}, times("guard", 7, 9))[:3]
		impl.Fits(p, "aabxxd")
		impl.EndsOf(p, "aabxxd")
		impl.StartsOf(p, "aabxxd", 6)
		impl.HitsOf(l, "aabxxd")
		if !slices.Equal(p[:len(p)+1], append(slices.Clone(w.pattern), guard)) {
			t.Errorf("%s: a call changed the pattern", w.what)
		}
		if !slices.Equal(l[1][:2], []impl.Atom{once("a"), guard}) || !slices.Equal(l[:4][3], times("guard", 7, 9)) {
			t.Errorf("%s: a call changed the list", w.what)
		}
		if !slices.Equal(l[0], w.pattern) || !slices.Equal(l[2], w.pattern) {
			t.Errorf("%s: a call changed a pattern of the list", w.what)
		}
	}
}

func TestMeaningsAreNewMemory(t *testing.T) {
	p := patternOf(t, "a+b?")
	l := patternsOf(t, "a", "b", "ab")
	for range 2 {
		ends, starts, hits := impl.EndsOf(p, "aab"), impl.StartsOf(p, "aab", 3), impl.HitsOf(l, "aab")
		wantPlaces(t, "EndsOf, again", ends, []int64{1, 2, 3})
		wantPlaces(t, "StartsOf, again", starts, []int64{0, 1})
		wantHits(t, "HitsOf, again", hits, hitsOf([][2]int64{{1, 0}, {2, 0}, {3, 1}, {3, 2}}...))
		// What is written over must be seen by no later call.
		clear(ends)
		clear(starts)
		clear(hits)
	}
}

func TestMeaningsHangOnWhatIsHandedInAlone(t *testing.T) {
	p, q := patternOf(t, "a*b"), patternOf(t, "b*a")
	before := impl.HitsOf([][]impl.Atom{p, q}, "abba")
	impl.Fits(p, "b")
	impl.EndsOf(q, "bbbb")
	impl.StartsOf(q, "abab", 3)
	wantHits(t, "HitsOf, again", impl.HitsOf([][]impl.Atom{p, q}, "abba"), before)
	wantHits(t, "HitsOf", before, hitsOf([][2]int64{{1, 1}, {2, 0}, {3, 0}, {4, 1}}...))
}
