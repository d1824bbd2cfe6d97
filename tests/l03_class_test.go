package tests

import (
	"math"
	"strconv"
	"strings"
	"testing"

	"loop.example/g00736/impl"
)

// plainClass writes the class of the bytes that are told, by the document's words.
func plainClass(in func(b int) bool) string {
	var out []byte
	for b := range 256 {
		if in(b) {
			out = append(out, byte(b))
		}
	}
	return string(out)
}

// allBytes is the class of all 256 bytes.
func allBytes() string {
	return plainClass(func(int) bool { return true })
}

// hasByte asks for a byte of a text without the program.
func hasByte(text string, b int) bool {
	return strings.IndexByte(text, byte(b)) >= 0
}

// isLetter tells A to Z and a to z one by one.
func isLetter(b int) bool {
	return hasByte("ABCDEFGHIJKLMNOPQRSTUVWXYZabcdefghijklmnopqrstuvwxyz", b)
}

// someClasses holds classes at all edges: none, all, one byte, all but one, all from or up to one, and mixed ones.
func someClasses() []string {
	classes := []string{"", allBytes()}
	for _, at := range []int{0, 1, '@', 'A', 'Z', '[', '`', 'a', 'z', '{', 63, 64, 127, 128, 191, 192, 254, 255} {
		classes = append(classes,
			plainClass(func(b int) bool { return b == at }),
			plainClass(func(b int) bool { return b != at }),
			plainClass(func(b int) bool { return b <= at }),
			plainClass(func(b int) bool { return b >= at }))
	}
	for _, step := range []int{2, 3, 7, 64} {
		classes = append(classes, plainClass(func(b int) bool { return b%step == 0 }))
	}
	seed := uint32(4)
	for range 6 {
		classes = append(classes, plainClass(func(int) bool {
			seed = seed*1664525 + 1013904223
			return seed>>31 == 1
		}))
	}
	return append(classes, "abc", "1Za", "\x00\xff", "AZaz", "@AZ[`az{")
}

// wantClass stops at the first wrong answer, for a fault would be told some thousand times.
func wantClass(t *testing.T, what string, got string, want string) {
	t.Helper()
	if got != want {
		t.Fatalf("%s: got %q, want %q", what, got, want)
	}
}

func TestRightClasses(t *testing.T) {
	for _, c := range someClasses() {
		if !impl.ClassRight(c) {
			t.Fatalf("ClassRight(%q): got false", c)
		}
	}
}

func TestRightClassesOfTwoBytes(t *testing.T) {
	for a := range 256 {
		for b := range 256 {
			if got, want := impl.ClassRight(string([]byte{byte(a), byte(b)})), a < b; got != want {
				t.Fatalf("ClassRight of %d, %d: got %v, want %v", a, b, got, want)
			}
		}
	}
}

// wrongClass is a class that is not right, and why.
type wrongClass struct {
	what  string
	class string
}

func wrongClasses() []wrongClass {
	all := allBytes()
	return []wrongClass{
		{"falling", "ba"},
		{"a byte twice", "aa"},
		{"byte 0 twice", "\x00\x00"},
		{"byte 255 twice", "\xff\xff"},
		{"a byte twice at the end", "abb"},
		{"a byte twice at the beginning", "aab"},
		{"a byte again, further on", "aba"},
		{"falling at the end", "acb"},
		{"falling at the beginning", "bac"},
		{"falling from 255 to 0", "\xff\x00"},
		{"falling over 128", "a\x80\x7f"},
		{"a letter of two bytes", "\u00e9"},
		{"the last of all bytes twice", all + "\xff"},
		{"all bytes, and byte 0 again", all + "\x00"},
		{"all bytes twice", all + all},
		{"MaxBytes bytes", someBytes(impl.MaxBytes)},
		{"more than MaxBytes bytes", all + someBytes(impl.MaxBytes)},
		{"MaxBytes times one byte, and one more", strings.Repeat("a", impl.MaxBytes+1)},
	}
}

func TestWrongClassesAlone(t *testing.T) {
	for _, c := range wrongClasses() {
		if impl.ClassRight(c.class) {
			t.Fatalf("ClassRight, %s: got true", c.what)
		}
		wantClass(t, "ClassNot, "+c.what, impl.ClassNot(c.class), "")
		wantClass(t, "ClassFold, "+c.what, impl.ClassFold(c.class), "")
		for b := int64(-1); b <= 256; b++ {
			if impl.ClassHas(c.class, b) {
				t.Fatalf("ClassHas of %d, %s: got true", b, c.what)
			}
		}
	}
}

// pairOfClasses is a call that puts two classes together, and what it asks of each byte.
type pairOfClasses struct {
	what string
	call func(a string, b string) string
	in   func(inA bool, inB bool) bool
}

func pairsOfClasses() []pairOfClasses {
	return []pairOfClasses{
		{"ClassOr", impl.ClassOr, func(inA bool, inB bool) bool { return inA || inB }},
		{"ClassAnd", impl.ClassAnd, func(inA bool, inB bool) bool { return inA && inB }},
	}
}

func TestWrongClassesInPairs(t *testing.T) {
	for _, p := range pairsOfClasses() {
		for _, c := range wrongClasses() {
			for _, right := range []string{"", "a", "ab", allBytes()} {
				wantClass(t, p.what+", first: "+c.what, p.call(c.class, right), "")
				wantClass(t, p.what+", second: "+c.what, p.call(right, c.class), "")
			}
			wantClass(t, p.what+", both: "+c.what, p.call(c.class, c.class), "")
		}
	}
}

func TestPairsOfClassesByteByByte(t *testing.T) {
	for _, p := range pairsOfClasses() {
		for _, a := range someClasses() {
			for _, b := range someClasses() {
				want := plainClass(func(i int) bool { return p.in(hasByte(a, i), hasByte(b, i)) })
				wantClass(t, p.what, p.call(a, b), want)
			}
		}
	}
}

func TestEachByteIsInOneInBothOrInNone(t *testing.T) {
	classes := someClasses()
	for k, a := range classes {
		b := classes[(k*7+3)%len(classes)]
		or, and := impl.ClassOr(a, b), impl.ClassAnd(a, b)
		none := impl.ClassNot(or)
		for i := range int64(256) {
			inA, inB := hasByte(a, int(i)), hasByte(b, int(i))
			got := [3]bool{impl.ClassHas(or, i), impl.ClassHas(and, i), impl.ClassHas(none, i)}
			if want := [3]bool{inA || inB, inA && inB, !inA && !inB}; got != want {
				t.Fatalf("byte %d of %q and %q: got %v, want %v", i, a, b, got, want)
			}
		}
	}
}

func TestClassOf(t *testing.T) {
	for _, c := range []struct {
		text string
		want string
	}{
		{"", ""},
		{"a", "a"},
		{"cabb", "abc"},
		{"aaaa", "a"},
		{"\xff\x00", "\x00\xff"},
		{"zZaA", "AZaz"},
		{"\u00e9a", "a\xa9\xc3"},
		{"\x80\x7f\xc0\x3f\x40\xbf", "\x3f\x40\x7f\x80\xbf\xc0"},
	} {
		wantClass(t, "ClassOf of "+strconv.Quote(c.text), impl.ClassOf(c.text), c.want)
	}
	for b := range 256 {
		one := string([]byte{byte(b)})
		wantClass(t, "ClassOf of one byte", impl.ClassOf(one), one)
		wantClass(t, "ClassOf of a byte four times", impl.ClassOf(one+one+one+one), one)
	}
}

func TestAClassIsThatOfItsBytes(t *testing.T) {
	for _, c := range someClasses() {
		back := []byte(c)
		for i, j := 0, len(back)-1; i < j; i, j = i+1, j-1 {
			back[i], back[j] = back[j], back[i]
		}
		wantClass(t, "ClassOf", impl.ClassOf(c), c)
		wantClass(t, "ClassOf from behind", impl.ClassOf(string(back)), c)
		wantClass(t, "ClassOf from behind, and again", impl.ClassOf(string(back)+c), c)
	}
}

func TestClassOfAtTheLimit(t *testing.T) {
	full := strings.Repeat("b", impl.MaxBytes-1)
	wantClass(t, "MaxBytes bytes, another one last", impl.ClassOf(full+"a"), "ab")
	wantClass(t, "MaxBytes bytes, another one first", impl.ClassOf("\xff"+full), "b\xff")
	wantClass(t, "MaxBytes bytes of all kinds", impl.ClassOf(someBytes(impl.MaxBytes)), allBytes())
	wantClass(t, "one byte more", impl.ClassOf(full+"bb"), "")
	wantClass(t, "one byte more, of all kinds", impl.ClassOf(someBytes(impl.MaxBytes+1)), "")
	wantClass(t, "twice as many bytes", impl.ClassOf(someBytes(2*impl.MaxBytes)), "")
}

func TestEachSpan(t *testing.T) {
	for low := range 256 {
		for high := range 256 {
			want := plainClass(func(b int) bool { return b >= low && b <= high })
			if got := impl.ClassSpan(int64(low), int64(high)); got != want {
				t.Fatalf("ClassSpan(%d, %d): got %q, want %q", low, high, got, want)
			}
		}
	}
}

func TestWrongSpans(t *testing.T) {
	wrong := []int64{-1, -2, -256, -255, math.MinInt64, math.MinInt64 + 1, 256, 257, 300, 512, math.MaxInt64}
	for _, n := range wrong {
		for _, right := range []int64{0, 1, 5, 97, 128, 254, 255} {
			wantClass(t, "ClassSpan from a wrong low", impl.ClassSpan(n, right), "")
			wantClass(t, "ClassSpan to a wrong high", impl.ClassSpan(right, n), "")
		}
		for _, other := range wrong {
			wantClass(t, "ClassSpan of both wrong", impl.ClassSpan(n, other), "")
		}
	}
}

func TestClassHas(t *testing.T) {
	for _, c := range someClasses() {
		for b := range 256 {
			if got, want := impl.ClassHas(c, int64(b)), hasByte(c, b); got != want {
				t.Fatalf("ClassHas(%q, %d): got %v, want %v", c, b, got, want)
			}
		}
		for _, b := range []int64{-1, -128, -159, -256, math.MinInt64, 256, 257, 256 + 'a', 511, 1 << 32, math.MaxInt64} {
			if impl.ClassHas(c, b) {
				t.Fatalf("ClassHas(%q, %d): got true", c, b)
			}
		}
	}
}

func TestClassNot(t *testing.T) {
	wantClass(t, "none", impl.ClassNot(""), allBytes())
	wantClass(t, "all", impl.ClassNot(allBytes()), "")
	for _, c := range someClasses() {
		not := impl.ClassNot(c)
		wantClass(t, "ClassNot", not, plainClass(func(b int) bool { return !hasByte(c, b) }))
		wantClass(t, "ClassNot twice", impl.ClassNot(not), c)
		wantClass(t, "what is in it or not", impl.ClassOr(c, not), allBytes())
		wantClass(t, "what is in it and not", impl.ClassAnd(c, not), "")
	}
}

// plainFold has both cases of each letter of a class; all else is as it was.
func plainFold(c string) string {
	return plainClass(func(b int) bool {
		return hasByte(c, b) || isLetter(b) && hasByte(c, b^32)
	})
}

func TestClassFold(t *testing.T) {
	for _, c := range []struct {
		class string
		want  string
	}{
		{"", ""},
		{"A", "Aa"},
		{"Z", "Zz"},
		{"a", "Aa"},
		{"z", "Zz"},
		{"Aa", "Aa"},
		{"@[`{", "@[`{"},
		{"1Za", "1AZaz"},
		{"Mx\xcd\xed", "MXmx\xcd\xed"},
		{"\xb5\xc0\xe0\xff", "\xb5\xc0\xe0\xff"},
		{"KSks", "KSks"},
	} {
		wantClass(t, "ClassFold of "+strconv.Quote(c.class), impl.ClassFold(c.class), c.want)
	}
	for b := range 256 {
		one := string([]byte{byte(b)})
		wantClass(t, "ClassFold of one byte", impl.ClassFold(one), plainFold(one))
	}
}

func TestFoldedHasOfEachLetterBoth(t *testing.T) {
	for _, c := range someClasses() {
		fold := impl.ClassFold(c)
		wantClass(t, "ClassFold", fold, plainFold(c))
		wantClass(t, "ClassFold twice", impl.ClassFold(fold), fold)
		wantClass(t, "a class and its fold", impl.ClassAnd(c, fold), c)
		for k := range int64(26) {
			if upper, lower := impl.ClassHas(fold, 'A'+k), impl.ClassHas(fold, 'a'+k); upper != lower {
				t.Fatalf("letter %d of the fold of %q: upper %v, lower %v", k, c, upper, lower)
			}
		}
	}
}

func TestAnswersAreRightClasses(t *testing.T) {
	for _, a := range someClasses() {
		for _, b := range someClasses() {
			for _, got := range []string{impl.ClassOr(a, b), impl.ClassAnd(a, b), impl.ClassNot(a), impl.ClassFold(a), impl.ClassOf(b + a)} {
				if !impl.ClassRight(got) {
					t.Fatalf("of %q and %q: %q is not right", a, b, got)
				}
			}
		}
	}
}

func TestClassesAreNewMemory(t *testing.T) {
	c, all := "027@[{\xff", allBytes()
	for _, a := range []struct {
		what string
		got  string
	}{
		{"ClassOf", impl.ClassOf(c)},
		{"ClassOr with none", impl.ClassOr(c, "")},
		{"ClassOr of none", impl.ClassOr("", c)},
		{"ClassOr with itself", impl.ClassOr(c, c)},
		{"ClassAnd with itself", impl.ClassAnd(c, c)},
		{"ClassAnd with all", impl.ClassAnd(c, all)},
		{"ClassAnd of all", impl.ClassAnd(all, c)},
		{"ClassNot twice", impl.ClassNot(impl.ClassNot(c))},
		{"ClassFold", impl.ClassFold(c)},
	} {
		wantClass(t, a.what, a.got, c)
		if sharesMemory(c, a.got) || sharesMemory(all, a.got) {
			t.Fatalf("%s: the answer shares memory with what was handed in", a.what)
		}
	}
}
