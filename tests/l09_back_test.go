package tests

import (
	"slices"
	"strconv"
	"strings"
	"testing"

	"loop.example/g00736/impl"
)

// plainFactor holds a text against each of the cells that it can begin with, by the document's words.
func plainFactor(c []impl.Cell, text string) bool {
	for from := 0; from+len(text) <= len(c); from++ {
		if goesWith(c[from:from+len(text)], text) {
			return true
		}
	}
	return false
}

// plainBorder tries each count of last bytes, the greatest first.
func plainBorder(c []impl.Cell, text string) int64 {
	for k := min(len(c)-1, len(text)); k > 0; k-- {
		if goesWith(c[:k], text[len(text)-k:]) {
			return int64(k)
		}
	}
	return 0
}

// plainLooked tries each count of last bytes, the least first.
func plainLooked(c []impl.Cell, window string) int64 {
	for k := 1; k <= len(c); k++ {
		if !plainFactor(c, window[len(window)-k:]) {
			return int64(k)
		}
	}
	return int64(len(c))
}

// plainWindows goes from window to window by the document's words.
func plainWindows(c []impl.Cell, text string) []impl.Window {
	var out []impl.Window
	for at := 0; at+len(c) <= len(text); {
		bytes := text[at : at+len(c)]
		w := impl.Window{At: int64(at), Looked: plainLooked(c, bytes), Shift: int64(len(c)) - plainBorder(c, bytes)}
		out = append(out, w)
		at += int(w.Shift)
	}
	return out
}

// windowsOf writes windows as triples of At, Looked and Shift.
func windowsOf(triples ...[3]int64) []impl.Window {
	var out []impl.Window
	for _, w := range triples {
		out = append(out, impl.Window{At: w[0], Looked: w[1], Shift: w[2]})
	}
	return out
}

// evenWindows holds windows that are alike but for where they are.
func evenWindows(count int, looked int64, shift int64) []impl.Window {
	var out []impl.Window
	for i := range count {
		out = append(out, impl.Window{At: int64(i) * shift, Looked: looked, Shift: shift})
	}
	return out
}

func wantWindows(t *testing.T, what string, got []impl.Window, want []impl.Window) {
	t.Helper()
	if !slices.Equal(got, want) {
		t.Fatalf("Windows, %s: got %v, want %v", what, got, want)
	}
}

func wantFactor(t *testing.T, c []impl.Cell, text string, want bool) {
	t.Helper()
	if got := impl.IsFactor(c, text); got != want {
		t.Fatalf("IsFactor of %s and %q: got %v, want %v", rowText(c), text[:min(len(text), 80)], got, want)
	}
}

func wantBorder(t *testing.T, c []impl.Cell, text string, want int64) {
	t.Helper()
	if got := impl.BorderOf(c, text); got != want {
		t.Fatalf("BorderOf %s and %q: got %d, want %d", rowText(c), text[:min(len(text), 80)], got, want)
	}
}

// wantSeen holds what is seen from behind against the document's words, and against walking along (promise 10).
func wantSeen(t *testing.T, c []impl.Cell, text string) {
	t.Helper()
	what := rowText(c) + " along " + asRunes(text)
	wantFactor(t, c, text, plainFactor(c, text))
	wantBorder(t, c, text, plainBorder(c, text))
	wantWindows(t, what, impl.Windows(c, text), plainWindows(c, text))
	got := impl.BackRun(c, text)
	wantPlaces(t, "BackRun "+what, got, endsByWindows(c, text))
	wantPlaces(t, "BackRun and TurnRun "+what, got, impl.TurnRun(c, text))
	wantPlaces(t, "BackRun and RunOn "+what, got, impl.RunOn(c, text))
}

// meetingCells is a row of classes that meet without being the same, with the bytes 0 and 255 in some.
func meetingCells() []impl.Cell {
	return []impl.Cell{{Class: "ab"}, {Class: "bc"}, {Class: "\x00c\xff"}}
}

func TestIsFactor(t *testing.T) {
	for _, c := range []struct {
		row  []impl.Cell
		some []string
		none []string
	}{
		{plainRow("a"), []string{"", "a"}, []string{"b", "aa", "ab", "ba", "\x00"}},
		{plainRow("ab"), []string{"", "a", "b", "ab"}, []string{"c", "ba", "aa", "bb", "aba", "abb", "abab"}},
		{plainRow("aa"), []string{"", "a", "aa"}, []string{"b", "ab", "aaa"}},
		{plainRow("abc"), []string{"a", "b", "c", "ab", "bc", "abc"}, []string{"ac", "ca", "cb", "abca", "aabc", "bcd"}},
		{plainRow("abab"), []string{"ab", "ba", "aba", "bab", "abab"}, []string{"aa", "bb", "abb", "baba", "ababa"}},
		{plainRow("\x00\xff"), []string{"\x00", "\xff", "\x00\xff"}, []string{"\xff\x00", "\x01", "\xfe", "0"}},
		{meetingCells(), []string{"ab", "bb", "bc", "cc", "b\xff", "c\x00", "abc", "bb\x00", "bcc"}, []string{"ba", "ca", "aa", "cb", "ac\x01", "a\x00", "\x00a", "abcc"}},
	} {
		for _, text := range c.some {
			wantFactor(t, c.row, text, true)
		}
		for _, text := range c.none {
			wantFactor(t, c.row, text, false)
		}
	}
}

// A text may begin at each cell, and end with each; with one byte turned it goes with none of the others.
func TestIsFactorOfEachPartOfARow(t *testing.T) {
	for _, n := range []int{1, 2, 31, 32, 33, mostCells - 1, mostCells} {
		var row []impl.Cell
		for i := range n {
			row = append(row, cell(string([]byte{byte(i), byte(128 + i)}), ""))
		}
		whole := ""
		for i := range n {
			whole += row[i].Class[i%2 : i%2+1]
		}
		for from := range n {
			for to := from + 1; to <= n; to++ {
				part := whole[from:to]
				wantFactor(t, row, part, true)
				wantFactor(t, row, turned(part, 0, 64), false)
				wantFactor(t, row, turned(part, len(part)-1, 64), false)
			}
		}
		wantFactor(t, row, "", true)
		wantFactor(t, row, whole+whole[:1], false)
		wantFactor(t, row, whole[n-1:]+whole, false)
	}
}

// A text that is longer than the row goes with no cells, though each of its bytes goes with each cell.
func TestTextsLongerThanTheRowAreNoFactor(t *testing.T) {
	for n := 1; n <= mostCells; n++ {
		row := sameCell(n, cell(allBytes(), ""))
		for size := 0; size <= n+3; size++ {
			wantFactor(t, row, someBytes(size), size <= n)
		}
		for _, size := range []int{2 * n, 2*n + 1, 64 + n, 65 + n, impl.MaxBytes} {
			wantFactor(t, row, someBytes(size), size <= n)
		}
	}
}

func TestBorderOf(t *testing.T) {
	for _, c := range []struct {
		row  []impl.Cell
		text string
		want int64
	}{
		{plainRow("a"), "", 0},
		{plainRow("a"), "a", 0},
		{plainRow("a"), "aaa", 0},
		{plainRow("ab"), "", 0},
		{plainRow("ab"), "a", 1},
		{plainRow("ab"), "b", 0},
		{plainRow("ab"), "xa", 1},
		{plainRow("ab"), "ab", 0},
		{plainRow("ab"), "aba", 1},
		{plainRow("aba"), "aba", 1},
		{plainRow("aba"), "ab", 2},
		{plainRow("aba"), "xxab", 2},
		{plainRow("aba"), "bab", 2},
		{plainRow("aba"), "abab", 2},
		{plainRow("aba"), "abb", 0},
		{plainRow("aaaa"), "aaaa", 3},
		{plainRow("aaaa"), "aaaaaaaa", 3},
		{plainRow("aaaa"), "baaa", 3},
		{plainRow("aaaa"), "abaa", 2},
		{plainRow("aaaa"), "aaab", 0},
		{plainRow("aaaa"), "aa", 2},
		{plainRow("abab"), "abab", 2},
		{plainRow("abab"), "baba", 3},
		{plainRow("abcab"), "abcab", 2},
		{plainRow("abcab"), "xabca", 4},
		{plainRow("abcab"), "abcabc", 3},
		{plainRow("abc"), "abc", 0},
		{plainRow("\x00\xff\x00"), "\x00\xff\x00", 1},
		{plainRow("\x00\xff\x00"), "\xff\x00\xff", 2},
		{meetingCells(), "bb", 2},
		{meetingCells(), "bbb", 2},
		{meetingCells(), "cab", 2},
		{meetingCells(), "ca", 1},
		{meetingCells(), "abc", 2},
		{meetingCells(), "acc", 0},
		{meetingCells(), "ab\xff", 0},
	} {
		wantBorder(t, c.row, c.text, c.want)
	}
}

// A row of the same cell has the greatest border, one of which no end is a beginning has none; a text shorter than
// the row is its own border, if it goes with the first cells.
func TestBordersOfEachCountOfCells(t *testing.T) {
	for n := 1; n <= mostCells; n++ {
		same, whole := sameCell(n, cell("a", "")), strings.Repeat("a", n)
		last := append(sameCell(n-1, cell("a", "")), cell("b", ""))
		first := append([]impl.Cell{cell("b", "")}, sameCell(n-1, cell("a", ""))...)
		for size := 0; size <= n+2; size++ {
			text := strings.Repeat("a", size)
			wantBorder(t, same, text, int64(min(size, n-1)))
			wantBorder(t, same, "b"+text, int64(min(size, n-1)))
			wantBorder(t, same, text+"b", 0)
			wantBorder(t, last, text, int64(min(size, n-1)))
			wantBorder(t, last, text+"b", 0)
			if n > 1 {
				wantBorder(t, first, text, 0)
			}
			want := int64(size + 1)
			if size+1 >= n {
				want = 0
			}
			wantBorder(t, first, "b"+text, want)
			wantBorder(t, first, "a"+"b"+text, want)
		}
		wantBorder(t, last, whole[1:]+"b", 0)
		wantBorder(t, first, "b"+whole[1:], 0)
	}
}

func TestWindows(t *testing.T) {
	for _, c := range []struct {
		row  string
		text string
		want []impl.Window
	}{
		{"a", "", nil},
		{"a", "a", windowsOf([3]int64{0, 1, 1})},
		{"a", "bab", windowsOf([3]int64{0, 1, 1}, [3]int64{1, 1, 1}, [3]int64{2, 1, 1})},
		{"ab", "", nil},
		{"ab", "a", nil},
		{"ab", "ab", windowsOf([3]int64{0, 2, 2})},
		{"ab", "aba", windowsOf([3]int64{0, 2, 2})},
		{"ab", "abab", windowsOf([3]int64{0, 2, 2}, [3]int64{2, 2, 2})},
		{"ab", "xabb", windowsOf([3]int64{0, 2, 1}, [3]int64{1, 2, 2})},
		// The last byte alone is no factor: nothing that ends with it can be a beginning.
		{"ab", "axab", windowsOf([3]int64{0, 1, 2}, [3]int64{2, 2, 2})},
		{"abc", "abxabc", windowsOf([3]int64{0, 1, 3}, [3]int64{3, 3, 3})},
		// Looked at whole, though it does not go with the cells.
		{"ab", "bb", windowsOf([3]int64{0, 2, 2})},
		{"abc", "xbcabc", windowsOf([3]int64{0, 3, 3}, [3]int64{3, 3, 3})},
		{"abab", "bbababx", windowsOf([3]int64{0, 4, 2}, [3]int64{2, 4, 2})},
		{"aba", "bba", windowsOf([3]int64{0, 3, 2})},
		// Windows that overlap.
		{"aa", "aaaa", windowsOf([3]int64{0, 2, 1}, [3]int64{1, 2, 1}, [3]int64{2, 2, 1})},
		{"aba", "ababa", windowsOf([3]int64{0, 3, 2}, [3]int64{2, 3, 2})},
		{"aaa", "aabaaa", windowsOf([3]int64{0, 1, 3}, [3]int64{3, 3, 1})},
		{"aaa", "abaaa", windowsOf([3]int64{0, 2, 2}, [3]int64{2, 3, 1})},
		// A shift may go by the last place at which a window is there.
		{"abc", "abcabca", windowsOf([3]int64{0, 3, 3}, [3]int64{3, 3, 3})},
		{"abc", "cccc", windowsOf([3]int64{0, 2, 3})},
		{"\x00\xff", "\xff\x00\xff\xff\x00", windowsOf([3]int64{0, 2, 1}, [3]int64{1, 2, 2}, [3]int64{3, 2, 1})},
	} {
		wantWindows(t, c.row+" along "+c.text, impl.Windows(plainRow(c.row), c.text), c.want)
	}
	got := impl.Windows(meetingCells(), "abcbb\xff\xff")
	wantWindows(t, "classes", got, windowsOf([3]int64{0, 3, 1}, [3]int64{1, 2, 2}, [3]int64{3, 3, 3}))
}

// Of a row of which each cell has the same byte, a window that ends with others is looked at up to the first of these.
func TestWindowsOfTheSameCell(t *testing.T) {
	for n := 1; n <= mostCells; n++ {
		row, size := sameCell(n, cell("a", "")), int64(n)
		wantWindows(t, "all hits", impl.Windows(row, strings.Repeat("a", 2*n)), evenWindows(n+1, size, 1))
		wantWindows(t, "none", impl.Windows(row, strings.Repeat("b", 4*n)), evenWindows(4, 1, size))
		for good := range n {
			text := strings.Repeat("b", n-good) + strings.Repeat("a", good)
			want := windowsOf([3]int64{0, int64(good) + 1, size - int64(good)})
			wantWindows(t, strconv.Itoa(good)+" of "+strconv.Itoa(n), impl.Windows(row, text), want)
		}
	}
}

func TestBackRun(t *testing.T) {
	for _, c := range []struct {
		row  string
		text string
		want []int64
	}{
		{"a", "", nil},
		{"a", "a", []int64{1}},
		{"a", "b", nil},
		{"a", "abba", []int64{1, 4}},
		{"a", "aaa", []int64{1, 2, 3}},
		{"ab", "a", nil},
		{"ab", "ab", []int64{2}},
		{"ab", "ba", nil},
		{"ab", "xab", []int64{3}},
		{"ab", "abx", []int64{2}},
		{"ab", "abab", []int64{2, 4}},
		{"ab", "aab", []int64{3}},
		{"ab", "axbab", []int64{5}},
		{"aa", "aaaa", []int64{2, 3, 4}},
		{"aa", "aabaa", []int64{2, 5}},
		{"aba", "ababa", []int64{3, 5}},
		{"aab", "aaab", []int64{4}},
		{"abcab", "abcabcab", []int64{5, 8}},
		{"abc", "abxabc", []int64{6}},
		{"abc", "abcxab", []int64{3}},
		{"\x00\xff", "\x00\x00\xff\xff\x00\xff", []int64{3, 6}},
	} {
		wantPlaces(t, "BackRun "+c.row+" along "+c.text, impl.BackRun(plainRow(c.row), c.text), c.want)
	}
	wantPlaces(t, "BackRun along classes", impl.BackRun(meetingCells(), "abcbb\xff\xffac\x00bcc"), []int64{3, 6, 10, 13})
}

func TestFromBehindOneFindsWhatWalkingAlongFinds(t *testing.T) {
	texts := shortTexts("abc", 6)
	for _, row := range meetingRows(3) {
		for _, text := range texts {
			wantSeen(t, row, text)
		}
	}
	for _, row := range meetingRows(5) {
		if len(row) < 5 {
			continue
		}
		for _, text := range []string{"abababab", "bbbabcbcab", "aabbaabb", "cbabcbabc", "bbbbbbbb", "abcabcabcabc"} {
			wantSeen(t, row, text)
		}
	}
	d := dice(61)
	for _, row := range plainRows() {
		for _, text := range aroundRow(&d, row) {
			wantSeen(t, row, text)
		}
	}
}

// repeatingRow throws a row that begins as it ends: of some few cells that come again and again.
func repeatingRow(d *dice, n int) []impl.Cell {
	few := someClassesRow(d, 1+d.below(5), []string{"a", "b", "ab", "\x00a", "b\xff"})
	return slices.Repeat(few, n)[:n]
}

// Rows that begin as they end have windows that overlap, and many that are nearly hits.
func TestRowsThatBeginAsTheyEnd(t *testing.T) {
	d := dice(62)
	for n := 1; n <= mostCells; n++ {
		for range 4 {
			row := repeatingRow(&d, n)
			p := atomsFor(row)
			text := textFor(&d, p, 0) + textFor(&d, p, 0)[d.below(n):] + textFor(&d, p, 0)
			wantSeen(t, row, text)
			wantSeen(t, row, turned(text, d.below(len(text)), byte(1+d.below(255))))
			wantSeen(t, row, text[d.below(n):])
		}
	}
}

func TestFromBehindOneFindsTheEndsOfAPattern(t *testing.T) {
	d, plain := dice(63), 0
	for _, p := range append(rightPatterns(), meetingPatterns(3)...) {
		cells := impl.CellsOf(p)
		// All cells of such are plain just if none of its atoms leaves a choice.
		if slices.ContainsFunc(p, func(a impl.Atom) bool { return a.Least != a.Most }) {
			wantPlaces(t, "BackRun "+plainText(p), impl.BackRun(cells, textFor(&d, p, 3)), nil)
			continue
		}
		plain++
		for _, text := range aroundRow(&d, cells) {
			wantPlaces(t, "BackRun "+plainText(p), impl.BackRun(cells, text), impl.EndsOf(p, text))
		}
	}
	if plain < 200 {
		t.Errorf("only %d patterns with plain cells", plain)
	}
}

// wantEndsOfWindows goes from window to window by what the other calls tell of its bytes.
func wantEndsOfWindows(t *testing.T, row []impl.Cell, text string) {
	t.Helper()
	n, at, ends := int64(len(row)), int64(0), []int64(nil)
	for _, w := range impl.Windows(row, text) {
		if w.At != at || w.Looked < 1 || w.Looked > n || w.Shift < 1 || w.Shift > n {
			t.Fatalf("Windows of %s along %q: got %+v, want it at %d", rowText(row), text, w, at)
		}
		bytes := text[w.At : w.At+n]
		wantBorder(t, row, bytes, n-w.Shift)
		wantFactor(t, row, bytes[n-w.Looked+1:], true)
		if impl.IsFactor(row, bytes) {
			ends = append(ends, w.At+n)
		} else {
			wantFactor(t, row, bytes[n-w.Looked:], false)
		}
		at += w.Shift
	}
	if at+n <= int64(len(text)) {
		t.Fatalf("Windows of %s along %q: none at %d", rowText(row), text, at)
	}
	wantPlaces(t, "BackRun "+rowText(row), impl.BackRun(row, text), ends)
}

// The ends are just those of windows that go with the cells; windows come as they shift, and none is left out.
func TestWindowsAndEndsGoTogether(t *testing.T) {
	d := dice(64)
	for _, row := range append(plainRows(), meetingRows(2)...) {
		texts := aroundRow(&d, row)
		text := texts[d.below(len(texts))]
		wantEndsOfWindows(t, row, text[:min(len(text), 3*len(row)+2)])
	}
}

func TestHitsAtTheFirstTheLastAndEachWindow(t *testing.T) {
	for _, n := range []int{1, 2, 31, 32, 33, mostCells - 1, mostCells} {
		row, whole, size := append(sameCell(n-1, cell("a", "")), cell("b", "")), strings.Repeat("a", n-1)+"b", int64(n)
		gap := strings.Repeat("x", n)
		wantPlaces(t, "the first window", impl.BackRun(row, whole+gap+gap), []int64{size})
		wantPlaces(t, "the last window", impl.BackRun(row, gap+gap+whole), []int64{3 * size})
		wantPlaces(t, "each window", impl.BackRun(row, whole+whole+whole), []int64{size, 2 * size, 3 * size})
		wantPlaces(t, "no window", impl.BackRun(row, gap+gap+gap), nil)
		wantWindows(t, "each window", impl.Windows(row, whole+whole+whole), evenWindows(3, size, size))
		wantWindows(t, "no window", impl.Windows(row, gap+gap+gap), evenWindows(3, 1, size))
		for ahead := range n {
			wantPlaces(t, "moved", impl.BackRun(row, gap[:ahead]+whole+gap[:ahead]), []int64{int64(ahead) + size})
		}
	}
}

func TestTextsShorterThanTheRowHaveNoWindow(t *testing.T) {
	for n := 1; n <= mostCells; n++ {
		row, size, what := sameCell(n, cell("a", "")), int64(n), strconv.Itoa(n)+" cells"
		for short := range n {
			wantWindows(t, what, impl.Windows(row, strings.Repeat("a", short)), nil)
			wantPlaces(t, what, impl.BackRun(row, strings.Repeat("a", short)), nil)
		}
		wantWindows(t, what, impl.Windows(row, strings.Repeat("a", n)), evenWindows(1, size, 1))
		wantPlaces(t, what, impl.BackRun(row, strings.Repeat("a", n)), []int64{size})
		wantWindows(t, what, impl.Windows(row, strings.Repeat("a", n+1)), evenWindows(2, size, 1))
		wantPlaces(t, what, impl.BackRun(row, strings.Repeat("a", n+1)), []int64{size, size + 1})
	}
}

// wantNothingSeen asks for what is told of a text that is refused.
func wantNothingSeen(t *testing.T, what string, c []impl.Cell, text string) {
	t.Helper()
	wantFactor(t, c, text, false)
	wantBorder(t, c, text, 0)
	wantWindows(t, what, impl.Windows(c, text), nil)
	wantPlaces(t, "BackRun, "+what, impl.BackRun(c, text), nil)
}

func TestTextsAtTheLimitFromBehind(t *testing.T) {
	full := strings.Repeat("a", impl.MaxBytes)
	for _, n := range []int{1, 2, 31, 32, 33, mostCells - 1, mostCells} {
		size := int64(n)
		for _, class := range []string{"a", "ab", allBytes()} {
			row := sameCell(n, cell(class, ""))
			wantBorder(t, row, full, size-1)
			wantBorder(t, row, full[1:], size-1)
			wantWindows(t, "MaxBytes bytes", impl.Windows(row, full), evenWindows(impl.MaxBytes-n+1, size, 1))
			wantWindows(t, "one less", impl.Windows(row, full[1:]), evenWindows(impl.MaxBytes-n, size, 1))
			wantPlaces(t, "BackRun MaxBytes bytes", impl.BackRun(row, full), placesTo(size, impl.MaxBytes))
			wantPlaces(t, "BackRun one less", impl.BackRun(row, full[1:]), placesTo(size, impl.MaxBytes-1))
			wantNothingSeen(t, "one more", row, full+"a")
			wantNothingSeen(t, "twice as many", row, full+full)
		}
		last := append(sameCell(n-1, cell("a", "")), cell("b", ""))
		wantPlaces(t, "BackRun, a hit at the last byte", impl.BackRun(last, full[1:]+"b"), []int64{impl.MaxBytes})
		wantNothingSeen(t, "one byte ahead of it", last, full+"b")
		first := append([]impl.Cell{cell("b", "")}, sameCell(n-1, cell("a", ""))...)
		wantPlaces(t, "BackRun, a hit at the first byte", impl.BackRun(first, "b"+full[1:]), []int64{size})
		wantNothingSeen(t, "one byte behind it", first, "b"+full)
		wantWindows(t, "no byte of the row", impl.Windows(sameCell(n, cell("b", "")), full), evenWindows(impl.MaxBytes/n, 1, size))
	}
}

// wantNotLookedAt asks of a row that is not plain, or not right, with texts that would go with its cells.
func wantNotLookedAt(t *testing.T, what string, c []impl.Cell) {
	t.Helper()
	n := len(c)
	for _, text := range []string{"", "a", "aa", strings.Repeat("a", n), strings.Repeat("a", n+1), strings.Repeat("a", 150), strings.Repeat("a", impl.MaxBytes+1)} {
		wantNothingSeen(t, what, c, text)
	}
}

func TestWrongRowsAreNotLookedAt(t *testing.T) {
	for _, w := range wrongRows() {
		wantNotLookedAt(t, w.what, w.cells)
		row := slices.Clone(w.cells)
		for i := range row {
			row[i].Skip, row[i].Loop = false, false
		}
		wantNotLookedAt(t, w.what+", not marked", row)
	}
}

func TestRowsThatAreNotPlainAreNotLookedAt(t *testing.T) {
	for _, n := range []int{1, 2, 31, 32, 33, mostCells} {
		for _, marks := range []string{"?", "*", "?*"} {
			for at := range n {
				row := sameCell(n, cell("a", ""))
				row[at] = cell("a", marks)
				wantNotLookedAt(t, rowText(row), row)
			}
			wantNotLookedAt(t, "all "+marks, sameCell(n, cell("a", marks)))
		}
	}
}

func TestLookingFromBehindChangesNothingHandedIn(t *testing.T) {
	rows := append(wrongRows(), wrongRow{"not plain", cellsBy("a", "b?", "c*")})
	for _, n := range []int{1, 2, 32, 33, mostCells} {
		rows = append(rows, wrongRow{"right", sameCell(n, cell("ab", ""))})
	}
	for _, w := range rows {
		row := roomyCells(w.cells)
		for _, text := range []string{"", "ab", strings.Repeat("ab", mostCells), strings.Repeat("abc", mostCells)} {
			impl.IsFactor(row, text)
			impl.BorderOf(row, text)
			impl.Windows(row, text)
			impl.BackRun(row, text)
		}
		if !slices.Equal(row[:len(row)+1], append(slices.Clone(w.cells), cell("guard", "?"))) {
			t.Errorf("%s: a call changed what was handed in", w.what)
		}
	}
}

func TestWindowsAndEndsAreNewMemory(t *testing.T) {
	row := plainRow("aba")
	for range 2 {
		windows, ends := impl.Windows(row, "ababa"), impl.BackRun(row, "ababa")
		wantWindows(t, "again", windows, windowsOf([3]int64{0, 3, 2}, [3]int64{2, 3, 2}))
		wantPlaces(t, "BackRun, again", ends, []int64{3, 5})
		clear(windows[:cap(windows)])
		clear(ends[:cap(ends)])
	}
}

// What is made of one row must be seen by no other.
func TestRowsAreLookedAtInTurn(t *testing.T) {
	askInTurn(plainRows()[:150], func(row []impl.Cell) {
		text := row[0].Class[:1] + "b" + strings.Repeat("ab", len(row))
		if got, want := impl.Windows(row, text), plainWindows(row, text); !slices.Equal(got, want) {
			t.Errorf("Windows of %s: got %v, want %v", rowText(row), got, want)
		}
		if got, want := impl.BackRun(row, text), endsByWindows(row, text); !slices.Equal(got, want) {
			t.Errorf("BackRun of %s: got %v, want %v", rowText(row), got, want)
		}
	})
	first, second := plainRow("ab"), plainRow("ba")
	for range 2 {
		wantPlaces(t, "the first row", impl.BackRun(first, "ab"), []int64{2})
		wantPlaces(t, "the second row", impl.BackRun(second, "ba"), []int64{2})
		wantPlaces(t, "the first row, anew", impl.BackRun(first, "ba"), nil)
		wantPlaces(t, "the second row, anew", impl.BackRun(second, "ab"), nil)
	}
	// The row is the same memory, but another row.
	first[0].Class = "b"
	wantPlaces(t, "the first row, changed", impl.BackRun(first, "abb"), []int64{3})
}
