package tests

import (
	"math"
	"math/big"
	"slices"
	"strconv"
	"strings"
	"sync"
	"testing"

	"loop.example/g00736/impl"
)

const mostCells = 60

// cell writes a cell, with the marks ? (Skip) and * (Loop) as they are needed.
func cell(class string, marks string) impl.Cell {
	return impl.Cell{Class: class, Skip: strings.Contains(marks, "?"), Loop: strings.Contains(marks, "*")}
}

// cellsBy writes a row: of each piece the first byte is the class, and the rest the marks.
func cellsBy(pieces ...string) []impl.Cell {
	var out []impl.Cell
	for _, piece := range pieces {
		out = append(out, cell(piece[:1], piece[1:]))
	}
	return out
}

func sameCell(n int, c impl.Cell) []impl.Cell {
	return slices.Repeat([]impl.Cell{c}, n)
}

// rowText tells a row in a message of a test.
func rowText(c []impl.Cell) string {
	var out []string
	for _, x := range c {
		piece := strconv.Quote(x.Class)
		if x.Skip {
			piece += "?"
		}
		if x.Loop {
			piece += "*"
		}
		out = append(out, piece)
	}
	return strings.Join(out, " ")
}

// plainCells lays a right pattern out by the document's words.
func plainCells(p []impl.Atom) []impl.Cell {
	var out []impl.Cell
	for _, a := range p {
		switch {
		case a.Most != -1:
			out = append(out, sameCell(int(a.Least), cell(a.Class, ""))...)
			out = append(out, sameCell(int(a.Most-a.Least), cell(a.Class, "?"))...)
		case a.Least == 0:
			out = append(out, cell(a.Class, "?*"))
		default:
			out = append(out, sameCell(int(a.Least-1), cell(a.Class, ""))...)
			out = append(out, cell(a.Class, "*"))
		}
	}
	return out
}

// atomsFor tells how often each cell may be passed: so a row can be held against cuts, and against the library.
func atomsFor(c []impl.Cell) []impl.Atom {
	var out []impl.Atom
	for _, x := range c {
		a := once(x.Class)
		if x.Skip {
			a.Least = 0
		}
		if x.Loop {
			a.Most = -1
		}
		out = append(out, a)
	}
	return out
}

func wantCells(t *testing.T, what string, got []impl.Cell, want []impl.Cell) {
	t.Helper()
	if !slices.Equal(got, want) {
		t.Fatalf("%s: got %s, want %s", what, rowText(got), rowText(want))
	}
}

func wantCellsFit(t *testing.T, c []impl.Cell, text string, want bool) {
	t.Helper()
	if got := impl.CellsFit(c, text); got != want {
		t.Fatalf("CellsFit of %s and %q: got %v, want %v", rowText(c), text[:min(len(text), 80)], got, want)
	}
}

// placesVec is a Vec of the places of so many cells, with some of them on.
func placesVec(cells int, on ...int) impl.Vec {
	n := new(big.Int)
	for _, place := range on {
		n.SetBit(n, place, 1)
	}
	return vecOf(int64(cells)+1, n)
}

func sameMasks(a impl.Masks, b impl.Masks) bool {
	return sameVec(a.Start, b.Start) && sameVec(a.Final, b.Final) && sameVec(a.First, b.First) &&
		sameVec(a.Last, b.Last) && sameVec(a.Block, b.Block)
}

func wantMasks(t *testing.T, what string, got impl.Masks, want impl.Masks) {
	t.Helper()
	if !sameMasks(got, want) {
		t.Fatalf("MasksOf %s: got %+v, want %+v", what, got, want)
	}
}

// plainMasks goes from run to run by the document's words.
func plainMasks(c []impl.Cell) impl.Masks {
	n := len(c)
	var first, last, block []int
	for s := 1; s <= n; s++ {
		if !c[s-1].Skip {
			continue
		}
		e := s
		for e < n && c[e].Skip {
			e++
		}
		first, last = append(first, s-1), append(last, e)
		for i := s; i <= e; i++ {
			block = append(block, i)
		}
		s = e
	}
	return impl.Masks{
		Start: placesVec(n, 0),
		Final: placesVec(n, n),
		First: placesVec(n, first...),
		Last:  placesVec(n, last...),
		Block: placesVec(n, block...),
	}
}

// plainByteVec asks each cell for a byte, without the program.
func plainByteVec(c []impl.Cell, b int, loop bool) impl.Vec {
	var on []int
	for i, x := range c {
		if hasByte(x.Class, b) && (x.Loop || !loop) {
			on = append(on, i+1)
		}
	}
	return placesVec(len(c), on...)
}

// shortRows holds all rows of cells whose classes meet, up to a count of cells.
func shortRows(most int) [][]impl.Cell {
	var cells []impl.Cell
	for _, class := range []string{"a", "b", "ab"} {
		for _, marks := range []string{"", "?", "*", "?*"} {
			cells = append(cells, cell(class, marks))
		}
	}
	return rowsOf(cells, most)
}

// mixedRow throws a row of so many cells, of which about one in four is Loop, and more or fewer are Skip.
func mixedRow(d *dice, n int, classes []string) []impl.Cell {
	var out []impl.Cell
	rare := 1 + d.below(6)
	for range n {
		out = append(out, impl.Cell{Class: classes[d.below(len(classes))], Skip: d.below(rare) == 0, Loop: d.below(4) == 0})
	}
	return out
}

// longRows holds rows of all counts of cells, so at each border between the words of a Vec, too.
func longRows() [][]impl.Cell {
	d := dice(31)
	var all [][]impl.Cell
	for n := 1; n <= mostCells; n++ {
		for _, marks := range []string{"", "?", "*", "?*"} {
			all = append(all, sameCell(n, cell("ab", marks)))
		}
		for range 4 {
			all = append(all, mixedRow(&d, n, fullClasses()), mixedRow(&d, n, []string{"a", "b", "ab"}))
		}
	}
	return all
}

// runRow is a row of 60 cells with one run that is Skip.
func runRow(first int, last int) []impl.Cell {
	row := sameCell(mostCells, cell("a", ""))
	for i := first; i <= last; i++ {
		row[i].Skip = true
	}
	return row
}

// wrongRow is a row that is not right, and why.
type wrongRow struct {
	what  string
	cells []impl.Cell
}

func wrongRows() []wrongRow {
	all := []wrongRow{
		{"none", nil},
		{"no cells", []impl.Cell{}},
		{"61 plain cells", sameCell(mostCells+1, cell("a", ""))},
		{"61 cells that may be passed by", sameCell(mostCells+1, cell("a", "?"))},
		{"61 cells that are both", sameCell(mostCells+1, cell("a", "?*"))},
		{"64 cells", sameCell(64, cell("a", "?*"))},
		{"124 cells", sameCell(124, cell("a", "?*"))},
		{"MaxList cells", sameCell(impl.MaxList, cell("a", "?*"))},
		{"one cell more than MaxList", sameCell(impl.MaxList+1, cell("a", "?*"))},
		{"the zero cell", make([]impl.Cell, 1)},
		{"60 zero cells", make([]impl.Cell, mostCells)},
	}
	for _, w := range append(wrongClasses(), wrongClass{"an empty class", ""}) {
		for _, marks := range []string{"", "?", "*", "?*"} {
			all = append(all, wrongRow{w.what + " " + marks, []impl.Cell{cell(w.class, marks)}})
		}
		for _, at := range []int{0, 1, mostCells / 2, mostCells - 1} {
			row := sameCell(mostCells, cell("a", "?*"))
			row[at].Class = w.class
			all = append(all, wrongRow{w.what + ", among 60 cells at " + strconv.Itoa(at), row})
		}
	}
	return all
}

func TestCellsRight(t *testing.T) {
	for _, c := range append(longRows(), shortRows(2)...) {
		if !impl.CellsRight(c) {
			t.Fatalf("CellsRight of %s: got false", rowText(c))
		}
	}
	for _, class := range fullClasses() {
		if !impl.CellsRight(sameCell(1, cell(class, ""))) || !impl.CellsRight(sameCell(mostCells, cell(class, "?*"))) {
			t.Fatalf("CellsRight of the class %q: got false", class)
		}
	}
}

func TestWrongRows(t *testing.T) {
	for _, w := range wrongRows() {
		if impl.CellsRight(w.cells) {
			t.Errorf("CellsRight, %s: got true", w.what)
		}
		if impl.Plain(w.cells) {
			t.Errorf("Plain, %s: got true", w.what)
		}
		for _, text := range []string{"", "a", "aa", strings.Repeat("a", 60), strings.Repeat("a", 61)} {
			if impl.CellsFit(w.cells, text) {
				t.Errorf("CellsFit, %s: got true of %q", w.what, text)
			}
		}
		if got := impl.MasksOf(w.cells); !sameMasks(got, impl.Masks{}) {
			t.Errorf("MasksOf, %s: got %+v", w.what, got)
		}
		for _, b := range []int64{0, 'a', 'b', 255, -1, 256} {
			wantVec(t, "ByteVec, "+w.what, impl.ByteVec(w.cells, b), impl.Vec{})
			wantVec(t, "LoopVec, "+w.what, impl.LoopVec(w.cells, b), impl.Vec{})
		}
	}
}

func TestCellsOf(t *testing.T) {
	for _, c := range []struct {
		pattern string
		want    []string
	}{
		{"a", []string{"a"}},
		{"a?", []string{"a?"}},
		{"a*", []string{"a?*"}},
		{"a+", []string{"a*"}},
		{"a{2}", []string{"a", "a"}},
		{"a{3}", []string{"a", "a", "a"}},
		{"a{2,}", []string{"a", "a*"}},
		{"a{3,}", []string{"a", "a", "a*"}},
		{"a{0,2}", []string{"a?", "a?"}},
		{"a{1,2}", []string{"a", "a?"}},
		{"a{1,3}", []string{"a", "a?", "a?"}},
		{"a{2,4}", []string{"a", "a", "a?", "a?"}},
		{"abc", []string{"a", "b", "c"}},
		{"a{1,2}b*", []string{"a", "a?", "b?*"}},
		{"a*b{2,}c?d", []string{"a?*", "b", "b*", "c?", "d"}},
		{"aaa", []string{"a", "a", "a"}},
		{"a*a*", []string{"a?*", "a?*"}},
		{`\x00\xff?`, []string{"\x00", "\xff?"}},
	} {
		wantCells(t, "CellsOf "+c.pattern, impl.CellsOf(patternOf(t, c.pattern)), cellsBy(c.want...))
	}
	wantCells(t, "CellsOf classes", impl.CellsOf(patternOf(t, "[a-c]{1,2}.")), []impl.Cell{{Class: "abc"}, {Class: "abc", Skip: true}, {Class: allBytes()}})
}

func TestCellsOfRightPatterns(t *testing.T) {
	for _, p := range append(rightPatterns(), meetingPatterns(2)...) {
		got := impl.CellsOf(p)
		wantCells(t, "CellsOf "+plainText(p), got, plainCells(p))
		if !impl.CellsRight(got) {
			t.Fatalf("CellsOf %s are not right", plainText(p))
		}
	}
}

func TestCellsOfWrongPatterns(t *testing.T) {
	for _, w := range wrongPatterns() {
		if got := impl.CellsOf(w.pattern); len(got) != 0 {
			t.Errorf("CellsOf, %s: got %s", w.what, rowText(got))
		}
	}
}

func TestCellsFit(t *testing.T) {
	for _, c := range []struct {
		row []string
		fit []string
		not []string
	}{
		{[]string{"a"}, []string{"a"}, []string{"", "b", "aa"}},
		{[]string{"a?"}, []string{"", "a"}, []string{"b", "aa"}},
		{[]string{"a*"}, []string{"a", "aa", "aaaa"}, []string{"", "b", "ab", "ba"}},
		{[]string{"a?*"}, []string{"", "a", "aa", "aaaa"}, []string{"b", "ab", "ba"}},
		{[]string{"a", "b"}, []string{"ab"}, []string{"", "a", "b", "ba", "abb", "aab"}},
		{[]string{"a?", "b"}, []string{"ab", "b"}, []string{"", "a", "aab", "bb"}},
		{[]string{"a", "b?"}, []string{"ab", "a"}, []string{"", "b", "abb"}},
		{[]string{"a*", "b"}, []string{"ab", "aab", "aaaab"}, []string{"", "b", "a", "abb", "abab"}},
		{[]string{"a", "b*"}, []string{"ab", "abb", "abbbb"}, []string{"", "a", "b", "aab", "abba"}},
		{[]string{"a?*", "b?*"}, []string{"", "a", "b", "aab", "abb", "bb"}, []string{"ba", "aba"}},
		{[]string{"a?", "b?", "c?"}, []string{"", "a", "b", "c", "ab", "ac", "bc", "abc"}, []string{"ba", "ca", "abcc", "aa"}},
		{[]string{"a", "b?", "c?", "d"}, []string{"ad", "abd", "acd", "abcd"}, []string{"", "a", "d", "acbd", "abbd"}},
		{[]string{"a*", "a*"}, []string{"aa", "aaa"}, []string{"", "a"}},
		{[]string{"a*", "b?", "c*"}, []string{"ac", "abc", "aacc", "aabcc"}, []string{"", "a", "c", "abbc"}},
		{[]string{"\x00", "\xff*"}, []string{"\x00\xff", "\x00\xff\xff"}, []string{"", "\x00", "\xff", "\xff\x00", "\x00\x00"}},
	} {
		row := cellsBy(c.row...)
		for _, text := range c.fit {
			wantCellsFit(t, row, text, true)
		}
		for _, text := range c.not {
			wantCellsFit(t, row, text, false)
		}
	}
}

func TestTheEmptyTextPassesJustWhatMayBePassedBy(t *testing.T) {
	for _, n := range []int{1, 2, 31, 32, 33, mostCells} {
		for _, marks := range []string{"?", "?*"} {
			row := sameCell(n, cell("a", marks))
			wantCellsFit(t, row, "", true)
			for _, at := range []int{0, n / 2, n - 1} {
				for _, other := range []string{"", "*"} {
					one := slices.Clone(row)
					one[at] = cell("a", other)
					wantCellsFit(t, one, "", false)
				}
			}
		}
	}
}

func TestCellsFitByEachWayToCut(t *testing.T) {
	texts := shortTexts("ab", 5)
	for _, c := range shortRows(3) {
		p := atomsFor(c)
		for _, text := range texts {
			wantCellsFit(t, c, text, cutsInto(p, text))
		}
	}
}

func TestCellsFitByTheLibrary(t *testing.T) {
	d := dice(32)
	for i, c := range longRows() {
		// The library takes long to make ready for a long row.
		if i%3 != 0 {
			continue
		}
		p := atomsFor(c)
		fits := byRegexp(p)
		for _, text := range nearTexts(&d, p) {
			wantCellsFit(t, c, text, fits(text))
		}
	}
}

func TestEachByteIsPassedByItsClassAlone(t *testing.T) {
	for _, class := range fullClasses() {
		row := []impl.Cell{cell("a", ""), cell(class, "*")}
		for b := range 256 {
			one := string([]byte{byte(b)})
			wantCellsFit(t, row, "a"+one, hasByte(class, b))
			wantCellsFit(t, row, "a"+class[:1]+one, hasByte(class, b))
		}
	}
}

// wantAsMeant holds promise 7 against one pattern and one text.
func wantAsMeant(t *testing.T, p []impl.Atom, cells []impl.Cell, text string) {
	t.Helper()
	if got, want := impl.CellsFit(cells, text), impl.Fits(p, text); got != want {
		t.Fatalf("the cells of %s and %q: got %v, want %v", plainText(p), text, got, want)
	}
}

func TestTheCellsOfAPatternFitJustWhatItMeans(t *testing.T) {
	d := dice(33)
	for _, p := range rightPatterns() {
		cells := impl.CellsOf(p)
		for range 3 {
			for _, text := range nearTexts(&d, p) {
				wantAsMeant(t, p, cells, text)
			}
		}
		wantAsMeant(t, p, cells, "")
	}
	texts := shortTexts("ab", 6)
	for _, p := range meetingPatterns(2) {
		cells := impl.CellsOf(p)
		for _, text := range texts {
			wantAsMeant(t, p, cells, text)
		}
	}
}

func TestTheCellsOfEachLeastAndMostFitSoManyBytes(t *testing.T) {
	for _, pair := range allTimes() {
		cells := impl.CellsOf(times("ab", pair[0], pair[1]))
		for size := int64(0); size <= 25; size++ {
			want := size >= pair[0] && (pair[1] == -1 || size <= pair[1])
			wantCellsFit(t, cells, strings.Repeat("ab", 13)[:size], want)
		}
	}
}

func TestCellsFitTextsAtTheLimit(t *testing.T) {
	full := strings.Repeat("a", impl.MaxBytes)
	for _, row := range [][]impl.Cell{
		cellsBy("a*"),
		cellsBy("a?*"),
		sameCell(mostCells, cell("a", "*")),
		sameCell(mostCells, cell("a", "?*")),
		sameCell(mostCells, cell(allBytes(), "?*")),
		append(sameCell(mostCells-1, cell("a", "")), cell("a", "*")),
	} {
		wantCellsFit(t, row, full, true)
		wantCellsFit(t, row, full[1:], true)
		wantCellsFit(t, row, full+"a", false)
		wantCellsFit(t, row, full+full, false)
	}
	row := append(sameCell(mostCells-1, cell("a", "?*")), cell("b", ""))
	wantCellsFit(t, row, full, false)
	wantCellsFit(t, row, full[1:]+"b", true)
	wantCellsFit(t, row, full+"b", false)
}

func TestPlain(t *testing.T) {
	for n := 1; n <= mostCells; n++ {
		row := sameCell(n, cell("a", ""))
		if !impl.Plain(row) {
			t.Errorf("Plain of %d plain cells: got false", n)
		}
		for at := range n {
			for _, marks := range []string{"?", "*", "?*"} {
				one := slices.Clone(row)
				one[at] = cell("a", marks)
				if impl.Plain(one) {
					t.Errorf("Plain of %d cells, %s at %d: got true", n, marks, at)
				}
			}
		}
	}
}

func TestMasksOf(t *testing.T) {
	for _, c := range []struct {
		row   []string
		first []int
		last  []int
		block []int
	}{
		{[]string{"a"}, nil, nil, nil},
		{[]string{"a*", "b*"}, nil, nil, nil},
		{[]string{"a?"}, []int{0}, []int{1}, []int{1}},
		{[]string{"a?*"}, []int{0}, []int{1}, []int{1}},
		{[]string{"a?", "b", "c"}, []int{0}, []int{1}, []int{1}},
		{[]string{"a", "b?", "c"}, []int{1}, []int{2}, []int{2}},
		{[]string{"a", "b", "c?"}, []int{2}, []int{3}, []int{3}},
		{[]string{"a", "a?", "b?*"}, []int{1}, []int{3}, []int{2, 3}},
		{[]string{"a?", "b?", "c?"}, []int{0}, []int{3}, []int{1, 2, 3}},
		{[]string{"a?", "b", "c?"}, []int{0, 2}, []int{1, 3}, []int{1, 3}},
		{[]string{"a?", "b?", "c*", "d?", "e?", "f"}, []int{0, 3}, []int{2, 5}, []int{1, 2, 4, 5}},
		{[]string{"a", "b?", "c", "d", "e?*", "f?"}, []int{1, 4}, []int{2, 6}, []int{2, 5, 6}},
	} {
		n := len(c.row)
		wantMasks(t, strings.Join(c.row, " "), impl.MasksOf(cellsBy(c.row...)), impl.Masks{
			Start: placesVec(n, 0),
			Final: placesVec(n, n),
			First: placesVec(n, c.first...),
			Last:  placesVec(n, c.last...),
			Block: placesVec(n, c.block...),
		})
	}
}

func TestMasksOfEachRowOfSkips(t *testing.T) {
	for n := 1; n <= 10; n++ {
		for skips := range 1 << n {
			row := sameCell(n, cell("a", ""))
			for i := range row {
				row[i].Skip = skips>>i&1 == 1
				row[i].Loop = skips>>i%3 == 0
			}
			wantMasks(t, rowText(row), impl.MasksOf(row), plainMasks(row))
		}
	}
}

func TestMasksOfLongRows(t *testing.T) {
	for _, row := range longRows() {
		wantMasks(t, rowText(row), impl.MasksOf(row), plainMasks(row))
	}
	for first := range mostCells {
		for last := first; last < mostCells; last++ {
			row := runRow(first, last)
			wantMasks(t, rowText(row), impl.MasksOf(row), plainMasks(row))
		}
	}
}

func TestByteVecAndLoopVec(t *testing.T) {
	row := []impl.Cell{{Class: "a"}, {Class: "ab", Loop: true}, {Class: "b", Skip: true}, {Class: "a", Skip: true, Loop: true}, {Class: "\x00\xff", Loop: true}, {Class: "\xff"}}
	for _, c := range []struct {
		b     int64
		cells []int
		loops []int
	}{
		{'a', []int{1, 2, 4}, []int{2, 4}},
		{'b', []int{2, 3}, []int{2}},
		{0, []int{5}, []int{5}},
		{255, []int{5, 6}, []int{5}},
		{'c', nil, nil},
		{'A', nil, nil},
		{1, nil, nil},
		{254, nil, nil},
	} {
		what := strconv.Itoa(int(c.b))
		wantVec(t, "ByteVec of "+what, impl.ByteVec(row, c.b), placesVec(len(row), c.cells...))
		wantVec(t, "LoopVec of "+what, impl.LoopVec(row, c.b), placesVec(len(row), c.loops...))
	}
}

func TestVecsOfEachByte(t *testing.T) {
	for i, row := range longRows() {
		what := " of " + rowText(row)
		for b := i % 7; b < 256; b += 7 {
			wantVec(t, "ByteVec"+what, impl.ByteVec(row, int64(b)), plainByteVec(row, b, false))
			wantVec(t, "LoopVec"+what, impl.LoopVec(row, int64(b)), plainByteVec(row, b, true))
		}
		if t.Failed() {
			return
		}
	}
	for _, class := range fullClasses() {
		row := []impl.Cell{cell(class, "*"), cell("a", ""), cell(class, "")}
		for b := range 256 {
			wantVec(t, "ByteVec", impl.ByteVec(row, int64(b)), plainByteVec(row, b, false))
			wantVec(t, "LoopVec", impl.LoopVec(row, int64(b)), plainByteVec(row, b, true))
		}
	}
}

func TestVecsOfWhatIsNoByte(t *testing.T) {
	row := sameCell(mostCells, cell(allBytes(), "?*"))
	for _, b := range []int64{-1, -2, -256, 256, 257, 256 + 'a', 1 << 32, 1<<32 + 'a', math.MinInt64, math.MaxInt64} {
		wantVec(t, "ByteVec of "+strconv.FormatInt(b, 10), impl.ByteVec(row, b), impl.Vec{})
		wantVec(t, "LoopVec of "+strconv.FormatInt(b, 10), impl.LoopVec(row, b), impl.Vec{})
	}
	for _, b := range []int64{0, 255} {
		wantVec(t, "ByteVec of a byte at the edge", impl.ByteVec(row, b), plainByteVec(row, int(b), false))
		wantVec(t, "LoopVec of a byte at the edge", impl.LoopVec(row, b), plainByteVec(row, int(b), true))
	}
}

// roomyCells is a copy of a row with a cell behind it that no call may touch.
func roomyCells(c []impl.Cell) []impl.Cell {
	return append(slices.Clone(c), cell("guard", "?"))[:len(c)]
}

func TestCellsHandedInAreNotChanged(t *testing.T) {
	for _, w := range append(wrongRows(), wrongRow{"right", cellsBy("a", "b?", "c*", "d?*")}, wrongRow{"60 cells", sameCell(mostCells, cell("a", "*"))}) {
		row := roomyCells(w.cells)
		impl.CellsRight(row)
		impl.CellsFit(row, "abccdd")
		impl.Plain(row)
		impl.MasksOf(row)
		impl.ByteVec(row, 'a')
		impl.LoopVec(row, 'c')
		if !slices.Equal(row[:len(row)+1], append(slices.Clone(w.cells), cell("guard", "?"))) {
			t.Errorf("%s: a call changed what was handed in", w.what)
		}
	}
	for _, p := range rightPatterns() {
		given := roomy(p)
		impl.CellsOf(given)
		if !slices.Equal(given[:len(p)+1], append(slices.Clone(p), impl.Atom{Class: "guard", Least: 7, Most: 9})) {
			t.Fatalf("CellsOf changed the pattern %s", plainText(p))
		}
	}
}

func TestCellsAreNewMemory(t *testing.T) {
	for _, p := range rightPatterns() {
		cells := impl.CellsOf(p)
		for i, x := range cells {
			for _, a := range p {
				if sharesMemory(a.Class, x.Class) {
					t.Fatalf("CellsOf %s: the class %q shares memory with what was handed in", plainText(p), x.Class)
				}
			}
			for _, y := range cells[:i] {
				if sharesMemory(y.Class, x.Class) {
					t.Fatalf("CellsOf %s: two classes %q share memory", plainText(p), x.Class)
				}
			}
		}
		was := slices.Clone(cells)
		clear(cells[:cap(cells)])
		wantCells(t, "CellsOf, again", impl.CellsOf(p), was)
	}
}

// vecsOf lists the vectors of an answer.
func vecsOf(m impl.Masks) []impl.Vec {
	return []impl.Vec{m.Start, m.Final, m.First, m.Last, m.Block}
}

func TestMasksAndVecsAreNewMemory(t *testing.T) {
	for _, row := range longRows() {
		masks := impl.MasksOf(row)
		vecs := append(vecsOf(masks), impl.ByteVec(row, 'a'), impl.ByteVec(row, 'a'), impl.LoopVec(row, 'a'), impl.LoopVec(row, 'a'))
		for i, v := range vecs {
			whole := v.Words[:cap(v.Words)]
			for at := range whole {
				whole[at] = int64(i)
			}
		}
		for i, v := range vecs {
			if slices.ContainsFunc(v.Words, func(w int64) bool { return w != int64(i) }) {
				t.Fatalf("%s: two lists share memory", rowText(row))
			}
		}
		wantMasks(t, rowText(row)+", again", impl.MasksOf(row), plainMasks(row))
		wantVec(t, "ByteVec, again", impl.ByteVec(row, 'a'), plainByteVec(row, 'a', false))
		wantVec(t, "LoopVec, again", impl.LoopVec(row, 'a'), plainByteVec(row, 'a', true))
	}
}

// askInTurn asks of rows from four goroutines at once, each of which comes to them from another one on.
func askInTurn(rows [][]impl.Cell, ask func(row []impl.Cell)) {
	var all sync.WaitGroup
	for from := range 4 {
		all.Go(func() {
			for i := range rows {
				ask(rows[(i*7+from)%len(rows)])
			}
		})
	}
	all.Wait()
}

// What is made once is made once of a row, not of the program: rows that are asked in turn must not see each other.
func TestRowsAreAskedInTurn(t *testing.T) {
	askInTurn(longRows()[:200], func(row []impl.Cell) {
		wantVec(t, "ByteVec of "+rowText(row), impl.ByteVec(row, 'b'), plainByteVec(row, 'b', false))
		wantVec(t, "LoopVec of "+rowText(row), impl.LoopVec(row, 'b'), plainByteVec(row, 'b', true))
	})
	first, second := cellsBy("a"), cellsBy("b")
	for range 2 {
		wantCellsFit(t, first, "a", true)
		wantCellsFit(t, second, "a", false)
		wantCellsFit(t, second, "b", true)
		wantCellsFit(t, first, "b", false)
	}
	// The row is the same memory, but another row.
	first[0].Class = "b"
	wantCellsFit(t, first, "b", true)
	wantCellsFit(t, first, "a", false)
}
