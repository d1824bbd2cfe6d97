package tests

import (
	"math"
	"math/big"
	"slices"
	"strconv"
	"strings"
	"testing"

	"loop.example/g00736/impl"
)

// plainRow writes a row of plain cells, one a byte.
func plainRow(text string) []impl.Cell {
	var out []impl.Cell
	for i := range len(text) {
		out = append(out, cell(text[i:i+1], ""))
	}
	return out
}

// goesWith tells whether a text passes all of some plain cells, byte by byte.
func goesWith(c []impl.Cell, text string) bool {
	if len(c) != len(text) {
		return false
	}
	for i, x := range c {
		if !hasByte(x.Class, int(text[i])) {
			return false
		}
	}
	return true
}

// turnedBits is a Vec of so many bits, all on but some.
func turnedBits(n int, off ...int) impl.Vec {
	bits := new(big.Int).Sub(power(int64(n)), big.NewInt(1))
	for _, i := range off {
		bits.SetBit(bits, i, 0)
	}
	return vecOf(int64(n), bits)
}

// turnedBehind tells by the document's words which bits are off behind a text: those up to whose cell its last
// bytes pass.
func turnedBehind(c []impl.Cell, text string) impl.Vec {
	var off []int
	for i := range min(len(c), len(text)) {
		if goesWith(c[:i+1], text[len(text)-i-1:]) {
			off = append(off, i)
		}
	}
	return turnedBits(len(c), off...)
}

// plainTurnByte asks each cell for a byte, without the program.
func plainTurnByte(c []impl.Cell, b int) impl.Vec {
	var off []int
	for i, x := range c {
		if hasByte(x.Class, b) {
			off = append(off, i)
		}
	}
	return turnedBits(len(c), off...)
}

// plainTurnStep goes one byte on with numbers of any size.
func plainTurnStep(c []impl.Cell, v impl.Vec, b int) impl.StepOut {
	n := int64(len(c))
	bits := modulo(n, new(big.Int).Lsh(numOf(v), 1))
	bits.Or(bits, numOf(plainTurnByte(c, b)))
	return impl.StepOut{Vec: vecOf(n, bits), Hit: bits.Bit(len(c)-1) == 0}
}

// turnByVecs goes one byte on by the vectors that the document names.
func turnByVecs(c []impl.Cell, v impl.Vec, b int64) impl.StepOut {
	came := impl.VecOr(impl.VecUp(v), impl.TurnByte(c, b))
	return impl.StepOut{Vec: came, Hit: !impl.VecGet(came, int64(len(c))-1)}
}

// endsByWindows holds each piece that is as long as the row against it.
func endsByWindows(c []impl.Cell, text string) []int64 {
	var out []int64
	for end := len(c); end <= len(text); end++ {
		if goesWith(c, text[end-len(c):end]) {
			out = append(out, int64(end))
		}
	}
	return out
}

// someClassesRow throws a row of so many plain cells.
func someClassesRow(d *dice, n int, classes []string) []impl.Cell {
	var out []impl.Cell
	for range n {
		out = append(out, cell(classes[d.below(len(classes))], ""))
	}
	return out
}

// plainRows holds rows of plain cells of all counts, so at each border between the words of a Vec, too.
func plainRows() [][]impl.Cell {
	d := dice(51)
	var all [][]impl.Cell
	for n := 1; n <= mostCells; n++ {
		all = append(all, sameCell(n, cell("a", "")), sameCell(n, cell(allBytes(), "")), sameCell(n, cell("\x00\xff", "")))
		for _, ends := range []int{0, n - 1} {
			one := sameCell(n, cell("a", ""))
			one[ends] = cell("b", "")
			all = append(all, one)
		}
		for range 2 {
			all = append(all, someClassesRow(&d, n, fullClasses()), someClassesRow(&d, n, []string{"a", "b", "ab"}))
		}
	}
	return all
}

// meetingRows holds all rows of some plain cells whose classes meet, up to a count of cells.
func meetingRows(most int) [][]impl.Cell {
	return rowsOf([]impl.Cell{cell("a", ""), cell("b", ""), cell("ab", ""), cell("bc", "")}, most)
}

// aroundRow holds texts in which a row ends at the first and the last byte that it can, often, or nowhere.
func aroundRow(d *dice, c []impl.Cell) []string {
	p := atomsFor(c)
	whole := textFor(d, p, 0)
	all := append(nearTexts(d, p), "", whole[1:], whole[:len(whole)-1], "\x00"+whole, whole+"\xff", whole+whole[1:]+whole)
	return append(all, strings.Repeat("ab", len(c)), strings.Repeat("a", 2*len(c)), strings.Join(all, "b"))
}

func TestTurnStart(t *testing.T) {
	for n := 1; n <= mostCells; n++ {
		wantVec(t, "TurnStart of "+strconv.Itoa(n)+" cells", impl.TurnStart(sameCell(n, cell("a", ""))), turnedBits(n))
	}
	for _, c := range []struct {
		cells int
		words []int64
	}{
		{1, []int64{1}},
		{2, []int64{3}},
		{31, []int64{1<<31 - 1}},
		{32, []int64{math.MaxUint32}},
		{33, []int64{math.MaxUint32, 1}},
		{60, []int64{math.MaxUint32, 1<<28 - 1}},
	} {
		got := impl.TurnStart(sameCell(c.cells, cell("ab", "")))
		wantVec(t, "TurnStart, word by word", got, impl.Vec{Bits: int64(c.cells), Words: c.words})
	}
}

func TestTurnByte(t *testing.T) {
	row := []impl.Cell{{Class: "a"}, {Class: "ab"}, {Class: "ab"}, {Class: "\x00ab\xff"}, {Class: "\xff"}}
	for _, c := range []struct {
		b   int64
		off []int
	}{
		{'a', []int{0, 1, 2, 3}},
		{'b', []int{1, 2, 3}},
		{0, []int{3}},
		{255, []int{3, 4}},
		{1, nil},
		{254, nil},
		{'A', nil},
	} {
		wantVec(t, "TurnByte of "+strconv.Itoa(int(c.b)), impl.TurnByte(row, c.b), turnedBits(5, c.off...))
	}
}

func TestTurnByteOfEachRow(t *testing.T) {
	for i, row := range plainRows() {
		bytes := []int{0, 'a', 'b', 255}
		for b := i % 17; b < 256; b += 17 {
			bytes = append(bytes, b)
		}
		for _, b := range bytes {
			got := impl.TurnByte(row, int64(b))
			wantVec(t, "TurnByte of "+rowText(row)+" and "+strconv.Itoa(b), got, plainTurnByte(row, b))
		}
		if t.Failed() {
			return
		}
	}
	for _, class := range fullClasses() {
		row := []impl.Cell{cell(class, ""), cell("a", ""), cell(class, "")}
		for b := range 256 {
			wantVec(t, "TurnByte of each byte", impl.TurnByte(row, int64(b)), plainTurnByte(row, b))
		}
	}
}

// One cell alone has a byte, at the first place, at the last one, and at each border between words.
func TestTurnByteOfOneCellAlone(t *testing.T) {
	for _, n := range []int{1, 2, 31, 32, 33, mostCells - 1, mostCells} {
		for at := range n {
			row := sameCell(n, cell("a", ""))
			row[at] = cell("b", "")
			what := strconv.Itoa(n) + " cells, one at " + strconv.Itoa(at)
			wantVec(t, "TurnByte, "+what, impl.TurnByte(row, 'b'), turnedBits(n, at))
			wantVec(t, "TurnByte of no cell, "+what, impl.TurnByte(row, 'c'), turnedBits(n))
			all := slices.Clone(row)
			all[at] = cell("ab", "")
			wantVec(t, "TurnByte of every cell, "+what, impl.TurnByte(all, 'a'), vecOf(int64(n), new(big.Int)))
		}
	}
}

func TestTurnStep(t *testing.T) {
	for _, c := range []struct {
		row string
		off []int
		b   int64
		to  []int
		hit bool
	}{
		{"a", nil, 'a', []int{0}, true},
		{"a", []int{0}, 'a', []int{0}, true},
		{"a", nil, 'b', nil, false},
		{"a", []int{0}, 'b', nil, false},
		{"ab", nil, 'a', []int{0}, false},
		{"ab", nil, 'b', nil, false},
		{"ab", []int{0}, 'b', []int{1}, true},
		{"ab", []int{0}, 'a', []int{0}, false},
		{"ab", []int{1}, 'b', nil, false},
		{"ab", []int{1}, 'a', []int{0}, false},
		{"ab", []int{0, 1}, 'b', []int{1}, true},
		{"aa", nil, 'a', []int{0}, false},
		{"aa", []int{0}, 'a', []int{0, 1}, true},
		{"aa", []int{0, 1}, 'a', []int{0, 1}, true},
		{"aba", []int{1}, 'a', []int{0, 2}, true},
		{"aba", []int{0, 2}, 'b', []int{1}, false},
		{"abc", []int{0, 1, 2}, 'd', nil, false},
		{"\x00\xff", nil, 0, []int{0}, false},
		{"\x00\xff", []int{0}, 255, []int{1}, true},
	} {
		n := len(c.row)
		got := impl.TurnStep(plainRow(c.row), turnedBits(n, c.off...), c.b)
		what := "TurnStep of " + c.row + " by " + strconv.Itoa(int(c.b))
		wantStep(t, what, got, impl.StepOut{Vec: turnedBits(n, c.to...), Hit: c.hit})
	}
}

// wantTurned holds a step against the document's words, and against the vectors that it names.
func wantTurned(t *testing.T, c []impl.Cell, v impl.Vec, b int) {
	t.Helper()
	got, what := impl.TurnStep(c, v, int64(b)), "TurnStep of "+rowText(c)+" by "+strconv.Itoa(b)
	wantStep(t, what, got, plainTurnStep(c, v, b))
	wantStep(t, what+", by vectors", got, turnByVecs(c, v, int64(b)))
}

func TestTurnStepOfShortRows(t *testing.T) {
	for _, row := range meetingRows(4) {
		for number := range 1 << len(row) {
			for _, b := range []int{'a', 'b', 'c', 'd'} {
				wantTurned(t, row, vecOf(int64(len(row)), big.NewInt(int64(number))), b)
			}
		}
	}
}

// The vectors are none, all, the lowest or the highest bit alone, and others.
func TestTurnStepOfLongRows(t *testing.T) {
	d := dice(52)
	for _, row := range plainRows() {
		for i, v := range someVecs(int64(len(row))) {
			class := row[d.below(len(row))].Class
			if i%3 == 2 {
				class = allBytes()
			}
			wantTurned(t, row, v, int(class[d.below(len(class))]))
		}
	}
}

func TestTurnStepByEachByte(t *testing.T) {
	for _, class := range fullClasses() {
		row := []impl.Cell{cell(class, ""), cell("a", ""), cell(class, "")}
		for b := range 256 {
			wantTurned(t, row, vecOf(3, big.NewInt(int64(b%8))), b)
		}
	}
}

// Behind each byte the bits must tell what the last bytes passed.
func TestTurnedBitsTellWhatTheLastBytesPassed(t *testing.T) {
	d := dice(53)
	for _, row := range append(plainRows(), meetingRows(3)...) {
		texts := aroundRow(&d, row)
		text := texts[d.below(len(texts))]
		v := impl.TurnStart(row)
		wantVec(t, "behind no byte", v, turnedBehind(row, ""))
		for i := range min(len(text), 130) {
			step := impl.TurnStep(row, v, int64(text[i]))
			behind := text[:i+1]
			ends := len(behind) >= len(row) && goesWith(row, behind[len(behind)-len(row):])
			wantStep(t, rowText(row)+", behind "+asRunes(behind), step, impl.StepOut{Vec: turnedBehind(row, behind), Hit: ends})
			v = step.Vec
		}
	}
}

func TestTurnRun(t *testing.T) {
	for _, c := range []struct {
		row  string
		text string
		want []int64
	}{
		{"a", "", nil},
		{"a", "a", []int64{1}},
		{"a", "b", nil},
		{"a", "aaa", []int64{1, 2, 3}},
		{"a", "abba", []int64{1, 4}},
		{"ab", "a", nil},
		{"ab", "ab", []int64{2}},
		{"ab", "ba", nil},
		{"ab", "xab", []int64{3}},
		{"ab", "abx", []int64{2}},
		{"ab", "abab", []int64{2, 4}},
		{"ab", "axbab", []int64{5}},
		{"ab", "aab", []int64{3}},
		{"aa", "aaaa", []int64{2, 3, 4}},
		{"aa", "aabaa", []int64{2, 5}},
		{"aba", "ababa", []int64{3, 5}},
		{"abc", "ab", nil},
		{"abc", "xabc", []int64{4}},
		{"abc", "abxabc", []int64{6}},
		{"abc", "abcxab", []int64{3}},
		{"\x00\xff", "\x00\x00\xff\xff\x00\xff", []int64{3, 6}},
	} {
		wantPlaces(t, "TurnRun "+c.row+" along "+c.text, impl.TurnRun(plainRow(c.row), c.text), c.want)
	}
	classes := []impl.Cell{{Class: "ab"}, {Class: "bc"}, {Class: "\x00c\xff"}}
	wantPlaces(t, "TurnRun along classes", impl.TurnRun(classes, "abcbb\xff\xffac\x00bcc"), []int64{3, 6, 10, 13})
}

// wantFoundAlike holds the run against each piece as long as the row, and against walking along (promise 10).
func wantFoundAlike(t *testing.T, c []impl.Cell, text string) {
	t.Helper()
	got, what := impl.TurnRun(c, text), rowText(c)+" along "+asRunes(text)
	wantPlaces(t, "TurnRun "+what, got, endsByWindows(c, text))
	wantPlaces(t, "TurnRun and RunOn "+what, got, impl.RunOn(c, text))
}

func TestTurnedBitsFindWhatWalkingAlongFinds(t *testing.T) {
	texts := shortTexts("abc", 6)
	for _, row := range meetingRows(3) {
		for _, text := range texts {
			wantFoundAlike(t, row, text)
		}
	}
	d := dice(54)
	for _, row := range plainRows() {
		for _, text := range aroundRow(&d, row) {
			wantFoundAlike(t, row, text)
		}
	}
}

func TestTurnedBitsFindTheEndsOfAPattern(t *testing.T) {
	d, plain := dice(55), 0
	for _, p := range append(rightPatterns(), meetingPatterns(3)...) {
		cells := impl.CellsOf(p)
		// All cells of such are plain just if none of its atoms leaves a choice.
		if slices.ContainsFunc(p, func(a impl.Atom) bool { return a.Least != a.Most }) {
			wantPlaces(t, "TurnRun "+plainText(p), impl.TurnRun(cells, textFor(&d, p, 3)), nil)
			continue
		}
		plain++
		for _, text := range aroundRow(&d, cells) {
			wantPlaces(t, "TurnRun "+plainText(p), impl.TurnRun(cells, text), impl.EndsOf(p, text))
		}
	}
	if plain < 200 {
		t.Errorf("only %d patterns with plain cells", plain)
	}
}

// What begins right behind a byte that no cell has is found, if it just fits in what is left.
func TestHitsBehindAByteOfNoCell(t *testing.T) {
	for n := 1; n <= mostCells; n++ {
		row, whole := sameCell(n, cell("a", "")), strings.Repeat("a", n)
		size := int64(n)
		for _, c := range []struct {
			text string
			want []int64
		}{
			{whole, []int64{size}},
			{"x" + whole, []int64{size + 1}},
			{"xx" + whole, []int64{size + 2}},
			{whole + "x", []int64{size}},
			{whole + "x" + whole, []int64{size, 2*size + 1}},
			{whole + whole[1:] + "x" + whole, append(placesTo(size, 2*size-1), 3*size)},
			{whole[1:] + "x" + whole, []int64{2 * size}},
			{whole[1:], nil},
			{"x" + whole[1:], nil},
			{whole[1:] + "x" + whole[1:], nil},
			{whole + "x" + whole[1:], []int64{size}},
			{whole + "xx" + whole[1:] + "x", []int64{size}},
		} {
			wantPlaces(t, strconv.Itoa(n)+" cells along "+c.text, impl.TurnRun(row, c.text), c.want)
		}
	}
}

func TestTurnRunOfTextsShorterThanTheRow(t *testing.T) {
	for n := 1; n <= mostCells; n++ {
		row := sameCell(n, cell("a", ""))
		for size := range n {
			wantPlaces(t, strconv.Itoa(n)+" cells", impl.TurnRun(row, strings.Repeat("a", size)), nil)
		}
		wantPlaces(t, strconv.Itoa(n)+" cells", impl.TurnRun(row, strings.Repeat("a", n)), []int64{int64(n)})
		wantPlaces(t, strconv.Itoa(n)+" cells", impl.TurnRun(row, strings.Repeat("a", n+1)), []int64{int64(n), int64(n) + 1})
	}
}

func TestTurnRunOfTextsAtTheLimit(t *testing.T) {
	full := strings.Repeat("a", impl.MaxBytes)
	for _, n := range []int{1, 2, 31, 32, 33, mostCells} {
		for _, class := range []string{"a", "ab", allBytes()} {
			row := sameCell(n, cell(class, ""))
			wantPlaces(t, "TurnRun MaxBytes bytes", impl.TurnRun(row, full), placesTo(int64(n), impl.MaxBytes))
			wantPlaces(t, "TurnRun one less", impl.TurnRun(row, full[1:]), placesTo(int64(n), impl.MaxBytes-1))
			wantPlaces(t, "TurnRun one more", impl.TurnRun(row, full+"a"), nil)
			wantPlaces(t, "TurnRun twice as many", impl.TurnRun(row, full+full), nil)
		}
		last := append(sameCell(n-1, cell("a", "")), cell("b", ""))
		wantPlaces(t, "TurnRun, a hit at the last byte", impl.TurnRun(last, full[1:]+"b"), []int64{impl.MaxBytes})
		wantPlaces(t, "TurnRun, one byte ahead of it", impl.TurnRun(last, full+"b"), nil)
	}
}

// wantNotTurned asks of a row that is not plain, or not right, with vectors of as many bits as it has cells, as
// many as it has places, and others.
func wantNotTurned(t *testing.T, what string, c []impl.Cell) {
	t.Helper()
	wantVec(t, "TurnStart, "+what, impl.TurnStart(c), impl.Vec{})
	n := min(max(len(c), 1), impl.MaxBits-1)
	vecs := []impl.Vec{turnedBits(n), turnedBits(n, 0), turnedBits(n, n-1), turnedBits(n + 1), placesVec(n, 0), {}}
	for _, b := range []int64{0, 'a', 'b', 255, -1, 256} {
		wantVec(t, "TurnByte, "+what, impl.TurnByte(c, b), impl.Vec{})
		for _, v := range vecs {
			wantStep(t, "TurnStep, "+what, impl.TurnStep(c, v, b), impl.StepOut{})
		}
	}
	for _, text := range []string{"", "a", "aaa", strings.Repeat("a", 150), strings.Repeat("a", impl.MaxBytes+1)} {
		wantPlaces(t, "TurnRun, "+what, impl.TurnRun(c, text), nil)
	}
}

func TestWrongRowsAreNotTurned(t *testing.T) {
	for _, w := range wrongRows() {
		wantNotTurned(t, w.what, w.cells)
		row := slices.Clone(w.cells)
		for i := range row {
			row[i].Skip, row[i].Loop = false, false
		}
		wantNotTurned(t, w.what+", not marked", row)
	}
}

func TestRowsThatAreNotPlainAreNotTurned(t *testing.T) {
	for _, n := range []int{1, 2, 31, 32, 33, mostCells} {
		for at := range n {
			for _, marks := range []string{"?", "*", "?*"} {
				row := sameCell(n, cell("a", ""))
				row[at] = cell("a", marks)
				wantNotTurned(t, rowText(row), row)
			}
		}
		for _, marks := range []string{"?", "*", "?*"} {
			wantNotTurned(t, "all "+marks, sameCell(n, cell("a", marks)))
		}
	}
}

func TestVecsThatAreNotOfThePlainCells(t *testing.T) {
	for n := 1; n <= mostCells; n++ {
		row := sameCell(n, cell("a", ""))
		for _, size := range []int{n - 32, n - 1, n + 1, n + 31, n + 32, impl.MaxBits} {
			if size < 1 {
				continue
			}
			for _, v := range []impl.Vec{turnedBits(size), vecOf(int64(size), new(big.Int)), turnedBits(size, 0)} {
				what := strconv.Itoa(size) + " bits of " + strconv.Itoa(n) + " cells"
				wantStep(t, "TurnStep, "+what, impl.TurnStep(row, v, 'a'), impl.StepOut{})
			}
		}
		wantStep(t, "TurnStep, places", impl.TurnStep(row, impl.StartOf(row), 'a'), impl.StepOut{})
	}
	for _, w := range wrongVecs() {
		row := sameCell(int(min(max(w.vec.Bits, 1), mostCells)), cell("a", ""))
		wantStep(t, "TurnStep, "+w.what, impl.TurnStep(row, w.vec, 'a'), impl.StepOut{})
		wantStep(t, "TurnStep, no byte, "+w.what, impl.TurnStep(row, w.vec, 256), impl.StepOut{})
	}
}

func TestTurnsByWhatIsNoByte(t *testing.T) {
	for _, n := range []int{1, 32, 33, mostCells} {
		row := sameCell(n, cell(allBytes(), ""))
		for _, b := range []int64{-1, -2, -256, 256, 257, 256 + 'a', 1 << 32, 1<<32 + 'a', math.MinInt64, math.MaxInt64} {
			what := strconv.FormatInt(b, 10)
			wantVec(t, "TurnByte of "+what, impl.TurnByte(row, b), impl.Vec{})
			for _, v := range []impl.Vec{turnedBits(n), turnedBits(n, n-1), vecOf(int64(n), new(big.Int))} {
				wantStep(t, "TurnStep by "+what, impl.TurnStep(row, v, b), impl.StepOut{})
			}
		}
		for _, b := range []int{0, 1, 254, 255} {
			wantVec(t, "TurnByte of a byte at the edge", impl.TurnByte(row, int64(b)), vecOf(int64(n), new(big.Int)))
			wantTurned(t, row, turnedBits(n), b)
		}
	}
}

func TestTurnsChangeNothingHandedIn(t *testing.T) {
	rows := append(wrongRows(), wrongRow{"not plain", cellsBy("a", "b?", "c*")})
	for _, n := range []int{1, 2, 32, 33, mostCells} {
		rows = append(rows, wrongRow{"right", sameCell(n, cell("ab", ""))})
	}
	for _, w := range rows {
		row := roomyCells(w.cells)
		for _, given := range []impl.Vec{turnedBits(min(max(len(row), 1), impl.MaxBits)), {}} {
			v := roomyVec(given)
			impl.TurnStart(row)
			impl.TurnByte(row, 'a')
			impl.TurnByte(row, 256)
			impl.TurnStep(row, v, 'a')
			impl.TurnStep(row, v, -1)
			impl.TurnRun(row, "abccdd")
			wantRoomyVec(t, w.what, v, given)
		}
		if !slices.Equal(row[:len(row)+1], append(slices.Clone(w.cells), cell("guard", "?"))) {
			t.Errorf("%s: a call changed what was handed in", w.what)
		}
	}
}

func TestTurnsAreNewMemory(t *testing.T) {
	for _, row := range plainRows() {
		v := turnedBits(len(row), 0)
		given := roomyVec(v)
		for range 2 {
			vecs := []impl.Vec{impl.TurnStart(row), impl.TurnByte(row, 'a'), impl.TurnStep(row, given, 'a').Vec}
			wantVec(t, "TurnStart, again", vecs[0], turnedBits(len(row)))
			wantVec(t, "TurnByte, again", vecs[1], plainTurnByte(row, 'a'))
			wantVec(t, "TurnStep, again", vecs[2], plainTurnStep(row, v, 'a').Vec)
			for _, answer := range vecs {
				overwrite(answer)
				wantRoomyVec(t, "an answer", given, v)
			}
		}
	}
	row := plainRow("aa")
	for range 2 {
		ends := impl.TurnRun(row, "aaaa")
		wantPlaces(t, "TurnRun, again", ends, []int64{2, 3, 4})
		clear(ends[:cap(ends)])
	}
}

// What is made once is made once of a row, not of the program: rows that are asked in turn must not see each other.
func TestRowsAreTurnedInTurn(t *testing.T) {
	askInTurn(plainRows()[:150], func(row []impl.Cell) {
		wantVec(t, "TurnByte of "+rowText(row), impl.TurnByte(row, 'b'), plainTurnByte(row, 'b'))
		got := impl.TurnStep(row, turnedBits(len(row), 0), 'b')
		wantVec(t, "TurnStep of "+rowText(row), got.Vec, plainTurnStep(row, turnedBits(len(row), 0), 'b').Vec)
	})
	first, second := plainRow("ab"), plainRow("ba")
	for range 2 {
		wantPlaces(t, "the first row", impl.TurnRun(first, "ab"), []int64{2})
		wantPlaces(t, "the second row", impl.TurnRun(second, "ba"), []int64{2})
		wantPlaces(t, "the first row, anew", impl.TurnRun(first, "ba"), nil)
		wantPlaces(t, "the second row, anew", impl.TurnRun(second, "ab"), nil)
	}
	// The row is the same memory, but another row.
	first[0].Class = "b"
	wantPlaces(t, "the first row, changed", impl.TurnRun(first, "abb"), []int64{3})
}
