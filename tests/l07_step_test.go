package tests

import (
	"math"
	"math/big"
	"slices"
	"strconv"
	"strings"
	"testing"

	"loop.example/g00736/impl"
)

// plainClosed adds place after place by the document's words, till there is none to add.
func plainClosed(c []impl.Cell, v impl.Vec) impl.Vec {
	on := numOf(v)
	for again := true; again; {
		again = false
		for i, x := range c {
			if x.Skip && on.Bit(i) == 1 && on.Bit(i+1) == 0 {
				on.SetBit(on, i+1, 1)
				again = true
			}
		}
	}
	return vecOf(v.Bits, on)
}

func plainStart(c []impl.Cell) impl.Vec {
	return plainClosed(c, placesVec(len(c), 0))
}

// plainStep asks each cell whether a byte passes it, without the program.
func plainStep(c []impl.Cell, v impl.Vec, b int) impl.StepOut {
	var on []int
	was := numOf(v)
	for i, x := range c {
		comes := was.Bit(i) == 1 || x.Loop && was.Bit(i+1) == 1
		if comes && hasByte(x.Class, b) {
			on = append(on, i+1)
		}
	}
	came := numOf(plainClosed(c, placesVec(len(c), on...)))
	hit := came.Bit(len(c)) == 1
	return impl.StepOut{Vec: vecOf(v.Bits, came.Or(came, numOf(plainStart(c)))), Hit: hit}
}

// plainCloseBy reckons with numbers of any size what the document writes out by vectors.
func plainCloseBy(m impl.Masks, v impl.Vec) impl.Vec {
	d := new(big.Int).Or(numOf(v), numOf(m.Last))
	turned := modulo(v.Bits, new(big.Int).Sub(d, numOf(m.First)))
	turned.Xor(turned, d)
	return vecOf(v.Bits, d.AndNot(numOf(m.Block), turned).Or(d, numOf(v)))
}

// bySteps is the step by shifts, masks and one subtraction.
func bySteps(c []impl.Cell, v impl.Vec, b int64) impl.StepOut {
	m := impl.MasksOf(c)
	came := impl.VecOr(impl.VecAnd(impl.VecUp(v), impl.ByteVec(c, b)), impl.VecAnd(v, impl.LoopVec(c, b)))
	came = impl.CloseBy(m, came)
	hit := impl.VecCount(impl.VecAnd(came, m.Final)) == 1
	return impl.StepOut{Vec: impl.VecOr(came, impl.CloseBy(m, m.Start)), Hit: hit}
}

func wantStep(t *testing.T, what string, got impl.StepOut, want impl.StepOut) {
	t.Helper()
	if got.Hit != want.Hit || !sameVec(got.Vec, want.Vec) {
		t.Fatalf("%s: got %+v, want %+v", what, got, want)
	}
}

// wantClosed holds both ways to close against the document's words, and so against each other.
func wantClosed(t *testing.T, what string, c []impl.Cell, m impl.Masks, v impl.Vec) {
	t.Helper()
	want := plainClosed(c, v)
	wantVec(t, "CloseOver "+what, impl.CloseOver(c, v), want)
	wantVec(t, "CloseBy "+what, impl.CloseBy(m, v), want)
}

// skipsRow is a row of so many cells, of which the bits of a number tell which are Skip.
func skipsRow(n int, skips int) []impl.Cell {
	row := sameCell(n, cell("a", ""))
	for i := range row {
		row[i].Skip = skips>>i&1 == 1
		row[i].Loop = i%3 == skips%3
	}
	return row
}

// anyPlaces is a Vec of the places of a short row, written as a number.
func anyPlaces(cells int, number int) impl.Vec {
	return vecOf(int64(cells)+1, big.NewInt(int64(number)))
}

func TestClosing(t *testing.T) {
	for _, c := range []struct {
		row  []string
		on   []int
		want []int
	}{
		{[]string{"a"}, nil, nil},
		{[]string{"a"}, []int{0}, []int{0}},
		{[]string{"a"}, []int{1}, []int{1}},
		{[]string{"a*"}, []int{0}, []int{0}},
		{[]string{"a?"}, nil, nil},
		{[]string{"a?"}, []int{0}, []int{0, 1}},
		{[]string{"a?"}, []int{1}, []int{1}},
		{[]string{"a?*"}, []int{0}, []int{0, 1}},
		{[]string{"a", "b?", "c"}, []int{0}, []int{0}},
		{[]string{"a", "b?", "c"}, []int{1}, []int{1, 2}},
		{[]string{"a", "b?", "c"}, []int{2}, []int{2}},
		{[]string{"a", "b?", "c?", "d?", "e"}, []int{1}, []int{1, 2, 3, 4}},
		{[]string{"a", "b?", "c?", "d?", "e"}, []int{2}, []int{2, 3, 4}},
		{[]string{"a", "b?", "c?", "d?", "e"}, []int{3}, []int{3, 4}},
		{[]string{"a", "b?", "c?", "d?", "e"}, []int{4}, []int{4}},
		{[]string{"a", "b?", "c?", "d?", "e"}, []int{5}, []int{5}},
		{[]string{"a", "b?", "c?", "d?", "e"}, []int{0, 3}, []int{0, 3, 4}},
		{[]string{"a", "b?", "c?", "d?", "e"}, []int{1, 3, 5}, []int{1, 2, 3, 4, 5}},
		{[]string{"a?", "b?", "c", "d?", "e?"}, []int{0}, []int{0, 1, 2}},
		{[]string{"a?", "b?", "c", "d?", "e?"}, []int{3}, []int{3, 4, 5}},
		{[]string{"a?", "b?", "c", "d?", "e?"}, []int{1, 4}, []int{1, 2, 4, 5}},
		{[]string{"a?", "b?", "c", "d?", "e?"}, []int{2}, []int{2}},
		{[]string{"a?", "b?", "c"}, []int{0, 3}, []int{0, 1, 2, 3}},
		{[]string{"a", "b?", "c?"}, []int{0, 3}, []int{0, 3}},
	} {
		row, n := cellsBy(c.row...), len(c.row)
		what := strings.Join(c.row, " ")
		wantVec(t, "CloseOver "+what, impl.CloseOver(row, placesVec(n, c.on...)), placesVec(n, c.want...))
		wantVec(t, "CloseBy "+what, impl.CloseBy(impl.MasksOf(row), placesVec(n, c.on...)), placesVec(n, c.want...))
	}
}

func TestOneSubtractionClosesWhatStepsClose(t *testing.T) {
	for n := 1; n <= 7; n++ {
		for skips := range 1 << n {
			row := skipsRow(n, skips)
			masks, what := impl.MasksOf(row), rowText(row)
			for number := range 1 << (n + 1) {
				wantClosed(t, what, row, masks, anyPlaces(n, number))
			}
		}
	}
}

func TestLongRowsAreClosed(t *testing.T) {
	for _, row := range longRows() {
		masks, what := impl.MasksOf(row), rowText(row)
		for _, v := range someVecs(int64(len(row)) + 1) {
			wantClosed(t, what, row, masks, v)
		}
	}
}

// A run may lie within a word of a Vec, fill it, or go beyond it.
func TestEachRunOfSixtyCellsIsClosed(t *testing.T) {
	for first := range mostCells {
		for last := first; last < mostCells; last++ {
			row := runRow(first, last)
			masks := impl.MasksOf(row)
			what := "a run from " + strconv.Itoa(first) + " to " + strconv.Itoa(last)
			for _, on := range [][]int{nil, {0}, {mostCells}, {first}, {last}, {last + 1}, {(first + last) / 2}, {first, last, mostCells}} {
				wantClosed(t, what, row, masks, placesVec(mostCells, on...))
			}
		}
	}
}

func TestRunsThatOneCellPartsAreClosedAlone(t *testing.T) {
	for _, n := range []int{2, 3, 31, 32, 33, 34, mostCells} {
		for parting := range n {
			row := sameCell(n, cell("a", "?"))
			row[parting] = cell("a", "*")
			masks, what := impl.MasksOf(row), strconv.Itoa(n)+" cells, parted at "+strconv.Itoa(parting)
			wantVec(t, what, impl.StartOf(row), vecOf(int64(n)+1, new(big.Int).Sub(power(int64(parting)+1), big.NewInt(1))))
			for place := 0; place <= n; place++ {
				wantClosed(t, what, row, masks, placesVec(n, place))
			}
		}
	}
}

// someMasks throws masks that need be none of any row.
func someMasks(d *dice, vecs []impl.Vec) impl.Masks {
	one := func() impl.Vec { return vecs[d.below(len(vecs))] }
	return impl.Masks{Start: one(), Final: one(), First: one(), Last: one(), Block: one()}
}

func TestCloseByMasksOfNoRow(t *testing.T) {
	d := dice(41)
	for _, size := range append(vecSizes(), 2, 3, 5, 61) {
		vecs := someVecs(size)
		for range 150 {
			m, v := someMasks(&d, vecs), vecs[d.below(len(vecs))]
			got := impl.CloseBy(m, v)
			wantVec(t, "CloseBy, by numbers", got, plainCloseBy(m, v))
			sum := impl.VecOr(v, m.Last)
			written := impl.VecOr(v, impl.VecAnd(m.Block, impl.VecNot(impl.VecXor(impl.VecSub(sum, m.First), sum))))
			wantVec(t, "CloseBy, written out", got, written)
		}
	}
	// Each mask of three bits, with each vector.
	three := func(n int) impl.Vec { return anyPlaces(2, n) }
	for n := range 1 << 12 {
		m := impl.Masks{Start: three(0), Final: three(7), First: three(n & 7), Last: three(n >> 3 & 7), Block: three(n >> 6 & 7)}
		wantVec(t, "CloseBy of three bits", impl.CloseBy(m, three(n>>9)), plainCloseBy(m, three(n>>9)))
	}
}

func TestStartAndFinalTakeNoPartInCloseBy(t *testing.T) {
	row := cellsBy("a?", "b?", "c", "d?")
	m := impl.MasksOf(row)
	want := impl.CloseBy(m, placesVec(4, 0))
	for number := range 1 << 5 {
		m.Start, m.Final = anyPlaces(4, number), anyPlaces(4, 31-number)
		wantVec(t, "CloseBy of another Start and Final", impl.CloseBy(m, placesVec(4, 0)), want)
	}
}

// fiveMasks points at each vector of masks in turn.
func fiveMasks(m *impl.Masks) []*impl.Vec {
	return []*impl.Vec{&m.Start, &m.Final, &m.First, &m.Last, &m.Block}
}

// allMasks are masks of one vector alone.
func allMasks(v impl.Vec) impl.Masks {
	return impl.Masks{Start: v, Final: v, First: v, Last: v, Block: v}
}

func TestCloseByWrongVecs(t *testing.T) {
	for _, w := range wrongVecs() {
		wantVec(t, "CloseBy, all of them "+w.what, impl.CloseBy(allMasks(w.vec), w.vec), impl.Vec{})
		size := min(max(w.vec.Bits, 1), impl.MaxBits)
		right := vecOf(size, big.NewInt(1))
		wantVec(t, "CloseBy, "+w.what, impl.CloseBy(allMasks(right), w.vec), impl.Vec{})
		for i := range 5 {
			m := allMasks(right)
			*fiveMasks(&m)[i] = w.vec
			wantVec(t, "CloseBy, the mask "+strconv.Itoa(i)+", "+w.what, impl.CloseBy(m, right), impl.Vec{})
		}
	}
	wantVec(t, "CloseBy of the zero Masks", impl.CloseBy(impl.Masks{}, placesVec(3, 0)), impl.Vec{})
	wantVec(t, "CloseBy of nothing", impl.CloseBy(impl.Masks{}, impl.Vec{}), impl.Vec{})
}

func TestCloseByOfOtherNumbersOfBits(t *testing.T) {
	for _, size := range vecSizes() {
		right := vecOf(size, big.NewInt(1))
		for _, other := range []int64{size - 1, size + 1, size - 32, size + 32} {
			if other < 1 || other > impl.MaxBits {
				continue
			}
			odd := vecOf(other, big.NewInt(1))
			what := "CloseBy, " + strconv.FormatInt(other, 10) + " bits among " + strconv.FormatInt(size, 10)
			wantVec(t, what, impl.CloseBy(allMasks(right), odd), impl.Vec{})
			for i := range 5 {
				m := allMasks(right)
				*fiveMasks(&m)[i] = odd
				wantVec(t, what+", the mask "+strconv.Itoa(i), impl.CloseBy(m, right), impl.Vec{})
			}
		}
	}
}

func TestWrongRowsAreNotWalkedAlong(t *testing.T) {
	for _, w := range wrongRows() {
		n := min(len(w.cells), impl.MaxBits-1)
		for _, v := range []impl.Vec{placesVec(n), placesVec(n, 0), placesVec(n, n), {}} {
			wantVec(t, "CloseOver, "+w.what, impl.CloseOver(w.cells, v), impl.Vec{})
			for _, b := range []int64{0, 'a', 255, -1, 256} {
				wantStep(t, "StepOn, "+w.what, impl.StepOn(w.cells, v, b), impl.StepOut{})
			}
		}
		wantVec(t, "StartOf, "+w.what, impl.StartOf(w.cells), impl.Vec{})
		for _, text := range []string{"", "a", "aaa", strings.Repeat("a", 100)} {
			wantPlaces(t, "RunOn, "+w.what, impl.RunOn(w.cells, text), nil)
		}
	}
}

func TestPlacesThatAreNotOfTheRow(t *testing.T) {
	for n := 1; n <= mostCells; n++ {
		row := sameCell(n, cell("a", "?*"))
		for _, size := range []int{n - 1, n + 1, n - 31, n + 31, n + 32, impl.MaxBits - 1} {
			if size < 0 {
				continue
			}
			for _, v := range []impl.Vec{placesVec(size), placesVec(size, 0)} {
				what := strconv.Itoa(size+1) + " bits of " + strconv.Itoa(n) + " cells"
				wantVec(t, "CloseOver, "+what, impl.CloseOver(row, v), impl.Vec{})
				wantStep(t, "StepOn, "+what, impl.StepOn(row, v, 'a'), impl.StepOut{})
			}
		}
	}
	for _, w := range wrongVecs() {
		row := sameCell(int(min(max(w.vec.Bits-1, 1), mostCells)), cell("a", "?*"))
		wantVec(t, "CloseOver, "+w.what, impl.CloseOver(row, w.vec), impl.Vec{})
		wantStep(t, "StepOn, "+w.what, impl.StepOn(row, w.vec, 'a'), impl.StepOut{})
	}
}

func TestStepsByWhatIsNoByte(t *testing.T) {
	row := sameCell(mostCells, cell(allBytes(), "?*"))
	v := impl.StartOf(row)
	for _, b := range []int64{-1, -2, -256, 256, 257, 256 + 'a', 1 << 32, 1<<32 + 'a', math.MinInt64, math.MaxInt64} {
		wantStep(t, "StepOn by "+strconv.FormatInt(b, 10), impl.StepOn(row, v, b), impl.StepOut{})
	}
	for b := range 256 {
		wantStep(t, "StepOn by "+strconv.Itoa(b), impl.StepOn(row, v, int64(b)), impl.StepOut{Vec: v, Hit: true})
	}
}

func TestStartOf(t *testing.T) {
	for _, c := range []struct {
		row  []string
		want []int
	}{
		{[]string{"a"}, []int{0}},
		{[]string{"a*"}, []int{0}},
		{[]string{"a?"}, []int{0, 1}},
		{[]string{"a", "b?"}, []int{0}},
		{[]string{"a?", "b"}, []int{0, 1}},
		{[]string{"a?*", "b?", "c", "d?"}, []int{0, 1, 2}},
		{[]string{"a?", "b?", "c?"}, []int{0, 1, 2, 3}},
	} {
		wantVec(t, "StartOf "+strings.Join(c.row, " "), impl.StartOf(cellsBy(c.row...)), placesVec(len(c.row), c.want...))
	}
	for _, row := range append(longRows(), shortRows(2)...) {
		wantVec(t, "StartOf "+rowText(row), impl.StartOf(row), plainStart(row))
	}
}

func TestStepOn(t *testing.T) {
	for _, c := range []struct {
		row  []string
		on   []int
		b    int64
		want []int
		hit  bool
	}{
		{[]string{"a"}, nil, 'a', []int{0}, false},
		{[]string{"a"}, []int{0}, 'a', []int{0, 1}, true},
		{[]string{"a"}, []int{0}, 'b', []int{0}, false},
		{[]string{"a"}, []int{1}, 'a', []int{0}, false},
		{[]string{"a*"}, []int{1}, 'a', []int{0, 1}, true},
		{[]string{"a*"}, []int{1}, 'b', []int{0}, false},
		{[]string{"a", "b"}, []int{0, 1}, 'a', []int{0, 1}, false},
		{[]string{"a", "b"}, []int{0, 1}, 'b', []int{0, 2}, true},
		{[]string{"a", "b"}, []int{0, 1}, 'c', []int{0}, false},
		{[]string{"a", "b"}, []int{2}, 'b', []int{0}, false},
		// Places that come by a byte are closed; those that are handed in are taken as they are.
		{[]string{"a", "b?", "c"}, []int{0}, 'a', []int{0, 1, 2}, false},
		{[]string{"a", "b?", "c"}, []int{1}, 'c', []int{0}, false},
		{[]string{"a", "b?", "c"}, []int{1, 2}, 'c', []int{0, 3}, true},
		{[]string{"a", "b?"}, []int{0}, 'a', []int{0, 1, 2}, true},
		{[]string{"a", "b?", "c?"}, []int{0}, 'a', []int{0, 1, 2, 3}, true},
		// What may be passed by as a whole begins at its end, but no byte came there.
		{[]string{"a?"}, []int{0, 1}, 'b', []int{0, 1}, false},
		{[]string{"a?"}, []int{0, 1}, 'a', []int{0, 1}, true},
		{[]string{"a?"}, []int{1}, 'a', []int{0, 1}, false},
		{[]string{"a?"}, nil, 'a', []int{0, 1}, false},
		{[]string{"a?*"}, []int{1}, 'a', []int{0, 1}, true},
		{[]string{"a?*", "b?*"}, []int{0, 1, 2}, 'c', []int{0, 1, 2}, false},
		{[]string{"a?*", "b?*"}, []int{2}, 'a', []int{0, 1, 2}, false},
		{[]string{"a?*", "b?*"}, []int{1}, 'a', []int{0, 1, 2}, true},
		{[]string{"a", "b?*", "c"}, []int{2}, 'b', []int{0, 2}, false},
		{[]string{"\x00", "\xff"}, []int{0}, 0, []int{0, 1}, false},
		{[]string{"\x00", "\xff"}, []int{1}, 255, []int{0, 2}, true},
	} {
		n := len(c.row)
		got := impl.StepOn(cellsBy(c.row...), placesVec(n, c.on...), c.b)
		wantStep(t, "StepOn "+strings.Join(c.row, " ")+" by "+strconv.Itoa(int(c.b)), got, impl.StepOut{Vec: placesVec(n, c.want...), Hit: c.hit})
	}
}

// wantOneStep holds a step against the document's words, and against shifts, masks and one subtraction.
func wantOneStep(t *testing.T, what string, c []impl.Cell, v impl.Vec, b int) {
	t.Helper()
	got := impl.StepOn(c, v, int64(b))
	wantStep(t, "StepOn "+what, got, plainStep(c, v, b))
	wantStep(t, "StepOn by vectors "+what, got, bySteps(c, v, int64(b)))
}

func TestStepsOfShortRows(t *testing.T) {
	for _, row := range shortRows(3) {
		what := rowText(row)
		for number := range 1 << (len(row) + 1) {
			wantOneStep(t, what, row, anyPlaces(len(row), number), 'a')
			wantOneStep(t, what, row, anyPlaces(len(row), number), 'c')
		}
	}
}

func TestStepsOfLongRows(t *testing.T) {
	d := dice(42)
	for _, row := range longRows() {
		what, vecs := rowText(row), someVecs(int64(len(row))+1)
		for range 4 {
			class := row[d.below(len(row))].Class
			wantOneStep(t, what, row, vecs[d.below(len(vecs))], int(class[d.below(len(class))]))
			wantOneStep(t, what, row, vecs[d.below(len(vecs))], d.below(256))
		}
	}
}

func TestStepsByEachByte(t *testing.T) {
	for _, class := range fullClasses() {
		row := []impl.Cell{cell(class, "?*"), cell("a", ""), cell(class, "*"), cell(class, "?")}
		for b := range 256 {
			wantOneStep(t, "by each byte", row, anyPlaces(4, b%32), b)
		}
	}
}

func TestRunOn(t *testing.T) {
	for _, c := range []struct {
		row  []string
		text string
		want []int64
	}{
		{[]string{"a"}, "", nil},
		{[]string{"a?"}, "", nil},
		{[]string{"a?*"}, "", nil},
		{[]string{"a"}, "a", []int64{1}},
		{[]string{"a"}, "b", nil},
		{[]string{"a"}, "abba", []int64{1, 4}},
		{[]string{"a?"}, "bab", []int64{2}},
		{[]string{"a?"}, "bbb", nil},
		{[]string{"a?*"}, "baab", []int64{2, 3}},
		{[]string{"a?", "b?", "c?"}, "xaxbxcx", []int64{2, 4, 6}},
		{[]string{"a?*", "b?*"}, "cabac", []int64{2, 3, 4}},
		{[]string{"a", "b"}, "abab", []int64{2, 4}},
		{[]string{"a", "b", "a"}, "ababa", []int64{3, 5}},
		{[]string{"a", "a"}, "aaaa", []int64{2, 3, 4}},
		{[]string{"a*", "b"}, "aabab", []int64{3, 5}},
		{[]string{"a", "b?", "c?"}, "abcac", []int64{1, 2, 3, 4, 5}},
		{[]string{"a", "b?", "c"}, "bcacabc", []int64{4, 7}},
		{[]string{"a", "b?*", "c"}, "abbbc", []int64{5}},
		{[]string{"a*", "a*"}, "baaab", []int64{3, 4}},
		{[]string{"\x00", "\xff*"}, "\x00\xff\xff\x00\xff", []int64{2, 3, 5}},
	} {
		wantPlaces(t, "RunOn "+strings.Join(c.row, " ")+" along "+c.text, impl.RunOn(cellsBy(c.row...), c.text), c.want)
	}
}

func TestRunOnByEachWayToCut(t *testing.T) {
	texts := shortTexts("ab", 4)
	for _, row := range shortRows(3) {
		fits, what := byCuts(atomsFor(row)), "RunOn "+rowText(row)
		for _, text := range texts {
			wantPlaces(t, what, impl.RunOn(row, text), plainEnds(fits, text))
		}
	}
}

func TestRunOnByTheLibrary(t *testing.T) {
	d := dice(43)
	for i, row := range longRows() {
		// The library takes long to make ready for a long row.
		if i%8 != 0 {
			continue
		}
		p := atomsFor(row)
		text := nearTexts(&d, p)[d.below(4)]
		text = text[max(0, len(text)-70):]
		wantPlaces(t, "RunOn "+rowText(row), impl.RunOn(row, text), plainEnds(byRegexp(p), text))
	}
}

func TestWalkingAlongFindsTheEndsOfAPattern(t *testing.T) {
	texts := shortTexts("ab", 6)
	for _, p := range meetingPatterns(2) {
		cells, what := impl.CellsOf(p), "RunOn "+plainText(p)
		for _, text := range texts {
			wantPlaces(t, what, impl.RunOn(cells, text), impl.EndsOf(p, text))
		}
	}
	d := dice(44)
	for _, p := range rightPatterns() {
		cells, what := impl.CellsOf(p), "RunOn "+plainText(p)
		for _, text := range nearTexts(&d, p) {
			wantPlaces(t, what, impl.RunOn(cells, text), impl.EndsOf(p, text))
		}
		all := strings.Join(nearTexts(&d, p), "\x00b")
		wantPlaces(t, what, impl.RunOn(cells, all), impl.EndsOf(p, all))
	}
}

func TestTheEmptyTextIsNoHit(t *testing.T) {
	for _, n := range []int{1, 2, 31, 32, mostCells} {
		for _, marks := range []string{"?", "?*"} {
			row := sameCell(n, cell("a", marks))
			wantPlaces(t, "RunOn, no byte", impl.RunOn(row, ""), nil)
			wantPlaces(t, "RunOn, no byte of the row", impl.RunOn(row, "bbb"), nil)
			wantPlaces(t, "RunOn, the first byte", impl.RunOn(row, "abb"), []int64{1})
			wantPlaces(t, "RunOn, the last byte", impl.RunOn(row, "bba"), []int64{3})
		}
	}
}

// A step that is taken from where the last one came to is the run.
func TestStepAfterStepIsTheRun(t *testing.T) {
	d := dice(45)
	for _, row := range longRows() {
		text := strings.Join(nearTexts(&d, atomsFor(row)), "b")
		text = text[:min(len(text), 40)]
		var want []int64
		v := impl.StartOf(row)
		for i := range len(text) {
			step := impl.StepOn(row, v, int64(text[i]))
			if step.Hit {
				want = append(want, int64(i)+1)
			}
			v = step.Vec
		}
		wantPlaces(t, "RunOn "+rowText(row), impl.RunOn(row, text), want)
	}
}

func TestRunOnTextsAtTheLimit(t *testing.T) {
	full := strings.Repeat("a", impl.MaxBytes)
	for _, c := range []struct {
		row   []impl.Cell
		first int64
	}{
		{cellsBy("a"), 1},
		{cellsBy("a?*"), 1},
		{sameCell(mostCells, cell("a", "")), mostCells},
		{sameCell(mostCells, cell("a", "*")), mostCells},
		{sameCell(mostCells, cell("a", "?")), 1},
		{sameCell(mostCells, cell(allBytes(), "?*")), 1},
	} {
		wantPlaces(t, "RunOn MaxBytes bytes", impl.RunOn(c.row, full), placesTo(c.first, impl.MaxBytes))
		wantPlaces(t, "RunOn one less", impl.RunOn(c.row, full[1:]), placesTo(c.first, impl.MaxBytes-1))
		wantPlaces(t, "RunOn one more", impl.RunOn(c.row, full+"a"), nil)
		wantPlaces(t, "RunOn twice as many", impl.RunOn(c.row, full+full), nil)
	}
	row := append(sameCell(mostCells-1, cell("a", "?*")), cell("b", ""))
	wantPlaces(t, "RunOn, a hit at the last byte", impl.RunOn(row, full[1:]+"b"), []int64{impl.MaxBytes})
	wantPlaces(t, "RunOn, one byte ahead of it", impl.RunOn(row, full+"b"), nil)
	wantPlaces(t, "RunOn, one byte behind it", impl.RunOn(cellsBy("b"), "b"+full), nil)
}

// roomyVec is a copy of a vector with a word behind it that no call may touch.
func roomyVec(v impl.Vec) impl.Vec {
	return impl.Vec{Bits: v.Bits, Words: append(slices.Clone(v.Words), 77)[:len(v.Words)]}
}

func wantRoomyVec(t *testing.T, what string, got impl.Vec, want impl.Vec) {
	t.Helper()
	if got.Bits != want.Bits || !slices.Equal(got.Words[:len(want.Words)+1], append(slices.Clone(want.Words), 77)) {
		t.Fatalf("%s: a call changed the vector %+v", what, want)
	}
}

func TestStepsChangeNothingHandedIn(t *testing.T) {
	rows := append(wrongRows(), wrongRow{"right", cellsBy("a", "b?", "c*", "d?*")}, wrongRow{"60 cells", sameCell(mostCells, cell("a", "?"))})
	for _, w := range rows {
		row := roomyCells(w.cells)
		places := placesVec(min(len(row), impl.MaxBits-1), 0)
		for _, given := range []impl.Vec{places, {}} {
			v := roomyVec(given)
			impl.CloseOver(row, v)
			impl.StartOf(row)
			impl.StepOn(row, v, 'a')
			impl.StepOn(row, v, 256)
			impl.RunOn(row, "abccdd")
			wantRoomyVec(t, w.what, v, given)
		}
		if !slices.Equal(row[:len(row)+1], append(slices.Clone(w.cells), cell("guard", "?"))) {
			t.Errorf("%s: a call changed what was handed in", w.what)
		}
	}
	d := dice(46)
	for _, size := range vecSizes() {
		vecs := someVecs(size)
		was, v := someMasks(&d, vecs), vecs[d.below(len(vecs))]
		m := was
		for _, mask := range fiveMasks(&m) {
			*mask = roomyVec(*mask)
		}
		given := roomyVec(v)
		impl.CloseBy(m, given)
		wantRoomyVec(t, "CloseBy", given, v)
		for i, mask := range vecsOf(m) {
			wantRoomyVec(t, "CloseBy, the mask "+strconv.Itoa(i), mask, vecsOf(was)[i])
		}
	}
}

// overwrite fills all that an answer may reach with what no answer holds.
func overwrite(v impl.Vec) {
	whole := v.Words[:cap(v.Words)]
	for i := range whole {
		whole[i] = -1
	}
}

func TestStepsAreNewMemory(t *testing.T) {
	for _, row := range longRows() {
		n := len(row)
		masks := impl.MasksOf(row)
		for _, v := range []impl.Vec{placesVec(n), placesVec(n, n), impl.StartOf(row)} {
			given := roomyVec(v)
			vecs := []impl.Vec{impl.CloseOver(row, given), impl.CloseBy(masks, given), impl.StartOf(row), impl.StepOn(row, given, 'a').Vec, impl.StepOn(row, given, 'a').Vec}
			for _, answer := range vecs {
				overwrite(answer)
				wantRoomyVec(t, "an answer", given, v)
			}
			wantClosed(t, "again", row, masks, v)
			wantVec(t, "StartOf, again", impl.StartOf(row), plainStart(row))
			wantStep(t, "StepOn, again", impl.StepOn(row, v, 'a'), plainStep(row, v, 'a'))
		}
		wantMasks(t, "behind CloseBy", masks, plainMasks(row))
	}
	row := cellsBy("a*", "b?")
	for range 2 {
		ends := impl.RunOn(row, "aab")
		wantPlaces(t, "RunOn, again", ends, []int64{1, 2, 3})
		clear(ends[:cap(ends)])
	}
}

// Where one walk stands must be seen by no other.
func TestWalksAreGoneInTurn(t *testing.T) {
	askInTurn(longRows()[:120], func(row []impl.Cell) {
		v := placesVec(len(row), 0, len(row))
		if got, want := impl.StepOn(row, v, 'b'), plainStep(row, v, 'b'); got.Hit != want.Hit || !sameVec(got.Vec, want.Vec) {
			t.Errorf("StepOn %s: got %+v, want %+v", rowText(row), got, want)
		}
	})
	first, second := cellsBy("a", "b"), cellsBy("b", "a?")
	for range 2 {
		wantPlaces(t, "the first row", impl.RunOn(first, "a"), nil)
		wantPlaces(t, "the second row", impl.RunOn(second, "b"), []int64{1})
		wantPlaces(t, "the first row, anew", impl.RunOn(first, "b"), nil)
		wantPlaces(t, "the second row, anew", impl.RunOn(second, "a"), nil)
	}
}
