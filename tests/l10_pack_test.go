package tests

import (
	"math"
	"math/big"
	"slices"
	"strconv"
	"strings"
	"testing"

	"loop.example/g00736/impl"
)

const mostRows = 6

// plainPack lays rows one behind the other by the document's words.
func plainPack(rows ...[]impl.Cell) impl.Pack {
	p := impl.Pack{Rows: rows}
	for i := range rows {
		at := int64(0)
		for _, ahead := range rows[:i] {
			at += int64(len(ahead)) + 1
		}
		p.At = append(p.At, at)
		p.Bits = at + int64(len(rows[i])) + 1
	}
	return p
}

// laidVec puts vectors one behind the other, as numbers of any size.
func laidVec(parts ...impl.Vec) impl.Vec {
	size, sum := int64(0), new(big.Int)
	for _, part := range parts {
		sum.Or(sum, new(big.Int).Lsh(numOf(part), uint(size)))
		size += part.Bits
	}
	return vecOf(size, sum)
}

// ownVec takes the bits of one row out of those of a pack.
func ownVec(p impl.Pack, v impl.Vec, row int) impl.Vec {
	size := int64(len(p.Rows[row])) + 1
	return vecOf(size, modulo(size, new(big.Int).Rsh(numOf(v), uint(p.At[row]))))
}

// laidOfRows asks each row of a pack, and lays the answers one behind the other.
func laidOfRows(p impl.Pack, ask func(row []impl.Cell) impl.Vec) impl.Vec {
	var parts []impl.Vec
	for _, row := range p.Rows {
		parts = append(parts, ask(row))
	}
	return laidVec(parts...)
}

func plainPackMasks(p impl.Pack) impl.Masks {
	return impl.Masks{
		Start: laidOfRows(p, func(row []impl.Cell) impl.Vec { return plainMasks(row).Start }),
		Final: laidOfRows(p, func(row []impl.Cell) impl.Vec { return plainMasks(row).Final }),
		First: laidOfRows(p, func(row []impl.Cell) impl.Vec { return plainMasks(row).First }),
		Last:  laidOfRows(p, func(row []impl.Cell) impl.Vec { return plainMasks(row).Last }),
		Block: laidOfRows(p, func(row []impl.Cell) impl.Vec { return plainMasks(row).Block }),
	}
}

func plainPackByte(p impl.Pack, b int, loop bool) impl.Vec {
	return laidOfRows(p, func(row []impl.Cell) impl.Vec { return plainByteVec(row, b, loop) })
}

// stepEach takes a step of each row alone, and lays them one behind the other.
func stepEach(p impl.Pack, v impl.Vec, step func(row []impl.Cell, own impl.Vec) impl.StepOut) impl.PackOut {
	out := impl.PackOut{Pack: p}
	var parts []impl.Vec
	for i, row := range p.Rows {
		one := step(row, ownVec(p, v, i))
		parts = append(parts, one.Vec)
		if one.Hit {
			out.Hits = append(out.Hits, int64(i))
		}
	}
	out.Vec = laidVec(parts...)
	return out
}

// hitsOfEnds puts the ends of several together, by End, and of one End by place.
func hitsOfEnds(ends [][]int64) []impl.Hit {
	var out []impl.Hit
	for place, some := range ends {
		for _, end := range some {
			out = append(out, impl.Hit{End: end, Pattern: int64(place)})
		}
	}
	slices.SortStableFunc(out, func(a impl.Hit, b impl.Hit) int { return int(a.End - b.End) })
	return out
}

// hitsAlone goes along each row by itself.
func hitsAlone(rows [][]impl.Cell, text string) []impl.Hit {
	var ends [][]int64
	for _, row := range rows {
		ends = append(ends, impl.RunOn(row, text))
	}
	return hitsOfEnds(ends)
}

// packText tells a pack in a message of a test.
func packText(p impl.Pack) string {
	var out []string
	for _, row := range p.Rows {
		out = append(out, rowText(row))
	}
	text := strings.Join(out, " | ")
	return text[:min(len(text), 300)]
}

func samePack(a impl.Pack, b impl.Pack) bool {
	return slices.EqualFunc(a.Rows, b.Rows, slices.Equal[[]impl.Cell]) && slices.Equal(a.At, b.At) && a.Bits == b.Bits
}

func wantPack(t *testing.T, what string, got impl.PackOut, want impl.PackOut) {
	t.Helper()
	if got.Code != want.Code || !samePack(got.Pack, want.Pack) || !sameVec(got.Vec, want.Vec) || !slices.Equal(got.Hits, want.Hits) {
		t.Fatalf("%s: got %+v, want %+v", what, got, want)
	}
}

func wantPackRight(t *testing.T, what string, p impl.Pack, want bool) {
	t.Helper()
	if got := impl.PackRight(p); got != want {
		t.Fatalf("PackRight, %s: got %v, want %v", what, got, want)
	}
}

// wantPackStep holds one step of several rows against that of each alone, by the document's words and by StepOn, and
// against the step by shifts, masks and one subtraction.
func wantPackStep(t *testing.T, p impl.Pack, v impl.Vec, b int) {
	t.Helper()
	got, what := impl.PackStep(p, v, int64(b)), packText(p)+" by "+strconv.Itoa(b)
	wantPack(t, "PackStep "+what, got, stepEach(p, v, func(row []impl.Cell, own impl.Vec) impl.StepOut {
		return plainStep(row, own, b)
	}))
	wantPack(t, "PackStep and StepOn "+what, got, stepEach(p, v, func(row []impl.Cell, own impl.Vec) impl.StepOut {
		return impl.StepOn(row, own, int64(b))
	}))
	m := impl.PackMasks(p)
	came := impl.VecOr(impl.VecAnd(impl.VecUp(v), impl.PackByte(p, int64(b), false)), impl.VecAnd(v, impl.PackByte(p, int64(b), true)))
	at := impl.VecOr(impl.CloseBy(m, came), impl.CloseBy(m, m.Start))
	if !sameVec(got.Vec, at) {
		t.Fatalf("PackStep %s: got %+v, by masks %+v", what, got.Vec, at)
	}
}

// wantPackRun holds what several find at once against what each finds alone (promise 11).
func wantPackRun(t *testing.T, rows [][]impl.Cell, text string) {
	t.Helper()
	p := plainPack(rows...)
	wantHits(t, "PackRun "+packText(p)+" along "+strconv.Quote(text[:min(len(text), 80)]), impl.PackRun(p, text), hitsAlone(rows, text))
}

// wantWholePack holds all that is told of a right pack without a text.
func wantWholePack(t *testing.T, rows [][]impl.Cell) {
	t.Helper()
	p := plainPack(rows...)
	what := packText(p)
	wantPackRight(t, what, p, true)
	wantPack(t, "PackOf "+what, impl.PackOf(rows), impl.PackOut{Pack: p})
	wantMasks(t, "of the pack "+what, impl.PackMasks(p), plainPackMasks(p))
	for _, b := range []int{0, 'a', 'b', 255} {
		wantVec(t, "PackByte "+what, impl.PackByte(p, int64(b), false), plainPackByte(p, b, false))
		wantVec(t, "PackByte, loops, "+what, impl.PackByte(p, int64(b), true), plainPackByte(p, b, true))
	}
}

// fullRows are rows with just as many places in all as a pack may have.
func fullRows(c impl.Cell) [][]impl.Cell {
	rows := slices.Repeat([][]impl.Cell{sameCell(mostCells, c)}, mostRows-1)
	return append(rows, sameCell(14, c))
}

// edgePacks holds rows at the edges that the document names.
func edgePacks() [][][]impl.Cell {
	all := [][][]impl.Cell{
		{cellsBy("a")},
		{cellsBy("a?")},
		{cellsBy("a?*")},
		{cellsBy("a"), cellsBy("b")},
		{cellsBy("a"), cellsBy("b?")},
		{cellsBy("a?"), cellsBy("a?")},
		{cellsBy("a", "b?"), cellsBy("b?", "a")},
		{cellsBy("a?", "b*", "c?", "d?*"), cellsBy("b*", "a?", "b*", "a?")},
		{cellsBy("a?", "b?", "c?"), cellsBy("a?", "b?"), cellsBy("a", "b?")},
		{cellsBy("a", "b?", "c?"), cellsBy("a?", "b?", "c"), cellsBy("a", "b", "c")},
		{cellsBy("\x00", "\xff?"), cellsBy("\xff*"), cellsBy("\x00?", "\xff")},
		{meetingCells(), meetingCells()},
		{sameCell(mostCells, cell("a", ""))},
		{sameCell(mostCells, cell("a", "?")), sameCell(mostCells, cell("a", "?"))},
		{runRow(30, 59), runRow(0, 29), runRow(0, 59)},
		{sameCell(53, cell("a", "?")), sameCell(53, cell("ab", "*")), sameCell(52, cell("b", "?")), sameCell(52, cell("a", "")), sameCell(52, cell("b", "?*")), sameCell(52, cell("ab", ""))},
	}
	for n := 1; n <= mostRows; n++ {
		for _, row := range [][]impl.Cell{cellsBy("a"), cellsBy("a?"), cellsBy("a*", "b?"), cellsBy("a", "b?", "b*")} {
			all = append(all, slices.Repeat([][]impl.Cell{row}, n))
		}
	}
	for _, marks := range []string{"", "?", "*", "?*"} {
		all = append(all, fullRows(cell("ab", marks)))
	}
	return all
}

// bordersPacks holds packs in which a row begins at each place near a border between words, and goes beyond it.
func bordersPacks(d *dice) [][][]impl.Cell {
	var all [][][]impl.Cell
	for n := 1; n <= mostCells; n++ {
		first := sameCell(n, cell("ab", []string{"", "?", "*", "?*"}[d.below(4)]))
		all = append(all, [][]impl.Cell{first, sameCell(1+d.below(mostCells), cell("a", "?")), mixedRow(d, 1+d.below(mostCells), []string{"a", "b", "ab"})})
	}
	return all
}

// mixedPacks throws rows, some of which fill a pack, or come twice.
func mixedPacks(d *dice, count int) [][][]impl.Cell {
	var all [][][]impl.Cell
	for len(all) < count {
		rows, left, most := [][]impl.Cell{}, int64(impl.MaxBits), 1+d.below(mostCells)
		for range 1 + d.below(mostRows) {
			classes := []string{"a", "b", "ab", "bc"}
			if d.below(3) == 0 {
				classes = fullClasses()
			}
			n := min(1+d.below(most), int(left)-1)
			if len(rows) == mostRows-1 && d.below(2) == 0 {
				n = min(mostCells, int(left)-1)
			}
			if n < 1 {
				break
			}
			row := mixedRow(d, n, classes)
			if last := len(rows) - 1; last >= 0 && d.below(5) == 0 && len(rows[last]) <= n {
				row = rows[last]
			}
			rows, left = append(rows, row), left-int64(len(row))-1
		}
		all = append(all, rows)
	}
	return all
}

func somePacks() [][][]impl.Cell {
	d := dice(71)
	return append(append(edgePacks(), bordersPacks(&d)...), mixedPacks(&d, 120)...)
}

// textAlong makes a text in which rows of a pack end, or nearly end.
func textAlong(d *dice, rows [][]impl.Cell) string {
	var out strings.Builder
	for range 3 {
		near := nearTexts(d, atomsFor(rows[d.below(len(rows))]))
		out.WriteString(near[d.below(len(near))])
		out.WriteString("cba\x00"[d.below(4):])
	}
	return out.String()
}

func TestPackOf(t *testing.T) {
	for _, c := range []struct {
		rows [][]impl.Cell
		at   []int64
		bits int64
	}{
		{[][]impl.Cell{cellsBy("a")}, []int64{0}, 2},
		{[][]impl.Cell{cellsBy("a", "b?", "c*")}, []int64{0}, 4},
		{[][]impl.Cell{cellsBy("a"), cellsBy("b")}, []int64{0, 2}, 4},
		{[][]impl.Cell{cellsBy("a", "b"), cellsBy("b"), cellsBy("a", "b", "c")}, []int64{0, 3, 5}, 9},
		{[][]impl.Cell{cellsBy("a"), cellsBy("a"), cellsBy("a")}, []int64{0, 2, 4}, 6},
		{[][]impl.Cell{sameCell(mostCells, cell("a", ""))}, []int64{0}, 61},
		{fullRows(cell("a", "?")), []int64{0, 61, 122, 183, 244, 305}, impl.MaxBits},
	} {
		want := impl.Pack{Rows: c.rows, At: c.at, Bits: c.bits}
		wantPack(t, "PackOf", impl.PackOf(c.rows), impl.PackOut{Pack: want})
		wantPackRight(t, "as PackOf told", want, true)
	}
	for _, rows := range somePacks() {
		wantWholePack(t, rows)
		wantPackRight(t, "as PackOf told", impl.PackOf(rows).Pack, true)
	}
}

// A list that is too long is looked for ahead of its rows, and these ahead of their places.
func TestWhatPackOfRefuses(t *testing.T) {
	one, most := cellsBy("a"), sameCell(mostCells, cell("a", ""))
	over := append(fullRows(cell("a", ""))[:mostRows-1], sameCell(15, cell("a", "")))
	wrong := append(slices.Clone(over[:mostRows-1]), sameCell(mostCells+1, cell("a", "")))
	for _, c := range []struct {
		what string
		rows [][]impl.Cell
		code int64
	}{
		{"none", nil, impl.ErrForm},
		{"no rows", [][]impl.Cell{}, impl.ErrForm},
		{"a row of none", [][]impl.Cell{nil}, impl.ErrForm},
		{"a row of no cells", [][]impl.Cell{{}}, impl.ErrForm},
		{"a row of 61", [][]impl.Cell{sameCell(mostCells+1, cell("a", ""))}, impl.ErrForm},
		{"seven rows", slices.Repeat([][]impl.Cell{one}, mostRows+1), impl.ErrForm},
		{"seven rows, too many places", slices.Repeat([][]impl.Cell{most}, mostRows+1), impl.ErrForm},
		{"seven rows, the last one of none", append(slices.Repeat([][]impl.Cell{one}, mostRows), nil), impl.ErrForm},
		{"MaxList rows", slices.Repeat([][]impl.Cell{one}, impl.MaxList), impl.ErrForm},
		{"MaxList wrong rows", make([][]impl.Cell, impl.MaxList), impl.ErrForm},
		{"one more than MaxList", slices.Repeat([][]impl.Cell{one}, impl.MaxList+1), impl.ErrSize},
		{"one more than MaxList, too many places", slices.Repeat([][]impl.Cell{most}, impl.MaxList+1), impl.ErrSize},
		{"one more than MaxList, all wrong", make([][]impl.Cell, impl.MaxList+1), impl.ErrSize},
		{"twice MaxList", slices.Repeat([][]impl.Cell{one}, 2*impl.MaxList), impl.ErrSize},
		{"one place more than MaxBits", over, impl.ErrFull},
		{"six rows of 60", slices.Repeat([][]impl.Cell{most}, mostRows), impl.ErrFull},
		{"too many places, the last row of 61", wrong, impl.ErrForm},
		{"too many places, the first row of 61", append([][]impl.Cell{wrong[mostRows-1]}, over[1:]...), impl.ErrForm},
		{"six rows of 61", slices.Repeat([][]impl.Cell{wrong[mostRows-1]}, mostRows), impl.ErrForm},
	} {
		wantPack(t, "PackOf, "+c.what, impl.PackOf(c.rows), impl.PackOut{Code: c.code})
	}
	for _, w := range wrongRows() {
		for at := range mostRows {
			rows := slices.Repeat([][]impl.Cell{most}, mostRows)
			rows[at] = w.cells
			wantPack(t, "PackOf, too many places, "+w.what, impl.PackOf(rows), impl.PackOut{Code: impl.ErrForm})
			rows = slices.Repeat([][]impl.Cell{one}, at+1)
			rows[at] = w.cells
			wantPack(t, "PackOf, "+w.what, impl.PackOf(rows), impl.PackOut{Code: impl.ErrForm})
		}
	}
}

// Each count of places is told as it is, up to MaxBits; from one more on there are too many.
func TestPacksOfEachCountOfPlaces(t *testing.T) {
	for n := 1; n <= mostCells; n++ {
		rows := append(fullRows(cell("a", ""))[:mostRows-1], sameCell(n, cell("a", "")))
		p := plainPack(rows...)
		wantPackRight(t, strconv.FormatInt(p.Bits, 10)+" places", p, p.Bits <= impl.MaxBits)
		want := impl.PackOut{Pack: p}
		if p.Bits > impl.MaxBits {
			want = impl.PackOut{Code: impl.ErrFull}
		}
		wantPack(t, strconv.FormatInt(p.Bits, 10)+" places", impl.PackOf(rows), want)
	}
}

// wrongPack is a pack that is not right, and why.
type wrongPack struct {
	what string
	pack impl.Pack
}

// wrongPlaces holds packs of right rows whose At or Bits are not as they should be.
func wrongPlaces(rows ...[]impl.Cell) []wrongPack {
	right := plainPack(rows...)
	with := func(at []int64, bits int64) impl.Pack { return impl.Pack{Rows: rows, At: at, Bits: bits} }
	all := []wrongPack{
		{"no At", with(nil, right.Bits)},
		{"At too short", with(right.At[:len(rows)-1], right.Bits)},
		{"At begins with the second", with(right.At[1:], right.Bits)},
		{"At too long", with(append(slices.Clone(right.At), right.Bits), right.Bits)},
		{"At too long by a 0", with(append([]int64{0}, right.At...), right.Bits)},
		{"At of more than MaxList", with(make([]int64, impl.MaxList+1), right.Bits)},
	}
	for i := range right.At {
		for _, by := range []int64{-1, 1, right.Bits, -right.Bits, 32, math.MinInt64, math.MaxInt64} {
			at := slices.Clone(right.At)
			at[i] += by
			all = append(all, wrongPack{"another place of the row " + strconv.Itoa(i), with(at, right.Bits)})
		}
	}
	moved := slices.Clone(right.At)
	for i := range moved {
		moved[i]++
	}
	all = append(all, wrongPack{"all moved by one", with(moved, right.Bits)}, wrongPack{"all moved by one, and Bits", with(moved, right.Bits+1)})
	for _, bits := range []int64{right.Bits - 1, right.Bits + 1, right.Bits + 32, -right.Bits, 0, -1, impl.MaxBits + 1, math.MinInt64, math.MaxInt64} {
		all = append(all, wrongPack{"Bits " + strconv.FormatInt(bits, 10), with(right.At, bits)})
	}
	return all
}

func wrongPacks() []wrongPack {
	one, most := cellsBy("a"), sameCell(mostCells, cell("a", ""))
	all := []wrongPack{
		{"the zero pack", impl.Pack{}},
		{"no rows, in lists that are empty", impl.Pack{Rows: [][]impl.Cell{}, At: []int64{}}},
		{"no rows, one bit", impl.Pack{Bits: 1}},
		{"no rows, a place", impl.Pack{At: []int64{0}, Bits: 1}},
		{"seven rows", plainPack(slices.Repeat([][]impl.Cell{one}, mostRows+1)...)},
		{"MaxList rows", plainPack(slices.Repeat([][]impl.Cell{one}, impl.MaxList)...)},
		{"one more than MaxList", plainPack(slices.Repeat([][]impl.Cell{one}, impl.MaxList+1)...)},
		{"six rows of 60", plainPack(slices.Repeat([][]impl.Cell{most}, mostRows)...)},
		{"one place more than MaxBits", plainPack(append(fullRows(cell("a", ""))[:mostRows-1], sameCell(15, cell("a", "")))...)},
	}
	all = append(all, wrongPlaces(one)...)
	all = append(all, wrongPlaces(one, cellsBy("a?", "b*"), cellsBy("b?"))...)
	all = append(all, wrongPlaces(slices.Repeat([][]impl.Cell{one}, mostRows)...)...)
	all = append(all, wrongPlaces(fullRows(cell("a", ""))...)...)
	for i, w := range wrongRows() {
		rows := [][]impl.Cell{one, one, one}
		rows[i%3] = w.cells
		all = append(all, wrongPack{w.what, plainPack(w.cells)}, wrongPack{w.what + ", among right ones", plainPack(rows...)})
	}
	return all
}

func TestWrongPacks(t *testing.T) {
	for _, w := range wrongPacks() {
		wantPackRight(t, w.what, w.pack, false)
		wantMasks(t, "of a wrong pack, "+w.what, impl.PackMasks(w.pack), impl.Masks{})
		for _, b := range []int64{0, 'a', 255, -1, 256} {
			wantVec(t, "PackByte, "+w.what, impl.PackByte(w.pack, b, false), impl.Vec{})
			wantVec(t, "PackByte, loops, "+w.what, impl.PackByte(w.pack, b, true), impl.Vec{})
			for _, v := range []impl.Vec{{}, impl.VecNew(w.pack.Bits), impl.VecNew(4), impl.VecNew(plainPack(w.pack.Rows...).Bits)} {
				wantPack(t, "PackStep, "+w.what, impl.PackStep(w.pack, v, b), impl.PackOut{Code: impl.ErrForm})
			}
		}
		for _, text := range []string{"", "a", "aab", strings.Repeat("a", impl.MaxBytes+1)} {
			wantHits(t, "PackRun, "+w.what, impl.PackRun(w.pack, text), nil)
		}
	}
}

func TestPackMasks(t *testing.T) {
	p := plainPack(cellsBy("a", "b?"), cellsBy("a?*", "b?"), cellsBy("a*"), cellsBy("b?", "a", "b?"))
	wantMasks(t, "of four rows", impl.PackMasks(p), impl.Masks{
		Start: placesVec(11, 0, 3, 6, 8),
		Final: placesVec(11, 2, 5, 7, 11),
		First: placesVec(11, 1, 3, 8, 10),
		Last:  placesVec(11, 2, 5, 9, 11),
		Block: placesVec(11, 2, 4, 5, 9, 11),
	})
	wantMasks(t, "of two rows without a run", impl.PackMasks(plainPack(cellsBy("a"), cellsBy("a*"))), impl.Masks{
		Start: placesVec(3, 0, 2),
		Final: placesVec(3, 1, 3),
		First: placesVec(3),
		Last:  placesVec(3),
		Block: placesVec(3),
	})
	for _, row := range longRows() {
		wantMasks(t, "of one row", impl.PackMasks(plainPack(row)), impl.MasksOf(row))
	}
}

func TestPackByte(t *testing.T) {
	p := plainPack([]impl.Cell{{Class: "ab"}, {Class: "b", Loop: true}}, cellsBy("b?*", "a?"), []impl.Cell{{Class: "\x00\xff", Loop: true}, {Class: "a"}})
	for _, c := range []struct {
		b     int64
		cells []int
		loops []int
	}{
		{'a', []int{1, 5, 8}, nil},
		{'b', []int{1, 2, 4}, []int{2, 4}},
		{0, []int{7}, []int{7}},
		{255, []int{7}, []int{7}},
		{'c', nil, nil},
		{1, nil, nil},
		{254, nil, nil},
	} {
		what := strconv.FormatInt(c.b, 10)
		wantVec(t, "PackByte of "+what, impl.PackByte(p, c.b, false), placesVec(8, c.cells...))
		wantVec(t, "PackByte of loops of "+what, impl.PackByte(p, c.b, true), placesVec(8, c.loops...))
	}
	for _, row := range longRows() {
		wantVec(t, "PackByte of one row", impl.PackByte(plainPack(row), 'a', false), impl.ByteVec(row, 'a'))
		wantVec(t, "PackByte of loops of one row", impl.PackByte(plainPack(row), 'a', true), impl.LoopVec(row, 'a'))
	}
}

func TestPackByteOfEachByte(t *testing.T) {
	for _, rows := range [][][]impl.Cell{edgePacks()[11], fullRows(cell("\x00abz\xff", "*")), fullRows(cell(allBytes(), "?"))} {
		p := plainPack(rows...)
		for b := range 256 {
			wantVec(t, "PackByte", impl.PackByte(p, int64(b), false), plainPackByte(p, b, false))
			wantVec(t, "PackByte of loops", impl.PackByte(p, int64(b), true), plainPackByte(p, b, true))
		}
	}
}

func TestPackStep(t *testing.T) {
	for _, c := range []struct {
		rows [][]impl.Cell
		on   []int
		b    int
		want []int
		hits []int64
	}{
		{[][]impl.Cell{cellsBy("a")}, []int{0}, 'a', []int{0, 1}, []int64{0}},
		{[][]impl.Cell{cellsBy("a")}, nil, 'a', []int{0}, nil},
		{[][]impl.Cell{cellsBy("a"), cellsBy("b")}, []int{0, 2}, 'a', []int{0, 1, 2}, []int64{0}},
		{[][]impl.Cell{cellsBy("a"), cellsBy("b")}, []int{0, 2}, 'b', []int{0, 2, 3}, []int64{1}},
		{[][]impl.Cell{cellsBy("a"), cellsBy("a")}, []int{0, 2}, 'a', []int{0, 1, 2, 3}, []int64{0, 1}},
		{[][]impl.Cell{cellsBy("a"), cellsBy("a")}, []int{0}, 'a', []int{0, 1, 2}, []int64{0}},
		{[][]impl.Cell{cellsBy("a"), cellsBy("a")}, []int{2}, 'a', []int{0, 2, 3}, []int64{1}},
		// The end of a row is no beginning of the next one.
		{[][]impl.Cell{cellsBy("a"), cellsBy("a")}, []int{1}, 'a', []int{0, 2}, nil},
		{[][]impl.Cell{cellsBy("a"), cellsBy("b?")}, []int{1}, 'c', []int{0, 2, 3}, nil},
		{[][]impl.Cell{cellsBy("a?"), cellsBy("a?")}, []int{1}, 'a', []int{0, 1, 2, 3}, nil},
		// What is passed by at the end of a row does not pass by what the next one begins with.
		{[][]impl.Cell{cellsBy("a", "b?"), cellsBy("b?", "a")}, []int{0}, 'a', []int{0, 1, 2, 3, 4}, []int64{0}},
		{[][]impl.Cell{cellsBy("a", "b?"), cellsBy("b?")}, []int{0}, 'a', []int{0, 1, 2, 3, 4}, []int64{0}},
		{[][]impl.Cell{cellsBy("a", "b?"), cellsBy("b?", "c?", "a")}, []int{2, 3}, 'a', []int{0, 3, 4, 5}, nil},
		{[][]impl.Cell{cellsBy("a", "b?", "c?"), cellsBy("a", "b?", "c")}, []int{0, 4}, 'a', []int{0, 1, 2, 3, 4, 5, 6}, []int64{0}},
		{[][]impl.Cell{cellsBy("a*", "b?"), cellsBy("a", "b*")}, []int{1, 6}, 'a', []int{0, 1, 2, 3}, []int64{0}},
		{[][]impl.Cell{cellsBy("a*", "b?"), cellsBy("a", "b*")}, []int{1, 5}, 'b', []int{0, 2, 3, 5}, []int64{0, 1}},
		{[][]impl.Cell{cellsBy("a*", "b?", "c*"), cellsBy("c?")}, []int{1, 3}, 'c', []int{0, 3, 4, 5}, []int64{0}},
		{[][]impl.Cell{cellsBy("\x00"), cellsBy("\xff")}, []int{0, 2}, 0, []int{0, 1, 2}, []int64{0}},
		{[][]impl.Cell{cellsBy("\x00"), cellsBy("\xff")}, []int{0, 2}, 255, []int{0, 2, 3}, []int64{1}},
	} {
		p := plainPack(c.rows...)
		n := int(p.Bits) - 1
		want := impl.PackOut{Pack: p, Vec: placesVec(n, c.want...), Hits: c.hits}
		wantPack(t, packText(p)+" by "+strconv.Itoa(c.b), impl.PackStep(p, placesVec(n, c.on...), int64(c.b)), want)
	}
}

// All places of short rows in twos, and a byte that some have and one that none has.
func TestPackStepOfShortRows(t *testing.T) {
	rows := rowsOf([]impl.Cell{cell("a", ""), cell("a", "?"), cell("b", "*"), cell("a", "?*")}, 2)
	for i, first := range rows {
		for j, second := range rows {
			p := plainPack(first, second)
			for number := range 1 << p.Bits {
				if (number+i+j)%5 == 0 {
					wantPackStep(t, p, anyPlaces(int(p.Bits)-1, number), int("ac"[number>>1%2]))
				}
			}
		}
	}
}

func TestPackStepOfMixedPacks(t *testing.T) {
	d := dice(72)
	for _, rows := range somePacks() {
		p := plainPack(rows...)
		vecs := append(someVecs(p.Bits), impl.VecOr(impl.PackMasks(p).Final, impl.PackMasks(p).Last))
		for i, v := range vecs {
			wantPackStep(t, p, v, int([]byte{'a', 'b', 0, 255, byte(d.below(256))}[i%5]))
		}
	}
}

func TestPackStepByEachByte(t *testing.T) {
	for _, rows := range [][][]impl.Cell{edgePacks()[10], edgePacks()[11], {cellsBy("a"), {cell(allBytes(), "?*")}, cellsBy("\x00", "\xff?")}} {
		p := plainPack(rows...)
		for b := range 256 {
			wantPackStep(t, p, vecOf(p.Bits, new(big.Int).Sub(power(p.Bits), big.NewInt(1))), b)
		}
	}
}

// A step of many rows tells of each, the first one first, whichever of them hit.
func TestHitsOfAStepRise(t *testing.T) {
	for which := range 1 << mostRows {
		var rows [][]impl.Cell
		var want []int64
		for i := range mostRows {
			if which>>i&1 == 1 {
				rows, want = append(rows, append(sameCell(40+i, cell("b", "?")), cell("a", ""))), append(want, int64(i))
			} else {
				rows = append(rows, sameCell(41+i, cell("b", "?")))
			}
		}
		p := plainPack(rows...)
		got := impl.PackStep(p, vecOf(p.Bits, new(big.Int).Sub(power(p.Bits), big.NewInt(1))), 'a')
		wantPlaces(t, "Hits", got.Hits, want)
	}
}

func TestPackStepRefuses(t *testing.T) {
	refused := impl.PackOut{Code: impl.ErrForm}
	for _, rows := range edgePacks() {
		p := plainPack(rows...)
		v := impl.VecNew(p.Bits)
		for _, b := range []int64{-1, -2, -256, 256, 257, 256 + 'a', 1 << 32, 1<<32 + 'a', math.MinInt64, math.MaxInt64} {
			wantPack(t, "PackStep by "+strconv.FormatInt(b, 10), impl.PackStep(p, v, b), refused)
			wantVec(t, "PackByte of "+strconv.FormatInt(b, 10), impl.PackByte(p, b, false), impl.Vec{})
			wantVec(t, "PackByte of loops of "+strconv.FormatInt(b, 10), impl.PackByte(p, b, true), impl.Vec{})
		}
		for _, size := range []int64{1, p.Bits - 1, p.Bits + 1, p.Bits - 32, p.Bits + 32, int64(len(rows[0])) + 1, impl.MaxBits} {
			if size != p.Bits {
				wantPack(t, "PackStep from another number of bits", impl.PackStep(p, impl.VecNew(size), 'a'), refused)
			}
		}
	}
}

// rowsOfPlaces are rows with so many places in all, each of them as long as may be.
func rowsOfPlaces(size int64) [][]impl.Cell {
	var rows [][]impl.Cell
	for size > 0 {
		n := min(size-1, mostCells)
		if size-n-1 == 1 {
			n--
		}
		rows, size = append(rows, sameCell(int(n), cell("a", "?*"))), size-n-1
	}
	return rows
}

func TestPackStepFromWrongVecs(t *testing.T) {
	for _, w := range wrongVecs() {
		p := plainPack(rowsOfPlaces(min(max(w.vec.Bits, 2), impl.MaxBits))...)
		wantPackRight(t, "of as many places", p, true)
		wantPack(t, "PackStep, "+w.what, impl.PackStep(p, w.vec, 'a'), impl.PackOut{Code: impl.ErrForm})
	}
	for size := int64(2); size <= impl.MaxBits; size++ {
		p := plainPack(rowsOfPlaces(size)...)
		v := impl.VecNew(size)
		wantPack(t, "PackStep from no places", impl.PackStep(p, v, 'b'), impl.PackOut{Pack: p, Vec: impl.VecNot(v)})
		v.Words[0] = -1
		wantPack(t, "PackStep, a word below 0", impl.PackStep(p, v, 'b'), impl.PackOut{Code: impl.ErrForm})
	}
}

// Whichever of pack, vector and byte are wrong, and if all are, there is one code, and nothing beside it.
func TestOneCodeForAllThatIsWrongInAStep(t *testing.T) {
	right := plainPack(cellsBy("a"), cellsBy("b"))
	packs := []impl.Pack{right, {}, {Rows: right.Rows, At: right.At, Bits: 5}, plainPack(make([][]impl.Cell, impl.MaxList+1)...)}
	vecs := []impl.Vec{placesVec(3, 0, 2), {}, placesVec(4, 0), {Bits: 4, Words: []int64{16}}, {Bits: 4, Words: make([]int64, impl.MaxList+1)}}
	bytes := []int64{'a', -1, 256}
	for i, p := range packs {
		for j, v := range vecs {
			for k, b := range bytes {
				want := impl.PackOut{Code: impl.ErrForm}
				if i+j+k == 0 {
					want = impl.PackOut{Pack: right, Vec: placesVec(3, 0, 1, 2), Hits: []int64{0}}
				}
				wantPack(t, "PackStep", impl.PackStep(p, v, b), want)
			}
		}
	}
}

func TestPackRun(t *testing.T) {
	for _, c := range []struct {
		rows [][]impl.Cell
		text string
		want []impl.Hit
	}{
		{[][]impl.Cell{cellsBy("a")}, "", nil},
		{[][]impl.Cell{cellsBy("a")}, "a", hitsOf([2]int64{1, 0})},
		{[][]impl.Cell{cellsBy("a"), cellsBy("b")}, "ab", hitsOf([2]int64{1, 0}, [2]int64{2, 1})},
		{[][]impl.Cell{cellsBy("a"), cellsBy("b")}, "ba", hitsOf([2]int64{1, 1}, [2]int64{2, 0})},
		{[][]impl.Cell{cellsBy("a"), cellsBy("b")}, "cc", nil},
		{[][]impl.Cell{cellsBy("a"), cellsBy("a")}, "ba", hitsOf([2]int64{2, 0}, [2]int64{2, 1})},
		{[][]impl.Cell{cellsBy("a?"), cellsBy("a?"), cellsBy("b?")}, "", nil},
		{[][]impl.Cell{cellsBy("a?"), cellsBy("a?"), cellsBy("b?")}, "b", hitsOf([2]int64{1, 2})},
		// All together: the end first, and of one end the place.
		{[][]impl.Cell{cellsBy("a", "b"), cellsBy("b"), cellsBy("a*"), cellsBy("a", "b?")}, "aab", hitsOf([][2]int64{{1, 2}, {1, 3}, {2, 2}, {2, 3}, {3, 0}, {3, 1}, {3, 3}}...)},
		// The end of a row and the beginning of the next one are no row.
		{[][]impl.Cell{cellsBy("a", "b"), cellsBy("c", "d")}, "bc", nil},
		{[][]impl.Cell{cellsBy("a", "b"), cellsBy("c", "d")}, "abcd", hitsOf([2]int64{2, 0}, [2]int64{4, 1})},
		{[][]impl.Cell{cellsBy("a", "b?"), cellsBy("b?", "c")}, "abc", hitsOf([][2]int64{{1, 0}, {2, 0}, {3, 1}}...)},
		{[][]impl.Cell{cellsBy("a", "b?"), cellsBy("c?")}, "ad", hitsOf([2]int64{1, 0})},
		{[][]impl.Cell{cellsBy("b?", "a*", "b?"), cellsBy("b", "a?", "a?", "b")}, "baab", hitsOf([][2]int64{{2, 0}, {3, 0}, {4, 0}, {4, 1}}...)},
		{[][]impl.Cell{cellsBy("\x00", "\xff"), cellsBy("\xff?", "\x00")}, "\xff\x00\xff", hitsOf([2]int64{2, 1}, [2]int64{3, 0})},
		{slices.Repeat([][]impl.Cell{cellsBy("a")}, mostRows), "ba", hitsOfEach(2, mostRows)},
	} {
		p := plainPack(c.rows...)
		wantHits(t, "PackRun "+packText(p)+" along "+strconv.Quote(c.text), impl.PackRun(p, c.text), c.want)
	}
}

func TestSeveralFindAtOnceWhatEachFindsAlone(t *testing.T) {
	texts, rows := shortTexts("abc", 5), shortRows(2)
	d := dice(73)
	for range 1500 {
		var some [][]impl.Cell
		for range 1 + d.below(mostRows) {
			some = append(some, rows[d.below(len(rows))])
		}
		for range 5 {
			wantPackRun(t, some, texts[d.below(len(texts))])
		}
	}
	for _, some := range somePacks() {
		for _, text := range []string{"", "a", "b", "\x00\xff", "abababbabaab", textAlong(&d, some), textAlong(&d, some), textAlong(&d, some)} {
			wantPackRun(t, some, text)
		}
	}
}

// Each two short rows, of which the first one ends and the second one begins in each way.
func TestTwoRowsFindAtOnceWhatEachFindsAlone(t *testing.T) {
	rows := rowsOf([]impl.Cell{cell("a", ""), cell("b", "?"), cell("a", "*"), cell("ab", "?*")}, 2)
	for _, first := range rows {
		for _, second := range rows {
			for _, text := range []string{"aabab", "bbaba", "cabcb"} {
				wantPackRun(t, [][]impl.Cell{first, second}, text)
			}
		}
	}
}

func TestPacksFindTheHitsOfTheirPatterns(t *testing.T) {
	d := dice(74)
	all := append(rightPatterns(), meetingPatterns(2)...)
	for range 400 {
		var l [][]impl.Atom
		var rows [][]impl.Cell
		for range 1 + d.below(mostRows) {
			p := all[d.below(len(all))]
			l, rows = append(l, p), append(rows, impl.CellsOf(p))
		}
		text := "ab" + textAlong(&d, rows) + "ba"
		wantHits(t, "PackRun and HitsOf", impl.PackRun(impl.PackOf(rows).Pack, text), impl.HitsOf(l, text))
	}
}

// A step that is taken from where the last one came to is the run.
func TestPackStepAfterPackStepIsTheRun(t *testing.T) {
	d := dice(75)
	for _, rows := range somePacks() {
		p, text := plainPack(rows...), textAlong(&d, rows)
		text = text[:min(len(text), 25)]
		var want []impl.Hit
		v := laidOfRows(p, impl.StartOf)
		for i := range len(text) {
			step := impl.PackStep(p, v, int64(text[i]))
			for _, place := range step.Hits {
				want = append(want, impl.Hit{End: int64(i) + 1, Pattern: place})
			}
			p, v = step.Pack, step.Vec
		}
		wantHits(t, "PackRun "+packText(p), impl.PackRun(p, text), want)
	}
}

// Rows that may all be passed by without a byte end at none of the empty text, and at each byte of theirs.
func TestNoByteIsNoHitOfAPack(t *testing.T) {
	for _, marks := range []string{"?", "?*"} {
		rows := fullRows(cell("a", marks))
		p := plainPack(rows...)
		wantHits(t, "no byte", impl.PackRun(p, ""), nil)
		wantHits(t, "no byte of the rows", impl.PackRun(p, "bbb"), nil)
		wantHits(t, "the second byte", impl.PackRun(p, "bab"), hitsOfEach(2, mostRows))
	}
}

func TestPackRunOfTextsAtTheLimit(t *testing.T) {
	full := strings.Repeat("a", impl.MaxBytes)
	p := plainPack(cellsBy("b"), cellsBy("a", "b?", "b"), cellsBy("a", "b"), cellsBy("c?"))
	last := hitsOfEach(impl.MaxBytes, 3)
	wantHits(t, "hits at the last byte of MaxBytes", impl.PackRun(p, full[1:]+"b"), last)
	wantHits(t, "one more", impl.PackRun(p, full+"b"), nil)
	wantHits(t, "one more, behind a hit", impl.PackRun(p, "b"+full), nil)
	wantHits(t, "twice as many", impl.PackRun(p, full+full), nil)
	for _, rows := range [][][]impl.Cell{fullRows(cell("a", "?")), fullRows(cell("ab", "")), slices.Repeat([][]impl.Cell{cellsBy("a?*")}, mostRows)} {
		wantPackRun(t, rows, full)
		wantPackRun(t, rows, full[1:])
		wantPackRun(t, rows, someBytes(impl.MaxBytes))
		wantHits(t, "one more", impl.PackRun(plainPack(rows...), full+"a"), nil)
	}
}

// roomyPack is a copy of a pack in which each list has something behind it that no call may touch.
func roomyPack(p impl.Pack) impl.Pack {
	out := impl.Pack{At: append(slices.Clone(p.At), 77)[:len(p.At)], Bits: p.Bits}
	for _, row := range p.Rows {
		out.Rows = append(out.Rows, roomyCells(row))
	}
	out.Rows = append(out.Rows, cellsBy("g"))[:len(p.Rows)]
	return out
}

func wantRoomyPack(t *testing.T, what string, got impl.Pack, want impl.Pack) {
	t.Helper()
	if !samePack(got, want) || got.At[:len(got.At)+1][len(got.At)] != 77 {
		t.Fatalf("%s: a call changed the pack %s", what, packText(want))
	}
	if !slices.Equal(got.Rows[:len(got.Rows)+1][len(got.Rows)], cellsBy("g")) {
		t.Fatalf("%s: a call changed what is behind the rows", what)
	}
	for _, row := range got.Rows {
		if row[:len(row)+1][len(row)] != cell("guard", "?") {
			t.Fatalf("%s: a call changed what is behind a row", what)
		}
	}
}

func TestPacksHandedInAreNotChanged(t *testing.T) {
	packs := wrongPacks()
	for _, rows := range somePacks() {
		packs = append(packs, wrongPack{"right", plainPack(rows...)})
	}
	for _, w := range packs {
		p, was := roomyPack(w.pack), impl.Vec{}
		if w.pack.Bits > 0 && w.pack.Bits <= impl.MaxBits {
			was = vecOf(w.pack.Bits, big.NewInt(1))
		}
		v := roomyVec(was)
		impl.PackRight(p)
		impl.PackOf(p.Rows)
		impl.PackMasks(p)
		impl.PackByte(p, 'a', false)
		impl.PackByte(p, 'b', true)
		impl.PackStep(p, v, 'a')
		impl.PackStep(p, v, 256)
		impl.PackRun(p, "abba")
		wantRoomyPack(t, w.what, p, w.pack)
		wantRoomyVec(t, w.what, v, was)
	}
}

// scribble writes over all that an answer may reach: in each list what no other list of it holds.
func scribble(out impl.PackOut) {
	for i, list := range [][]int64{out.Pack.At, out.Vec.Words, out.Hits} {
		whole := list[:cap(list)]
		for at := range whole {
			whole[at] = int64(-1 - i)
		}
	}
	for i, row := range out.Pack.Rows {
		whole := row[:cap(row)]
		for at := range whole {
			whole[at] = cell(strconv.Itoa(i), "?*")
		}
	}
}

// wantScribbled tells that what was written over in one list was seen in no other.
func wantScribbled(t *testing.T, out impl.PackOut) {
	t.Helper()
	for i, list := range [][]int64{out.Pack.At, out.Vec.Words, out.Hits} {
		if slices.ContainsFunc(list, func(n int64) bool { return n != int64(-1-i) }) {
			t.Fatal("two lists of an answer share memory")
		}
	}
	for i, row := range out.Pack.Rows {
		if slices.ContainsFunc(row, func(c impl.Cell) bool { return c.Class != strconv.Itoa(i) }) {
			t.Fatal("two rows of an answer share memory")
		}
	}
}

// wantNewClasses tells that no class of an answer is memory of what was handed in, or of another class.
func wantNewClasses(t *testing.T, got [][]impl.Cell, given [][]impl.Cell) {
	t.Helper()
	classes := slices.Concat(got...)
	for i, x := range classes {
		for _, y := range append(slices.Concat(given...), classes[:i]...) {
			if sharesMemory(y.Class, x.Class) {
				t.Fatalf("the class %q shares memory", x.Class)
			}
		}
	}
}

func TestPacksAreNewMemory(t *testing.T) {
	for i, rows := range somePacks() {
		given := roomyPack(plainPack(rows...))
		was := plainPack(rows...)
		v := roomyVec(vecOf(was.Bits, new(big.Int).Sub(power(was.Bits), big.NewInt(1))))
		for range 2 {
			made, step := impl.PackOf(given.Rows), impl.PackStep(given, v, 'a')
			wantPack(t, "PackOf, again", made, impl.PackOut{Pack: was})
			wantPack(t, "PackStep, again", step, stepEach(was, v, func(row []impl.Cell, own impl.Vec) impl.StepOut {
				return plainStep(row, own, 'a')
			}))
			if i%4 == 0 {
				wantNewClasses(t, made.Pack.Rows, rows)
				wantNewClasses(t, step.Pack.Rows, rows)
			}
			for _, out := range []impl.PackOut{made, step} {
				scribble(out)
				wantScribbled(t, out)
				clear(out.Pack.Rows[:cap(out.Pack.Rows)])
			}
			wantRoomyPack(t, "an answer", given, was)
			wantRoomyVec(t, "an answer", v, vecOf(was.Bits, new(big.Int).Sub(power(was.Bits), big.NewInt(1))))
		}
	}
}

func TestWhatIsToldOfPacksIsNewMemory(t *testing.T) {
	for _, rows := range somePacks() {
		p := plainPack(rows...)
		masks := impl.PackMasks(p)
		vecs := append(vecsOf(masks), impl.PackByte(p, 'a', false), impl.PackByte(p, 'a', false), impl.PackByte(p, 'a', true), impl.PackByte(p, 'a', true))
		for i, v := range vecs {
			whole := v.Words[:cap(v.Words)]
			for at := range whole {
				whole[at] = int64(i)
			}
		}
		for i, v := range vecs {
			if slices.ContainsFunc(v.Words, func(w int64) bool { return w != int64(i) }) {
				t.Fatalf("%s: two lists share memory", packText(p))
			}
		}
		wantMasks(t, "of a pack, again", impl.PackMasks(p), plainPackMasks(p))
		wantVec(t, "PackByte, again", impl.PackByte(p, 'a', false), plainPackByte(p, 'a', false))
	}
	p := plainPack(cellsBy("a"), cellsBy("a", "b?"))
	for range 2 {
		hits := impl.PackRun(p, "ab")
		wantHits(t, "PackRun, again", hits, hitsOf([2]int64{1, 0}, [2]int64{1, 1}, [2]int64{2, 1}))
		clear(hits[:cap(hits)])
	}
}

// A pack that is handed back is one to go on with, whatever becomes of the one that was handed in.
func TestAPackIsItsOwn(t *testing.T) {
	rows := [][]impl.Cell{cellsBy("a"), cellsBy("a", "b")}
	made := impl.PackOf(rows).Pack
	step := impl.PackStep(made, placesVec(4, 0, 2), 'a')
	rows[0][0].Class, rows[1] = "x", nil
	wantHits(t, "what was made", impl.PackRun(made, "ab"), hitsOf([2]int64{1, 0}, [2]int64{2, 1}))
	made.Rows[1][1].Class, made.At[1] = "y", 9
	wantHits(t, "what was stepped", impl.PackRun(step.Pack, "ab"), hitsOf([2]int64{1, 0}, [2]int64{2, 1}))
	wantHits(t, "what is wrong now", impl.PackRun(made, "ab"), nil)
}

// Where one pack stands must be seen by no other.
func TestPacksAreGoneAlongInTurn(t *testing.T) {
	askInTurn(longRows()[:120], func(row []impl.Cell) {
		rows := [][]impl.Cell{row, cellsBy("b"), row}
		if got, want := impl.PackRun(plainPack(rows...), "abba"), hitsAlone(rows, "abba"); !slices.Equal(got, want) {
			t.Errorf("PackRun %s: got %v, want %v", rowText(row), got, want)
		}
	})
	first, second := plainPack(cellsBy("a"), cellsBy("b")), plainPack(cellsBy("b"), cellsBy("a"))
	for range 2 {
		wantHits(t, "the first pack", impl.PackRun(first, "a"), hitsOf([2]int64{1, 0}))
		wantHits(t, "the second pack", impl.PackRun(second, "a"), hitsOf([2]int64{1, 1}))
	}
	// The pack is the same memory, but another pack.
	first.Rows[0][0].Class = "b"
	wantHits(t, "the first pack, changed", impl.PackRun(first, "b"), hitsOf([2]int64{1, 0}, [2]int64{1, 1}))
}
