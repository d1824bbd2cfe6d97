package tests

import (
	"math"
	"math/big"
	"runtime"
	"slices"
	"strconv"
	"strings"
	"testing"
	"time"

	"loop.example/g00736/impl"
)

const (
	mostCap   = 1000
	mostTold  = 40000
	mostParts = 6
)

// isPlain asks each cell, without the program.
func isPlain(c []impl.Cell) bool {
	return !slices.ContainsFunc(c, func(x impl.Cell) bool { return x.Skip || x.Loop })
}

// plainEngine tells by the document's words how a right row is gone through.
func plainEngine(c []impl.Cell, want int64) int64 {
	plain := isPlain(c)
	switch want {
	case 0:
		switch {
		case plain && len(c) >= 4:
			return impl.EnBack
		case plain:
			return impl.EnTurn
		}
		return impl.EnStep
	case impl.EnStep:
		return impl.EnStep
	case impl.EnTurn:
		if plain {
			return impl.EnTurn
		}
	case impl.EnBack:
		if plain && len(c) >= 2 {
			return impl.EnBack
		}
	}
	return 0
}

// enginesFor holds the engines for which a right row is fit.
func enginesFor(c []impl.Cell) []int64 {
	var out []int64
	for _, engine := range []int64{impl.EnStep, impl.EnTurn, impl.EnBack} {
		if plainEngine(c, engine) != 0 {
			out = append(out, engine)
		}
	}
	return out
}

// plainPart is a part at its beginning by the document's words.
func plainPart(c []impl.Cell, engine int64, from int64) impl.Part {
	switch engine {
	case impl.EnStep:
		return impl.Part{Engine: engine, Cells: c, Vec: plainStart(c)}
	case impl.EnTurn:
		return impl.Part{Engine: engine, Cells: c, Vec: turnedBits(len(c))}
	}
	return impl.Part{Engine: engine, Cells: c, Next: from}
}

// scannerOf is a scanner at its beginning, of parts as they are.
func scannerOf(from int64, most int64, parts ...impl.Part) impl.Scanner {
	return impl.Scanner{Parts: parts, From: from, At: from, Cap: most}
}

// plainScanner is what ScanNew hands out by the document's words, of patterns that are fit.
func plainScanner(l [][]impl.Atom, want int64, from int64, most int64) impl.Scanner {
	s := scannerOf(from, most)
	for _, p := range l {
		c := plainCells(p)
		s.Parts = append(s.Parts, plainPart(c, plainEngine(c, want), from))
	}
	return s
}

// stepAlong goes on byte by byte, and tells the ends at which a step hits.
func stepAlong(p impl.Part, at int64, chunk string, step func(c []impl.Cell, v impl.Vec, b int) impl.StepOut) (impl.Part, []int64) {
	var ends []int64
	for i := range len(chunk) {
		out := step(p.Cells, p.Vec, int(chunk[i]))
		p.Vec = out.Vec
		if out.Hit {
			ends = append(ends, at+int64(i)+1)
		}
	}
	return p, ends
}

// lookAlong goes on from window to window of what was kept and of what comes by.
func lookAlong(p impl.Part, at int64, chunk string) (impl.Part, []int64) {
	var ends []int64
	size, there, first := int64(len(p.Cells)), p.Tail+chunk, at-int64(len(p.Tail))
	for p.Next+size <= at+int64(len(chunk)) {
		bytes := there[p.Next-first:][:size]
		if goesWith(p.Cells, bytes) {
			ends = append(ends, p.Next+size)
		}
		p.Next += plainWindows(p.Cells, bytes)[0].Shift
	}
	p.Tail = there[min(p.Next-first, int64(len(there))):]
	return p, ends
}

// plainGoOn goes on with one part by the document's words, and tells the ends of its hits.
func plainGoOn(p impl.Part, at int64, chunk string) (impl.Part, []int64) {
	switch p.Engine {
	case impl.EnStep:
		return stepAlong(p, at, chunk, plainStep)
	case impl.EnTurn:
		return stepAlong(p, at, chunk, plainTurnStep)
	}
	return lookAlong(p, at, chunk)
}

// plainWrite lets a piece come by, that does not go too far, at a right scanner that is open.
func plainWrite(s impl.Scanner, chunk string) impl.ScanOut {
	s.Parts = slices.Clone(s.Parts)
	ends := make([][]int64, len(s.Parts))
	for i, p := range s.Parts {
		s.Parts[i], ends[i] = plainGoOn(p, s.At, chunk)
	}
	s.At += int64(len(chunk))
	hits := hitsOfEnds(ends)
	if s.Cap != -1 && s.Told+int64(len(hits)) > s.Cap {
		hits, s.Shut = hits[:s.Cap-s.Told], impl.ShFull
	}
	s.Told += int64(len(hits))
	return impl.ScanOut{Scanner: s, Hits: hits}
}

func samePart(a impl.Part, b impl.Part) bool {
	return a.Engine == b.Engine && slices.Equal(a.Cells, b.Cells) && sameVec(a.Vec, b.Vec) && a.Next == b.Next && a.Tail == b.Tail
}

func sameScanner(a impl.Scanner, b impl.Scanner) bool {
	return slices.EqualFunc(a.Parts, b.Parts, samePart) && a.From == b.From && a.At == b.At && a.Cap == b.Cap && a.Told == b.Told && a.Shut == b.Shut
}

func sameScan(a impl.ScanOut, b impl.ScanOut) bool {
	return a.Code == b.Code && sameScanner(a.Scanner, b.Scanner) && slices.Equal(a.Hits, b.Hits)
}

// cut keeps a message of a test short.
func cut(text string) string {
	return text[:min(len(text), 400)]
}

// scanText tells a scanner, its hits and a code in a message of a test.
func scanText(out impl.ScanOut) string {
	s := out.Scanner
	text := "code " + strconv.FormatInt(out.Code, 10)
	for i, n := range []int64{s.From, s.At, s.Cap, s.Told, s.Shut} {
		text += ", " + []string{"From", "At", "Cap", "Told", "Shut"}[i] + " " + strconv.FormatInt(n, 10)
	}
	for _, hit := range out.Hits[:min(len(out.Hits), 20)] {
		text += " " + strconv.FormatInt(hit.End, 10) + "." + strconv.FormatInt(hit.Pattern, 10)
	}
	for _, p := range s.Parts {
		text += "; " + strconv.FormatInt(p.Engine, 10) + " of " + cut(rowText(p.Cells)) + ", " + numOf(p.Vec).String()
		text += " of " + strconv.FormatInt(p.Vec.Bits, 10) + ", Next " + strconv.FormatInt(p.Next, 10) + ", Tail " + strconv.Quote(p.Tail)
	}
	return text
}

func wantScan(t *testing.T, what string, got impl.ScanOut, want impl.ScanOut) {
	t.Helper()
	if !sameScan(got, want) {
		t.Fatalf("%s:\ngot %s\nwant %s", cut(what), scanText(got), scanText(want))
	}
}

func wantScanRight(t *testing.T, what string, s impl.Scanner, want bool) {
	t.Helper()
	if got := impl.ScanRight(s); got != want {
		t.Fatalf("ScanRight, %s: got %v of %s", what, got, scanText(impl.ScanOut{Scanner: s}))
	}
}

// wantWritten holds one piece against the document's words, and tells what the program handed back.
func wantWritten(t *testing.T, s impl.Scanner, chunk string) impl.ScanOut {
	t.Helper()
	got := impl.ScanWrite(s, chunk)
	wantScan(t, "ScanWrite of "+strconv.Quote(cut(chunk))+" to "+scanText(impl.ScanOut{Scanner: s}), got, plainWrite(s, chunk))
	wantScanRight(t, "as ScanWrite told", got.Scanner, true)
	return got
}

func TestScanLimits(t *testing.T) {
	got := [8]int64{impl.MaxPos, impl.EnStep, impl.EnTurn, impl.EnBack, impl.ShOpen, impl.ShDone, impl.ShFull, impl.ShFar}
	want := [8]int64{1000000, 1, 2, 3, 0, 1, 2, 3}
	if got != want {
		t.Errorf("got %v, want %v", got, want)
	}
}

func TestEngineFor(t *testing.T) {
	for _, c := range []struct {
		row  []impl.Cell
		want [4]int64
	}{
		{plainRow("a"), [4]int64{impl.EnTurn, impl.EnStep, impl.EnTurn, 0}},
		{plainRow("ab"), [4]int64{impl.EnTurn, impl.EnStep, impl.EnTurn, impl.EnBack}},
		{plainRow("abc"), [4]int64{impl.EnTurn, impl.EnStep, impl.EnTurn, impl.EnBack}},
		{plainRow("abcd"), [4]int64{impl.EnBack, impl.EnStep, impl.EnTurn, impl.EnBack}},
		{plainRow("abcde"), [4]int64{impl.EnBack, impl.EnStep, impl.EnTurn, impl.EnBack}},
		{sameCell(mostCells, cell("ab", "")), [4]int64{impl.EnBack, impl.EnStep, impl.EnTurn, impl.EnBack}},
		{cellsBy("a?"), [4]int64{impl.EnStep, impl.EnStep, 0, 0}},
		{cellsBy("a*"), [4]int64{impl.EnStep, impl.EnStep, 0, 0}},
		{cellsBy("a?*"), [4]int64{impl.EnStep, impl.EnStep, 0, 0}},
		{cellsBy("a", "b", "c", "d?"), [4]int64{impl.EnStep, impl.EnStep, 0, 0}},
		{cellsBy("a*", "b", "c", "d", "e"), [4]int64{impl.EnStep, impl.EnStep, 0, 0}},
		{sameCell(mostCells, cell("a", "?*")), [4]int64{impl.EnStep, impl.EnStep, 0, 0}},
	} {
		for want := range int64(4) {
			if got := impl.EngineFor(c.row, want); got != c.want[want] {
				t.Errorf("EngineFor %s, %d: got %d, want %d", rowText(c.row), want, got, c.want[want])
			}
		}
	}
}

func TestEngineForEachRow(t *testing.T) {
	for _, row := range append(append(longRows(), plainRows()...), shortRows(2)...) {
		for want := range int64(4) {
			if got := impl.EngineFor(row, want); got != plainEngine(row, want) {
				t.Fatalf("EngineFor %s, %d: got %d", rowText(row), want, got)
			}
		}
		for _, want := range []int64{-1, 4, 5, -3, 256, 1<<32 + 1, 1 << 32, math.MinInt64, math.MaxInt64} {
			if got := impl.EngineFor(row, want); got != 0 {
				t.Fatalf("EngineFor %s, %d: got %d", rowText(row), want, got)
			}
		}
	}
	for _, w := range wrongRows() {
		for want := int64(-1); want <= 4; want++ {
			if got := impl.EngineFor(w.cells, want); got != 0 {
				t.Errorf("EngineFor, %s, %d: got %d", w.what, want, got)
			}
		}
	}
}

func TestScanNew(t *testing.T) {
	turns := impl.Part{Engine: impl.EnTurn, Cells: plainRow("ab"), Vec: impl.Vec{Bits: 2, Words: []int64{3}}}
	steps := impl.Part{Engine: impl.EnStep, Cells: plainRow("ab"), Vec: impl.Vec{Bits: 3, Words: []int64{1}}}
	back := impl.Part{Engine: impl.EnBack, Cells: plainRow("ab"), Next: 7}
	for _, c := range []struct {
		patterns []string
		want     int64
		from     int64
		most     int64
		scanner  impl.Scanner
	}{
		{[]string{"ab"}, 0, 5, -1, scannerOf(5, -1, turns)},
		{[]string{"ab"}, 1, 0, 0, scannerOf(0, 0, steps)},
		{[]string{"ab"}, 2, impl.MaxPos, 1, scannerOf(impl.MaxPos, 1, turns)},
		{[]string{"ab"}, 3, 7, mostCap, scannerOf(7, mostCap, back)},
		{[]string{"a?b?"}, 0, 0, -1, scannerOf(0, -1, impl.Part{Engine: impl.EnStep, Cells: cellsBy("a?", "b?"), Vec: impl.Vec{Bits: 3, Words: []int64{7}}})},
		{[]string{"ab", "a{2}", "a*"}, 0, 0, -1, scannerOf(0, -1, turns, impl.Part{Engine: impl.EnTurn, Cells: plainRow("aa"), Vec: turns.Vec}, impl.Part{Engine: impl.EnStep, Cells: cellsBy("a?*"), Vec: impl.Vec{Bits: 2, Words: []int64{3}}})},
		{[]string{"abcd", "abcd"}, 0, 9, 3, scannerOf(9, 3, impl.Part{Engine: impl.EnBack, Cells: plainRow("abcd"), Next: 9}, impl.Part{Engine: impl.EnBack, Cells: plainRow("abcd"), Next: 9})},
	} {
		what := "ScanNew " + strings.Join(c.patterns, " ")
		wantScan(t, what, impl.ScanNew(patternsOf(t, c.patterns...), c.want, c.from, c.most), impl.ScanOut{Scanner: c.scanner})
	}
}

// beginnings are the places where a stream begins, at the edges and between.
func beginnings() []int64 {
	return []int64{0, 1, 5, 31, 12345, impl.MaxPos - 100, impl.MaxPos - 1, impl.MaxPos}
}

func TestScanNewOfEachPattern(t *testing.T) {
	d := dice(81)
	for _, p := range append(rightPatterns(), meetingPatterns(2)...) {
		from, most := beginnings()[d.below(8)], int64(d.below(mostCap+2)-1)
		for want := range int64(4) {
			expect := impl.ScanOut{Code: impl.ErrState}
			if plainEngine(plainCells(p), want) != 0 {
				expect = impl.ScanOut{Scanner: plainScanner([][]impl.Atom{p}, want, from, most)}
				wantScanRight(t, "a new one", expect.Scanner, true)
			}
			wantScan(t, "ScanNew "+plainText(p)+", "+strconv.FormatInt(want, 10), impl.ScanNew([][]impl.Atom{p}, want, from, most), expect)
		}
	}
}

// refusedNew is what ScanNew refuses, and with which code.
type refusedNew struct {
	what     string
	patterns [][]impl.Atom
	want     int64
	from     int64
	most     int64
	code     int64
}

func refusedNews() []refusedNew {
	fit, not := sameAtom(2, once("a")), times("a", 0, -1)
	six := slices.Repeat([][]impl.Atom{fit}, mostParts)
	seven := append(six[:mostParts:mostParts], fit)
	all := []refusedNew{
		{"none", nil, 0, 0, -1, impl.ErrForm},
		{"no patterns", [][]impl.Atom{}, 0, 0, -1, impl.ErrForm},
		{"none, a want that is none", nil, 4, -1, -2, impl.ErrForm},
		{"seven", seven, 0, 0, -1, impl.ErrForm},
		{"seven that are not fit", slices.Repeat([][]impl.Atom{not}, mostParts+1), impl.EnBack, 0, -1, impl.ErrForm},
		{"MaxList", slices.Repeat([][]impl.Atom{fit}, impl.MaxList), 0, 0, -1, impl.ErrForm},
		{"one more than MaxList", slices.Repeat([][]impl.Atom{fit}, impl.MaxList+1), 0, 0, -1, impl.ErrSize},
		{"one more than MaxList, all else wrong", make([][]impl.Atom, impl.MaxList+1), -1, -1, -2, impl.ErrSize},
		{"one more than MaxList, not fit", slices.Repeat([][]impl.Atom{not}, impl.MaxList+1), impl.EnBack, 0, -1, impl.ErrSize},
		{"not fit for EnTurn", [][]impl.Atom{not}, impl.EnTurn, 0, -1, impl.ErrState},
		{"not fit for EnBack", [][]impl.Atom{not}, impl.EnBack, 0, -1, impl.ErrState},
		{"one cell for EnBack", [][]impl.Atom{{once("a")}}, impl.EnBack, 0, -1, impl.ErrState},
		{"the last one of six not fit", append(six[:mostParts-1:mostParts-1], not), impl.EnTurn, 0, -1, impl.ErrState},
		{"the first one of six not fit", append([][]impl.Atom{not}, six[1:]...), impl.EnBack, 0, -1, impl.ErrState},
		{"not fit, and behind it one that is not right", [][]impl.Atom{not, times("a", 2, 1)}, impl.EnTurn, 0, -1, impl.ErrForm},
	}
	for _, patterns := range [][][]impl.Atom{{fit}, {not}, six} {
		for _, want := range []int64{-1, 4, -3, 1 << 32, math.MinInt64, math.MaxInt64} {
			all = append(all, refusedNew{"want", patterns, want, 0, -1, impl.ErrForm})
		}
		for _, from := range []int64{-1, impl.MaxPos + 1, 1 << 32, math.MinInt64, math.MaxInt64} {
			all = append(all, refusedNew{"From", patterns, 0, from, -1, impl.ErrForm}, refusedNew{"From, and perhaps not fit", patterns, impl.EnBack, from, 0, impl.ErrForm})
		}
		for _, most := range []int64{-2, mostCap + 1, 1 << 32, math.MinInt64, math.MaxInt64} {
			all = append(all, refusedNew{"Cap", patterns, 0, 0, most, impl.ErrForm}, refusedNew{"Cap, and perhaps not fit", patterns, impl.EnTurn, impl.MaxPos, most, impl.ErrForm})
		}
	}
	return all
}

func TestWhatScanNewRefuses(t *testing.T) {
	for _, c := range refusedNews() {
		wantScan(t, "ScanNew, "+c.what, impl.ScanNew(c.patterns, c.want, c.from, c.most), impl.ScanOut{Code: c.code})
	}
	fit, not := sameAtom(2, once("a")), times("a", 0, -1)
	for _, w := range wrongPatterns() {
		for _, l := range [][][]impl.Atom{{w.pattern}, {fit, w.pattern}, {w.pattern, fit}, {not, w.pattern}, {fit, fit, fit, fit, fit, w.pattern}} {
			for want := range int64(4) {
				wantScan(t, "ScanNew, "+w.what, impl.ScanNew(l, want, 0, -1), impl.ScanOut{Code: impl.ErrForm})
			}
		}
	}
}

func TestFromsAndCapsOfScanNew(t *testing.T) {
	l := [][]impl.Atom{{once("a"), once("b")}, {once("c")}}
	for _, from := range beginnings() {
		for _, most := range []int64{-1, 0, 1, 2, mostCap - 1, mostCap} {
			wantScan(t, "ScanNew", impl.ScanNew(l, 0, from, most), impl.ScanOut{Scanner: plainScanner(l, 0, from, most)})
		}
	}
	for n := 1; n <= mostParts; n++ {
		l := slices.Repeat([][]impl.Atom{{once("a"), once("b")}}, n)
		for want := range int64(4) {
			wantScan(t, "ScanNew of so many", impl.ScanNew(l, want, 3, -1), impl.ScanOut{Scanner: plainScanner(l, want, 3, -1)})
		}
	}
}

// somePart throws a part that is right at a place, of any that are right there, not of those alone that come of ScanNew.
func somePart(d *dice, c []impl.Cell, engine int64, from int64, at int64) impl.Part {
	p := impl.Part{Engine: engine, Cells: c}
	n := len(c)
	switch engine {
	case impl.EnStep:
		on := new(big.Int)
		for place := range n + 1 {
			on.SetBit(on, place, uint(d.below(2)))
		}
		p.Vec = plainClosed(c, vecOf(int64(n)+1, on.Or(on, numOf(plainStart(c)))))
	case impl.EnTurn:
		on := new(big.Int)
		for i := range n {
			on.SetBit(on, i, uint(d.below(2)))
		}
		p.Vec = vecOf(int64(n), on)
	default:
		least := max(from, at-int64(n)+1)
		p.Next = least + int64(d.below(int(at+int64(n)-least)+1))
		for place := p.Next; place < at; place++ {
			class := c[place-p.Next].Class
			one := d.below(len(class))
			p.Tail += class[one : one+1]
		}
	}
	return p
}

// someScanner throws a right scanner that is open, of rows that may be any.
func someScanner(d *dice, rows [][]impl.Cell) impl.Scanner {
	s := scannerOf(int64(d.below(50)), int64(d.below(8))-1)
	s.At += int64(d.below(90))
	if s.Cap != -1 {
		s.Told = int64(d.below(int(s.Cap) + 1))
	}
	for _, c := range rows {
		engines := enginesFor(c)
		s.Parts = append(s.Parts, somePart(d, c, engines[d.below(len(engines))], s.From, s.At))
	}
	return s
}

// scanRows throws rows for a scanner, plain ones of all counts of cells among them.
func scanRows(d *dice, plain [][]impl.Cell) [][]impl.Cell {
	var rows [][]impl.Cell
	for range 1 + d.below(mostParts) {
		classes := []string{"a", "b", "ab", "\x00a", "b\xff"}
		switch d.below(5) {
		case 0:
			rows = append(rows, plain[d.below(len(plain))])
		case 1:
			rows = append(rows, repeatingRow(d, 1+d.below(8)))
		case 2:
			rows = append(rows, someClassesRow(d, 1+d.below(4), classes))
		default:
			rows = append(rows, mixedRow(d, 1+d.below(6), classes))
		}
		if last := len(rows) - 1; last > 0 && d.below(5) == 0 {
			rows[last] = rows[last-1]
		}
	}
	return rows
}

// chunkAlong throws a piece in which some of the rows may end, or none; short ones, and the empty one, among them.
func chunkAlong(d *dice, rows [][]impl.Cell) string {
	text := textAlong(d, rows)
	from := d.below(len(text) + 1)
	return text[from : from+d.below(min(len(text)-from, 60)+1)]
}

// Any right scanner goes on by the document's words, and stays right.
func TestScanWriteOfRightScanners(t *testing.T) {
	d, plain := dice(82), plainRows()
	for range 1500 {
		rows := scanRows(&d, plain)
		s := someScanner(&d, rows)
		wantScanRight(t, "any right one", s, true)
		for range 4 {
			out := wantWritten(t, s, chunkAlong(&d, rows))
			if s = out.Scanner; s.Shut != impl.ShOpen {
				break
			}
		}
	}
}

// Each Next that may be, at each place near the beginning.
func TestEachNextThatMayBe(t *testing.T) {
	d := dice(83)
	for _, row := range [][]impl.Cell{plainRow("aa"), plainRow("aba"), meetingCells(), plainRow("abab"), sameCell(7, cell("ab", ""))} {
		n := int64(len(row))
		for at := int64(3); at <= 3+n+2; at++ {
			for next := int64(0); next <= at+n+2; next++ {
				tail := textFor(&d, atomsFor(sameCell(int(max(at-next, 0)), cell("abc", ""))), 0)
				s := scannerOf(3, -1, impl.Part{Engine: impl.EnBack, Cells: row, Next: next, Tail: tail})
				s.At = at
				right := next >= 3 && next <= at+n && at-next < n
				wantScanRight(t, "Next "+strconv.FormatInt(next, 10)+" at "+strconv.FormatInt(at, 10), s, right)
				for _, chunk := range []string{"", "a", "ba", "ababab", "aaaaaaaaaaaaaaaaaaab"} {
					if right {
						wantWritten(t, s, chunk)
					} else {
						wantScan(t, "a Next that may not be", impl.ScanWrite(s, chunk), impl.ScanOut{Code: impl.ErrForm})
					}
				}
			}
		}
	}
}

// wrongScanner is a scanner that is not right, and why.
type wrongScanner struct {
	what    string
	scanner impl.Scanner
}

// openAt is a right scanner of three ways, that is at 20 of a stream from 10 on.
func openAt20() impl.Scanner {
	s := scannerOf(10, 5,
		plainPart(cellsBy("a", "b?", "c*"), impl.EnStep, 10),
		plainPart(plainRow("ab"), impl.EnTurn, 10),
		impl.Part{Engine: impl.EnBack, Cells: plainRow("abab"), Next: 18, Tail: "ab"})
	s.At, s.Told = 20, 2
	return s
}

// withPart is a right scanner but for one of its parts.
func withPart(at int, change func(p *impl.Part)) impl.Scanner {
	s := openAt20()
	change(&s.Parts[at])
	return s
}

// withCounts is a right scanner but for what is not its parts.
func withCounts(change func(s *impl.Scanner)) impl.Scanner {
	s := openAt20()
	change(&s)
	return s
}

// wrongCounts are scanners of right parts.
func wrongCounts() []wrongScanner {
	var all []wrongScanner
	add := func(what string, change func(s *impl.Scanner)) {
		all = append(all, wrongScanner{what, withCounts(change)})
	}
	for _, far := range []int64{-1, impl.MaxPos + 1, 1 << 32, 1<<32 + 15, math.MinInt64, math.MaxInt64} {
		what := strconv.FormatInt(far, 10)
		add("From "+what, func(s *impl.Scanner) { s.From = far })
		add("At "+what, func(s *impl.Scanner) { s.At = far })
		add("From and At "+what, func(s *impl.Scanner) { s.From, s.At = far, far })
		add("From, and no part that asks for it, "+what, func(s *impl.Scanner) { s.From, s.Parts = far, s.Parts[:2] })
		add("At, and no part that asks for it, "+what, func(s *impl.Scanner) { s.At, s.Parts = far, s.Parts[:2] })
		add("From and At, and no part that asks for them, "+what, func(s *impl.Scanner) { s.From, s.At, s.Parts = far, far, s.Parts[:2] })
		add("Shut "+what, func(s *impl.Scanner) { s.Shut = far })
		add("Told "+what, func(s *impl.Scanner) { s.Told = far })
		add("Told without a Cap "+what, func(s *impl.Scanner) { s.Told, s.Cap = far, -1 })
	}
	add("From above At", func(s *impl.Scanner) { s.From, s.Parts = 21, s.Parts[:2] })
	add("At below From", func(s *impl.Scanner) { s.At, s.Parts = 9, s.Parts[:2] })
	for _, most := range []int64{-2, mostCap + 1, 1 << 32, math.MinInt64, math.MaxInt64} {
		add("Cap "+strconv.FormatInt(most, 10), func(s *impl.Scanner) { s.Cap = most })
	}
	for most := range int64(3) {
		add("Told above Cap", func(s *impl.Scanner) { s.Cap, s.Told = most, most+1 })
	}
	add("Told above the greatest Cap", func(s *impl.Scanner) { s.Cap, s.Told = mostCap, mostCap+1 })
	add("Told above what may be told", func(s *impl.Scanner) { s.Cap, s.Told = -1, mostTold+1 })
	for _, shut := range []int64{4, -4, 256} {
		add("Shut "+strconv.FormatInt(shut, 10), func(s *impl.Scanner) { s.Shut = shut })
	}
	add("no parts", func(s *impl.Scanner) { s.Parts = nil })
	add("an empty list of parts", func(s *impl.Scanner) { s.Parts = s.Parts[:0] })
	for _, n := range []int{mostParts + 1, impl.MaxList, impl.MaxList + 1} {
		add(strconv.Itoa(n)+" parts", func(s *impl.Scanner) { s.Parts = slices.Repeat(s.Parts[:1], n) })
	}
	return all
}

// wrongEngines are scanners with a part that goes on in a way for which it is not fit.
func wrongEngines() []wrongScanner {
	var all []wrongScanner
	for at := range 3 {
		for _, engine := range []int64{0, -1, 4, 256, 1<<32 + 1, math.MinInt64, math.MaxInt64} {
			all = append(all, wrongScanner{"an Engine that is none", withPart(at, func(p *impl.Part) { p.Engine = engine })})
		}
		all = append(all, wrongScanner{"the zero part", withPart(at, func(p *impl.Part) { *p = impl.Part{} })})
		for _, w := range wrongRows() {
			all = append(all, wrongScanner{w.what, withPart(at, func(p *impl.Part) { p.Cells = w.cells })})
		}
	}
	for _, w := range wrongRows() {
		for engine := range int64(4) {
			n := int64(len(w.cells))
			part := impl.Part{Engine: engine, Cells: w.cells, Vec: impl.VecNew(n)}
			switch engine {
			case impl.EnStep:
				part.Vec = impl.VecNot(impl.VecNew(n + 1))
			case impl.EnBack:
				part.Vec = impl.Vec{}
			}
			all = append(all, wrongScanner{w.what + ", all else as it should be", scannerOf(0, -1, part)})
		}
	}
	for _, row := range [][]impl.Cell{cellsBy("a?"), cellsBy("a*"), cellsBy("a", "b?*"), cellsBy("a", "b", "c", "d", "e*")} {
		for _, engine := range []int64{impl.EnTurn, impl.EnBack} {
			all = append(all, wrongScanner{"cells that are not plain", scannerOf(0, -1, plainPart(row, engine, 0))})
		}
	}
	return append(all, wrongScanner{"one cell for EnBack", scannerOf(0, -1, plainPart(plainRow("a"), impl.EnBack, 0))})
}

// wrongVecParts are scanners with a part that goes on byte by byte, and stands where it may not.
func wrongVecParts() []wrongScanner {
	var all []wrongScanner
	add := func(what string, at int, change func(p *impl.Part)) {
		all = append(all, wrongScanner{what, withPart(at, change)})
	}
	for at := range 2 {
		for _, n := range []int64{-1, 1, 10, 20, math.MinInt64, math.MaxInt64} {
			add("a Next", at, func(p *impl.Part) { p.Next = n })
		}
		for _, tail := range []string{"a", "\x00", "ab"} {
			add("a Tail", at, func(p *impl.Part) { p.Tail = tail })
		}
		add("a Next and a Tail", at, func(p *impl.Part) { p.Next, p.Tail = 19, "a" })
		for _, w := range wrongVecs() {
			add("EnStep or EnTurn, "+w.what, at, func(p *impl.Part) { p.Vec = w.vec })
			n := min(max(w.vec.Bits, 2), mostCells)
			row := sameCell(int(n)-1+at, cell("a", ""))
			add("of as many bits, "+w.what, at, func(p *impl.Part) { p.Cells, p.Vec = row, w.vec })
		}
		for _, bits := range []int64{1, 2, 3, 4, 5, 32, 60, impl.MaxBits} {
			if now := openAt20().Parts[at].Vec.Bits; bits != now {
				add("Vec of another number of bits", at, func(p *impl.Part) { p.Vec = impl.VecNot(impl.VecNew(bits)) })
			}
		}
	}
	for _, c := range []struct {
		what string
		row  []impl.Cell
		on   []int
	}{
		{"no places", plainRow("ab"), nil},
		{"the place 1 alone", plainRow("ab"), []int{1}},
		{"all places but the first one", plainRow("ab"), []int{1, 2}},
		{"not closed at the beginning", cellsBy("a?", "b"), []int{0}},
		{"not closed, the end is in it", cellsBy("a?", "b"), []int{0, 2}},
		{"closed, and not the beginning", cellsBy("a?", "b"), []int{1}},
		{"not closed behind the beginning", cellsBy("a", "b?"), []int{0, 1}},
		{"not closed to the end of a run", cellsBy("a?", "b?", "c?"), []int{0, 1, 2}},
		{"not closed at the second run", cellsBy("a?", "b", "c?"), []int{0, 1, 2}},
	} {
		row, v := c.row, placesVec(len(c.row), c.on...)
		add(c.what, 0, func(p *impl.Part) { p.Cells, p.Vec = row, v })
	}
	return all
}

// wrongBackParts are scanners with a part that looks from behind, and is not where it may be.
func wrongBackParts() []wrongScanner {
	var all []wrongScanner
	add := func(what string, next int64, tail string) {
		all = append(all, wrongScanner{what, withPart(2, func(p *impl.Part) { p.Next, p.Tail = next, tail })})
	}
	add("Next below From", 9, "abababababa")
	add("Next below From, a short Tail", 9, "aba")
	add("Next far below From", math.MinInt64, "")
	add("Next 0", 0, "")
	add("Next above At and all cells", 25, "")
	add("Next far above", math.MaxInt64, "")
	add("Next far above by a word", 1<<32+20, "")
	add("as many bytes as cells", 16, "abab")
	add("more bytes than cells", 15, "ababa")
	add("no bytes, where there are as many as cells", 16, "")
	add("fewer bytes than cells, where there are as many", 16, "aba")
	add("a Tail too short", 18, "a")
	add("no Tail", 18, "")
	add("a Tail too long", 18, "aba")
	add("a Tail at At", 20, "a")
	add("a Tail above At", 22, "ab")
	add("a Tail above At, too", 21, "\x00")
	add("a Tail of MaxBytes", 18, strings.Repeat("a", impl.MaxBytes))
	add("a Tail of more than MaxBytes", 18, strings.Repeat("a", impl.MaxBytes+1))
	for _, v := range []impl.Vec{{Bits: 1, Words: []int64{0}}, {Words: []int64{0}}, {Bits: 4}, {Bits: -1}, {Bits: 4, Words: []int64{15}}, {Bits: 5, Words: []int64{1}}} {
		all = append(all, wrongScanner{"a Vec", withPart(2, func(p *impl.Part) { p.Vec = v })})
	}
	// Near From there are fewer Nexts than cells.
	short := openAt20()
	short.From, short.Parts[2].Next, short.Parts[2].Tail = 19, 18, "ab"
	return append(all, wrongScanner{"Next below a From near At", short})
}

func wrongScanners() []wrongScanner {
	all := []wrongScanner{{"the zero scanner", impl.Scanner{}}}
	return append(append(append(append(all, wrongCounts()...), wrongEngines()...), wrongVecParts()...), wrongBackParts()...)
}

// A piece that is too long is looked for ahead of a scanner that is not right, and this ahead of all else.
func TestWrongScanners(t *testing.T) {
	long := strings.Repeat("a", impl.MaxBytes+1)
	for _, w := range wrongScanners() {
		for _, shut := range []int64{w.scanner.Shut, impl.ShDone, impl.ShFull, impl.ShFar} {
			s := w.scanner
			if shut != impl.ShOpen && s.Shut == impl.ShOpen {
				s.Shut = shut
			}
			wantScanRight(t, w.what, s, false)
			for _, chunk := range []string{"", "a", long[1:]} {
				wantScan(t, "ScanWrite, "+w.what, impl.ScanWrite(s, chunk), impl.ScanOut{Code: impl.ErrForm})
			}
			wantScan(t, "ScanWrite, too long, "+w.what, impl.ScanWrite(s, long), impl.ScanOut{Code: impl.ErrSize})
			wantScan(t, "ScanClose, "+w.what, impl.ScanClose(s), impl.ScanOut{Code: impl.ErrForm})
			wantScan(t, "ScanReset, "+w.what, impl.ScanReset(s), impl.ScanOut{Code: impl.ErrForm})
		}
	}
}

// rightScanners are right at the edges that the document names.
func rightScanners() []impl.Scanner {
	one := plainPart(cellsBy("a", "b?"), impl.EnStep, 0)
	all := []impl.Scanner{
		openAt20(),
		withCounts(func(s *impl.Scanner) { s.Cap, s.Told = -1, mostTold }),
		withCounts(func(s *impl.Scanner) { s.Cap, s.Told = mostCap, mostCap }),
		withCounts(func(s *impl.Scanner) { s.Cap, s.Told = mostCap, 0 }),
		withCounts(func(s *impl.Scanner) { s.Cap, s.Told = 0, 0 }),
		withCounts(func(s *impl.Scanner) { s.From, s.Parts = 0, s.Parts[:2] }),
		withCounts(func(s *impl.Scanner) { s.From, s.Parts = 20, s.Parts[:2] }),
		withCounts(func(s *impl.Scanner) { s.From, s.At, s.Parts = impl.MaxPos, impl.MaxPos, s.Parts[:2] }),
		withCounts(func(s *impl.Scanner) { s.From, s.At, s.Parts = 0, impl.MaxPos, s.Parts[:2] }),
		scannerOf(0, -1, slices.Repeat([]impl.Part{one}, mostParts)...),
		scannerOf(0, -1, impl.Part{Engine: impl.EnBack, Cells: plainRow("ab"), Vec: impl.Vec{Words: []int64{}}}),
		scannerOf(0, -1, impl.Part{Engine: impl.EnTurn, Cells: plainRow("ab"), Vec: impl.VecNew(2)}),
		scannerOf(0, -1, impl.Part{Engine: impl.EnStep, Cells: cellsBy("a?", "b", "c?"), Vec: placesVec(3, 0, 1, 2, 3)}),
		scannerOf(0, -1, impl.Part{Engine: impl.EnStep, Cells: cellsBy("a?", "b", "c?"), Vec: placesVec(3, 0, 1, 3)}),
	}
	for _, part := range []impl.Part{
		{Next: 10}, {Next: 17, Tail: "xyz"}, {Next: 20}, {Next: 21}, {Next: 24}, {Next: 19, Tail: "\x00"}, {Next: 19, Tail: "\xff"},
	} {
		part.Engine, part.Cells = impl.EnBack, plainRow("abab")
		s := scannerOf(10, -1, part)
		s.At = max(part.Next-4, 10, min(20, part.Next+int64(len(part.Tail))))
		all = append(all, s)
	}
	for _, engine := range []int64{impl.EnStep, impl.EnTurn, impl.EnBack} {
		all = append(all, scannerOf(impl.MaxPos, 0, plainPart(sameCell(mostCells, cell(allBytes(), "")), engine, impl.MaxPos)))
	}
	return all
}

func TestRightScanners(t *testing.T) {
	for _, s := range rightScanners() {
		for shut := range int64(4) {
			s.Shut = shut
			wantScanRight(t, "at an edge", s, true)
		}
		if s.Shut = impl.ShOpen; s.At < impl.MaxPos-100 && s.Told < mostCap {
			wantWritten(t, s, "ab\x00\xffabcababa")
		}
	}
}

// beganAgain is the scanner with which one began, by the document's words.
func beganAgain(s impl.Scanner) impl.Scanner {
	out := scannerOf(s.From, s.Cap)
	for _, p := range s.Parts {
		out.Parts = append(out.Parts, plainPart(p.Cells, p.Engine, s.From))
	}
	return out
}

// wantShut tells what is told by who is shut, till it is reset (promise 13).
func wantShut(t *testing.T, s impl.Scanner, code int64) {
	t.Helper()
	wantScanRight(t, "shut", s, true)
	for range 2 {
		for _, chunk := range []string{"", "a", "abab", strings.Repeat("b", impl.MaxBytes)} {
			wantScan(t, "ScanWrite, shut", impl.ScanWrite(s, chunk), impl.ScanOut{Code: code})
		}
		wantScan(t, "ScanWrite of too long a piece, shut", impl.ScanWrite(s, strings.Repeat("b", impl.MaxBytes+1)), impl.ScanOut{Code: impl.ErrSize})
		wantScan(t, "ScanClose, shut", impl.ScanClose(s), impl.ScanOut{Code: code})
	}
	wantScan(t, "ScanReset, shut", impl.ScanReset(s), impl.ScanOut{Scanner: beganAgain(s)})
}

func TestWhoIsShutTellsSo(t *testing.T) {
	d, plain := dice(84), plainRows()
	scanners := rightScanners()
	for range 200 {
		scanners = append(scanners, someScanner(&d, scanRows(&d, plain)))
	}
	for _, s := range scanners {
		for _, shut := range [][2]int64{{impl.ShDone, impl.ErrState}, {impl.ShFull, impl.ErrFull}, {impl.ShFar, impl.ErrRange}} {
			s.Shut = shut[0]
			wantShut(t, s, shut[1])
		}
	}
}

func TestScanClose(t *testing.T) {
	d, plain := dice(85), plainRows()
	scanners := rightScanners()
	for range 200 {
		scanners = append(scanners, someScanner(&d, scanRows(&d, plain)))
	}
	for _, s := range scanners {
		done := s
		done.Shut = impl.ShDone
		got := impl.ScanClose(s)
		wantScan(t, "ScanClose", got, impl.ScanOut{Scanner: done})
		wantShut(t, got.Scanner, impl.ErrState)
		wantScan(t, "ScanReset", impl.ScanReset(s), impl.ScanOut{Scanner: beganAgain(s)})
	}
}

// The whole of a scanner's way: each is shut by its own fault, tells so, and begins again.
func TestFromOpenToShutAndBack(t *testing.T) {
	l := patternsOf(t, "ab", "b*", "aba")
	for want := range int64(2) {
		first := impl.ScanNew(l, want, impl.MaxPos-6, 3)
		again := func(s impl.Scanner) impl.Scanner {
			reset := impl.ScanReset(s)
			wantScan(t, "ScanReset", reset, first)
			return reset.Scanner
		}
		full := wantWritten(t, first.Scanner, "abab")
		wantHits(t, "of the first three", full.Hits, hitsOf([2]int64{impl.MaxPos - 4, 0}, [2]int64{impl.MaxPos - 4, 1}, [2]int64{impl.MaxPos - 3, 2}))
		wantShut(t, full.Scanner, impl.ErrFull)
		s := wantWritten(t, again(full.Scanner), "aab").Scanner
		far := s
		far.Shut = impl.ShFar
		wantScan(t, "one byte too far", impl.ScanWrite(s, "xxxx"), impl.ScanOut{Scanner: far, Code: impl.ErrRange})
		wantShut(t, impl.ScanWrite(s, "xxxx").Scanner, impl.ErrRange)
		s = wantWritten(t, again(impl.ScanWrite(s, "xxxx").Scanner), "cccccc").Scanner
		done := impl.ScanClose(s).Scanner
		wantShut(t, done, impl.ErrState)
		again(done)
		again(s)
		again(first.Scanner)
	}
}

// wantTooFar tells that a piece goes too far by one byte, and that the one that is shorter by that goes on.
func wantTooFar(t *testing.T, s impl.Scanner, just string) {
	t.Helper()
	far := s
	far.Shut = impl.ShFar
	for _, more := range []string{"a", "b", "ab"} {
		got := impl.ScanWrite(s, just+more)
		wantScan(t, "too far", got, impl.ScanOut{Scanner: far, Code: impl.ErrRange})
		wantShut(t, got.Scanner, impl.ErrRange)
	}
	end := wantWritten(t, s, just)
	if end.Scanner.At != impl.MaxPos || end.Scanner.Shut != impl.ShOpen {
		t.Fatalf("just to MaxPos: got %s", scanText(end))
	}
	wantWritten(t, end.Scanner, "")
	wantScan(t, "behind MaxPos, an empty piece", impl.ScanWrite(end.Scanner, ""), impl.ScanOut{Scanner: end.Scanner})
	far = end.Scanner
	far.Shut = impl.ShFar
	wantScan(t, "behind MaxPos", impl.ScanWrite(end.Scanner, "a"), impl.ScanOut{Scanner: far, Code: impl.ErrRange})
}

func TestPiecesThatGoToMaxPos(t *testing.T) {
	for want := range int64(4) {
		for _, from := range []int64{0, impl.MaxPos - 50, impl.MaxPos - 3, impl.MaxPos - 1, impl.MaxPos} {
			l := patternsOf(t, "ab", "aa")
			s := impl.ScanNew(l, want, from, -1).Scanner
			if from == 0 {
				s.At = impl.MaxPos - 2
				for i, p := range s.Parts {
					if p.Engine == impl.EnBack {
						s.Parts[i].Next, s.Parts[i].Tail = s.At-1, "a"
					}
				}
			}
			wantTooFar(t, s, strings.Repeat("ab", impl.MaxPos)[:impl.MaxPos-s.At])
		}
	}
	// A piece that is too long is too long wherever it is.
	s := impl.ScanNew(patternsOf(t, "ab"), 0, impl.MaxPos, -1).Scanner
	wantScan(t, "too long and too far", impl.ScanWrite(s, strings.Repeat("a", impl.MaxBytes+1)), impl.ScanOut{Code: impl.ErrSize})
	far := s
	far.Shut = impl.ShFar
	wantScan(t, "MaxBytes too far", impl.ScanWrite(s, strings.Repeat("a", impl.MaxBytes)), impl.ScanOut{Scanner: far, Code: impl.ErrRange})
}

// movedHits are the hits by their meaning, moved by where the stream begins; with a cap the first of them.
func movedHits(l [][]impl.Atom, text string, from int64, most int64) (hits []impl.Hit, more bool) {
	for _, hit := range impl.HitsOf(l, text) {
		hits = append(hits, impl.Hit{End: hit.End + from, Pattern: hit.Pattern})
	}
	if most != -1 && int64(len(hits)) > most {
		return hits[:most], true
	}
	return hits, false
}

// wantStream lets pieces come by, and holds what is told, put together, against what they mean as a whole (promise
// 12), and each scanner that is handed back against what a right one is (promise 13).
func wantStream(t *testing.T, l [][]impl.Atom, want int64, from int64, most int64, pieces []string) {
	t.Helper()
	first := impl.ScanNew(l, want, from, most)
	s, text, told := first.Scanner, strings.Join(pieces, ""), []impl.Hit(nil)
	hits, more := movedHits(l, text, from, most)
	what := strings.Join(pieces, "|")
	for i, piece := range pieces {
		out := impl.ScanWrite(s, piece)
		if s.Shut == impl.ShFull {
			wantScan(t, "shut on the way", out, impl.ScanOut{Code: impl.ErrFull})
			continue
		}
		s = out.Scanner
		if out.Code != impl.OK || !impl.ScanRight(s) || s.At != from+int64(len(strings.Join(pieces[:i+1], ""))) {
			t.Fatalf("%q: got %s", what, scanText(out))
		}
		if piece == "" && len(out.Hits) > 0 {
			t.Fatalf("%q: an empty piece told %v", what, out.Hits)
		}
		told = append(told, out.Hits...)
	}
	if !slices.Equal(told, hits) || s.Told != int64(len(hits)) || (s.Shut == impl.ShFull) != more {
		t.Fatalf("%q, cap %d, from %d:\ngot %v, %s\nwant %v", what, most, from, told, scanText(impl.ScanOut{Scanner: s}), hits)
	}
	wantScan(t, "ScanReset", impl.ScanReset(s), first)
}

// fitWants are the wants for which all patterns are fit.
func fitWants(l [][]impl.Atom) []int64 {
	var out []int64
	for want := range int64(4) {
		if !slices.ContainsFunc(l, func(p []impl.Atom) bool { return plainEngine(plainCells(p), want) == 0 }) {
			out = append(out, want)
		}
	}
	return out
}

// cuts holds each way to cut a short text into pieces that are not empty.
func cuts(text string) [][]string {
	if text == "" {
		return [][]string{nil}
	}
	var all [][]string
	for size := 1; size <= len(text); size++ {
		for _, rest := range cuts(text[size:]) {
			all = append(all, append([]string{text[:size]}, rest...))
		}
	}
	return all
}

// someCut throws a way to cut a text, empty pieces among them.
func someCut(d *dice, text string) []string {
	var out []string
	for most := 1 + d.below(12); text != "" || d.below(2) == 0; {
		size := d.below(min(most, len(text)) + 1)
		out, text = append(out, text[:size]), text[size:]
	}
	return out
}

// scanPatterns are lists of patterns to scan for: plain ones, such that mean the empty text, several alike.
func scanPatterns(t *testing.T) [][][]impl.Atom {
	var all [][][]impl.Atom
	for _, texts := range []string{"a", "ab", "aa", "aba", "abab", "aaaa", "[ab][bc].b", `\x00\xff`, "a?", "a*", "a?b?", "a*b*a*", ".", ".*", "...",
		"a+b", "ab?a", "[ab]{2,3}", "a ab b", "ab aba abab", "aa aaa aaaa", "ab ab ab ab ab ab", "a b . a* b? ab", "abab ba baab [ab]{4}", "a* b*", "bab a?b?a? [ab]{5}",
		"aa ab ba bb", "a{3} [ab]{3} .{3} aab baa", `[\x00a]b [b\xff]a`} {
		all = append(all, patternsOf(t, strings.Split(texts, " ")...))
	}
	return all
}

func TestHoweverAShortTextIsCut(t *testing.T) {
	texts := []string{"", "a", "b", "ab", "aba", "abab", "aaaaa", "ababa", "babab", "aabab", "bbabaa", "ababab", "\x00\xffab\x00", "cabcba"}
	for i, l := range scanPatterns(t) {
		for _, want := range fitWants(l) {
			for j, text := range texts {
				for _, pieces := range cuts(text) {
					wantStream(t, l, want, beginnings()[(i+j)%6], -1, pieces)
				}
			}
		}
	}
}

func TestHoweverATextIsCut(t *testing.T) {
	d, lists := dice(86), scanPatterns(t)
	right, meeting := rightPatterns(), meetingPatterns(2)
	for i := range 200 {
		var l [][]impl.Atom
		for range 1 + d.below(mostParts) {
			l = append(l, meeting[d.below(len(meeting))])
		}
		// Full classes are long to look through, piece by piece.
		if i%2 == 0 {
			l[d.below(len(l))] = right[d.below(len(right))]
		}
		lists = append(lists, l)
	}
	for _, l := range lists {
		var rows [][]impl.Cell
		for _, p := range l {
			rows = append(rows, plainCells(p))
		}
		text := chunkAlong(&d, rows) + textAlong(&d, rows)
		text = text[:min(len(text), 90)]
		for _, want := range fitWants(l) {
			from := beginnings()[d.below(5)]
			wantStream(t, l, want, from, -1, []string{text})
			wantStream(t, l, want, from, -1, strings.Split(text, ""))
			wantStream(t, l, want, from, -1, someCut(&d, text))
			wantStream(t, l, want, from, int64(d.below(12)), someCut(&d, text))
		}
	}
}

// plainLists are lists of plain patterns of all counts of atoms, whose windows begin in one piece and end in another.
func plainLists(d *dice) [][][]impl.Atom {
	var all [][][]impl.Atom
	for n := 1; n <= 40; n++ {
		var l [][]impl.Atom
		for range 1 + d.below(mostParts) {
			var p []impl.Atom
			for left := n; left > 0; left -= int(p[len(p)-1].Least) {
				size := int64(1 + d.below(min(left, 20)))
				if len(p) == impl.MaxAtoms-2 {
					size = int64(min(left, 20))
				}
				class := []string{"a", "b", "ab", "\x00a", "b\xff"}[d.below(5)]
				p = append(p, impl.Atom{Class: class, Least: size, Most: size})
			}
			if impl.PatternRight(p) {
				l = append(l, p)
			}
		}
		if len(l) > 0 {
			all = append(all, l)
		}
	}
	return all
}

func TestHoweverPlainPatternsAreGoneThrough(t *testing.T) {
	d := dice(87)
	for range 3 {
		for _, l := range plainLists(&d) {
			p := l[d.below(len(l))]
			text := textFor(&d, p, 0) + textFor(&d, p, 0)[d.below(len(textFor(&d, p, 0))):] + "a" + textFor(&d, p, 0)
			for _, want := range fitWants(l) {
				wantStream(t, l, want, 7, -1, []string{text})
				wantStream(t, l, want, 0, -1, strings.Split(text, ""))
				wantStream(t, l, want, 3, -1, someCut(&d, text))
				wantStream(t, l, want, 3, int64(d.below(5)), someCut(&d, text))
			}
		}
	}
}

// Whichever way it is gone through, and wherever it is cut, the same is told; and so is where it stands then.
func TestTheSameScannerHoweverItIsCut(t *testing.T) {
	d := dice(88)
	for _, l := range scanPatterns(t) {
		for _, want := range fitWants(l) {
			text := "abab\x00\xffbaabababbaaaab"
			first := impl.ScanNew(l, want, 100, -1).Scanner
			whole := wantWritten(t, first, text)
			for range 10 {
				s := first
				for _, piece := range someCut(&d, text) {
					s = wantWritten(t, s, piece).Scanner
				}
				wantScan(t, "cut", impl.ScanOut{Scanner: s}, impl.ScanOut{Scanner: whole.Scanner})
			}
		}
	}
}

func TestScanWrite(t *testing.T) {
	for _, c := range []struct {
		patterns []string
		want     int64
		pieces   []string
		hits     [][][2]int64
	}{
		{[]string{"ab"}, 0, []string{"a", "b"}, [][][2]int64{nil, {{7, 0}}}},
		{[]string{"ab"}, 1, []string{"ab", "", "ab"}, [][][2]int64{{{7, 0}}, nil, {{9, 0}}}},
		{[]string{"ab"}, 3, []string{"xa", "b", "bab"}, [][][2]int64{nil, {{8, 0}}, {{11, 0}}}},
		{[]string{"a"}, 0, []string{"", "aa", "b", "a"}, [][][2]int64{nil, {{6, 0}, {7, 0}}, nil, {{9, 0}}}},
		{[]string{"a*"}, 0, []string{"", "b", "a", "aab"}, [][][2]int64{nil, nil, {{7, 0}}, {{8, 0}, {9, 0}}}},
		{[]string{"b", "a", "b"}, 0, []string{"ab", "ba"}, [][][2]int64{{{6, 1}, {7, 0}, {7, 2}}, {{8, 0}, {8, 2}, {9, 1}}}},
		{[]string{"abab", ".b", "b?"}, 0, []string{"aba", "bab"}, [][][2]int64{{{7, 1}, {7, 2}}, {{9, 0}, {9, 1}, {9, 2}, {11, 0}, {11, 1}, {11, 2}}}},
		{[]string{"aaaa"}, 3, []string{"aaa", "a", "a", "ab", "aaaa"}, [][][2]int64{nil, {{9, 0}}, {{10, 0}}, {{11, 0}}, {{16, 0}}}},
		{[]string{`\x00\xff`, `\xff`, `[\x00]`}, 0, []string{"\x00", "\xff\x00", "\xff"}, [][][2]int64{{{6, 2}}, {{7, 0}, {7, 1}, {8, 2}}, {{9, 0}, {9, 1}}}},
		{[]string{"a", "a", "a", "a", "a", "a"}, 0, []string{"a", "ba"}, [][][2]int64{{{6, 0}, {6, 1}, {6, 2}, {6, 3}, {6, 4}, {6, 5}}, {{8, 0}, {8, 1}, {8, 2}, {8, 3}, {8, 4}, {8, 5}}}},
	} {
		s := impl.ScanNew(patternsOf(t, c.patterns...), c.want, 5, -1).Scanner
		for i, piece := range c.pieces {
			out := wantWritten(t, s, piece)
			wantHits(t, strings.Join(c.patterns, " ")+" along "+strings.Join(c.pieces, "|"), out.Hits, hitsOf(c.hits[i]...))
			s = out.Scanner
		}
	}
}

func TestWhatIsKeptOfWhatCameBy(t *testing.T) {
	for _, c := range []struct {
		row    string
		pieces []string
		next   []int64
		tails  []string
	}{
		{"ab", []string{"xxa", "", "x", "ab", "b"}, []int64{2, 2, 4, 6, 6}, []string{"a", "a", "", "", "b"}},
		{"abcd", []string{"a", "b", "c", "d", "x"}, []int64{0, 0, 0, 4, 4}, []string{"a", "ab", "abc", "", "x"}},
		{"abab", []string{"xab", "a", "xyz", "aba"}, []int64{0, 1, 5, 7}, []string{"xab", "aba", "yz", "aba"}},
		{"aaaa", []string{"aaa", "a", "b", "aa"}, []int64{0, 1, 5, 5}, []string{"aaa", "aaa", "", "aa"}},
		{"aa", []string{"aaaa"}, []int64{3}, []string{"a"}},
		{"ba", []string{"aaaab", "b"}, []int64{4, 5}, []string{"b", "b"}},
	} {
		s := scannerOf(0, -1, plainPart(plainRow(c.row), impl.EnBack, 0))
		for i, piece := range c.pieces {
			s = wantWritten(t, s, piece).Scanner
			if p := s.Parts[0]; p.Next != c.next[i] || p.Tail != c.tails[i] {
				t.Errorf("%s behind %v: got Next %d, Tail %q, want %d, %q", c.row, c.pieces[:i+1], p.Next, p.Tail, c.next[i], c.tails[i])
			}
		}
	}
	// As much is kept as may be, and not one byte more.
	for n := 2; n <= mostCells; n++ {
		row := append(sameCell(n-1, cell("a", "")), cell("b", ""))
		as := strings.Repeat("a", n-1)
		s := wantWritten(t, scannerOf(0, -1, plainPart(row, impl.EnBack, 0)), "b"+as+"aaaaa"+as).Scanner
		if p := s.Parts[0]; p.Tail != as || p.Next != s.At-int64(n)+1 {
			t.Errorf("%d cells: got Next %d, Tail %q", n, p.Next, p.Tail)
		}
		wantHits(t, "the last byte of a window", wantWritten(t, s, "b").Hits, hitsOf([2]int64{s.At + 1, 0}))
	}
}

func TestCaps(t *testing.T) {
	for _, c := range []struct {
		patterns []string
		most     int64
		pieces   []string
		told     []int64
		full     []bool
	}{
		{[]string{"a"}, 0, []string{"", "b", "a"}, []int64{0, 0, 0}, []bool{false, false, true}},
		{[]string{"a"}, 1, []string{"ba", "", "b", "ba"}, []int64{1, 1, 1, 1}, []bool{false, false, false, true}},
		{[]string{"a"}, 1, []string{"aa"}, []int64{1}, []bool{true}},
		{[]string{"a"}, 1, []string{"baaab"}, []int64{1}, []bool{true}},
		{[]string{"a"}, 3, []string{"aa", "a", "b", "a"}, []int64{2, 3, 3, 3}, []bool{false, false, false, true}},
		{[]string{"a"}, 3, []string{"aa", "aaa"}, []int64{2, 3}, []bool{false, true}},
		{[]string{"a", "a"}, 1, []string{"a"}, []int64{1}, []bool{true}},
		{[]string{"a", "a"}, 2, []string{"a", "b"}, []int64{2, 2}, []bool{false, false}},
		{[]string{"a", "a"}, 3, []string{"a", "a"}, []int64{2, 3}, []bool{false, true}},
		{[]string{"b", "a", "ab", "a"}, 3, []string{"aab"}, []int64{3}, []bool{true}},
		{[]string{"a", "b", "b", "b", "b", "b"}, 3, []string{"ab"}, []int64{3}, []bool{true}},
		{[]string{"ab"}, 1, []string{"ab", "a", "b"}, []int64{1, 1, 1}, []bool{false, false, true}},
		{[]string{"a*"}, mostCap, []string{strings.Repeat("a", mostCap), "b", "a"}, []int64{mostCap, mostCap, mostCap}, []bool{false, false, true}},
		{[]string{"a"}, mostCap, []string{strings.Repeat("a", mostCap-1), "aa"}, []int64{mostCap - 1, mostCap}, []bool{false, true}},
		{[]string{"a"}, mostCap, []string{strings.Repeat("a", impl.MaxBytes)}, []int64{mostCap}, []bool{true}},
		{[]string{"a"}, -1, []string{strings.Repeat("a", mostCap), "a"}, []int64{mostCap, mostCap + 1}, []bool{false, false}},
	} {
		l := patternsOf(t, c.patterns...)
		for _, want := range fitWants(l) {
			s := impl.ScanNew(l, want, 2, c.most).Scanner
			for i, piece := range c.pieces {
				s = wantWritten(t, s, piece).Scanner
				if s.Told != c.told[i] || (s.Shut == impl.ShFull) != c.full[i] {
					t.Fatalf("%v, cap %d, piece %d: got %s", c.patterns, c.most, i, scanText(impl.ScanOut{Scanner: s}))
				}
			}
			if s.Shut == impl.ShFull {
				wantShut(t, s, impl.ErrFull)
			}
		}
	}
}

// Each cap from none up to more than there are, whole and byte by byte.
func TestEachCap(t *testing.T) {
	for _, l := range scanPatterns(t) {
		text := "ababbaaab"
		for most := range int64(len(impl.HitsOf(l, text)) + 2) {
			for _, want := range fitWants(l) {
				wantStream(t, l, want, 11, most, []string{text})
				wantStream(t, l, want, 11, most, strings.Split(text, ""))
				wantStream(t, l, want, 11, most, []string{text[:4], "", text[4:]})
			}
		}
	}
}

// What is full went through the whole piece all the same.
func TestWhoIsFullIsWhereThePieceEnds(t *testing.T) {
	s := impl.ScanNew(patternsOf(t, "a", "abab", "b?"), 0, 0, 1).Scanner
	got := impl.ScanWrite(s, "aabab")
	wantScan(t, "full", got, plainWrite(s, "aabab"))
	if got.Scanner.At != 5 || got.Scanner.Shut != impl.ShFull || got.Scanner.Told != 1 {
		t.Fatalf("got %s", scanText(got))
	}
	if p := got.Scanner.Parts[1]; p.Next != 3 || p.Tail != "ab" {
		t.Fatalf("got Next %d, Tail %q", p.Next, p.Tail)
	}
}

func TestPiecesAtTheLimit(t *testing.T) {
	full := strings.Repeat("a", impl.MaxBytes)
	for _, texts := range [][]string{{"ab"}, {"aaab", "b"}, {"a{20}b", "[ab]b"}, {"a*b", "ab?b"}, {"b", "b", "b", "b", "b", "b"}} {
		l := patternsOf(t, texts...)
		for _, want := range fitWants(l) {
			s := impl.ScanNew(l, want, 1, -1).Scanner
			wantHits(t, "at the last byte of MaxBytes", impl.ScanWrite(s, full[1:]+"b").Hits, hitsOfEach(impl.MaxBytes+1, int64(len(l))))
			out := impl.ScanWrite(s, full)
			wantHits(t, "none in MaxBytes", out.Hits, nil)
			wantHits(t, "behind MaxBytes", impl.ScanWrite(out.Scanner, "b").Hits, hitsOfEach(impl.MaxBytes+2, int64(len(l))))
			for _, long := range []string{full + "b", "b" + full, full + full} {
				wantScan(t, "one more", impl.ScanWrite(s, long), impl.ScanOut{Code: impl.ErrSize})
			}
			for _, piece := range []string{full, someBytes(impl.MaxBytes), strings.Repeat("aab", impl.MaxBytes)[:impl.MaxBytes]} {
				wantStream(t, l, want, 0, -1, []string{piece})
				wantStream(t, l, want, 0, -1, []string{piece[:4000], piece[4000:]})
				wantStream(t, l, want, 0, mostCap, []string{piece[:999], "", piece[999:1001], piece[1001:]})
			}
		}
	}
}

// A stream of as many bytes as may be, with hits where pieces meet, and within them.
func TestStreamsFromTheBeginningToMaxPos(t *testing.T) {
	piece := "b" + strings.Repeat("abcx", 100) + strings.Repeat("x", impl.MaxBytes-403) + "ca"
	l := patternsOf(t, "abca", "ab", "cab", "[ab]{2}a")
	var ends [][]int64
	whole := strings.Repeat(piece, impl.MaxPos/impl.MaxBytes)
	for _, p := range l {
		ends = append(ends, endsByWindows(plainCells(p), whole))
	}
	hits := hitsOfEnds(ends)
	for want := range int64(4) {
		s, told := impl.ScanNew(l, want, 0, -1).Scanner, []impl.Hit(nil)
		for range impl.MaxPos / impl.MaxBytes {
			out := impl.ScanWrite(s, piece)
			s, told = out.Scanner, append(told, out.Hits...)
		}
		if !slices.Equal(told, hits) || s.At != impl.MaxPos || s.Told != int64(len(hits)) {
			t.Fatalf("want %d: got %d hits, want %d, %s", want, len(told), len(hits), scanText(impl.ScanOut{Scanner: s}))
		}
		wantTooFar(t, s, "")
	}
}

// Without a cap all hits are told and counted, those too that are more than a right scanner may have told.
func TestMoreHitsThanMayBeTold(t *testing.T) {
	l := slices.Repeat(patternsOf(t, "a"), mostParts)
	s := impl.ScanNew(l, 0, 0, -1).Scanner
	full := strings.Repeat("a", impl.MaxBytes)
	just := impl.ScanWrite(s, full[:mostTold/mostParts]).Scanner
	wantScanRight(t, "39996 told", just, true)
	just = impl.ScanWrite(just, "").Scanner
	wantScanRight(t, "39996 told, and none", just, true)
	out := impl.ScanWrite(s, full)
	if out.Code != impl.OK || len(out.Hits) != mostParts*impl.MaxBytes || out.Scanner.Told != mostParts*impl.MaxBytes || out.Scanner.Shut != impl.ShOpen {
		t.Fatalf("got %s", scanText(out))
	}
	wantScan(t, "what is no right scanner any more", impl.ScanWrite(out.Scanner, ""), impl.ScanOut{Code: impl.ErrForm})
}

// roomyScanner is a copy of a scanner in which each list has something behind it that no call may touch.
func roomyScanner(s impl.Scanner) impl.Scanner {
	parts := slices.Clone(s.Parts)
	for i, p := range parts {
		parts[i].Cells, parts[i].Vec = roomyCells(p.Cells), roomyVec(p.Vec)
	}
	s.Parts = append(parts, impl.Part{Engine: 99, Tail: "guard"})[:len(parts)]
	return s
}

func wantRoomyScanner(t *testing.T, what string, got impl.Scanner, want impl.Scanner) {
	t.Helper()
	if !sameScanner(got, want) || !samePart(got.Parts[:len(got.Parts)+1][len(got.Parts)], impl.Part{Engine: 99, Tail: "guard"}) {
		t.Fatalf("%s: a call changed %s", what, scanText(impl.ScanOut{Scanner: want}))
	}
	for i, p := range got.Parts {
		wantRoomyVec(t, what, p.Vec, want.Parts[i].Vec)
		if p.Cells[:len(p.Cells)+1][len(p.Cells)] != cell("guard", "?") {
			t.Fatalf("%s: a call changed what is behind the cells", what)
		}
	}
}

func TestScannersHandedInAreNotChanged(t *testing.T) {
	d, plain := dice(89), plainRows()
	all := wrongScanners()
	for _, s := range rightScanners() {
		all = append(all, wrongScanner{"right", s})
	}
	for range 200 {
		all = append(all, wrongScanner{"any right one", someScanner(&d, scanRows(&d, plain))})
	}
	for _, w := range all {
		s := roomyScanner(w.scanner)
		for shut := range int64(4) {
			s.Shut = shut
			impl.ScanRight(s)
			impl.ScanWrite(s, "abba\x00abab")
			impl.ScanWrite(s, strings.Repeat("ab", 4000))
			impl.ScanClose(s)
			impl.ScanReset(s)
		}
		s.Shut = w.scanner.Shut
		wantRoomyScanner(t, w.what, s, w.scanner)
	}
	for _, p := range rightPatterns() {
		given := [][]impl.Atom{roomy(p), roomy(p)}
		for want := range int64(4) {
			impl.ScanNew(given, want, 0, -1)
		}
		for _, got := range given {
			if !slices.Equal(got[:len(p)+1], append(slices.Clone(p), impl.Atom{Class: "guard", Least: 7, Most: 9})) {
				t.Fatalf("ScanNew changed the pattern %s", plainText(p))
			}
		}
	}
}

// scribbleScan writes over all that an answer may reach: in each list what no other list of it holds.
func scribbleScan(out impl.ScanOut) {
	for i, p := range out.Scanner.Parts {
		cells, words := p.Cells[:cap(p.Cells)], p.Vec.Words[:cap(p.Vec.Words)]
		for at := range cells {
			cells[at] = cell(strconv.Itoa(i), "?*")
		}
		for at := range words {
			words[at] = int64(-1 - i)
		}
	}
	for at := range out.Hits[:cap(out.Hits)] {
		out.Hits[:cap(out.Hits)][at] = impl.Hit{End: -77, Pattern: -77}
	}
}

func wantScribbledScan(t *testing.T, out impl.ScanOut) {
	t.Helper()
	for i, p := range out.Scanner.Parts {
		if slices.ContainsFunc(p.Cells, func(c impl.Cell) bool { return c.Class != strconv.Itoa(i) }) {
			t.Fatal("two rows of an answer share memory")
		}
		if slices.ContainsFunc(p.Vec.Words, func(w int64) bool { return w != int64(-1-i) }) {
			t.Fatal("two vectors of an answer share memory")
		}
	}
}

// wantNewTexts tells that no text of a scanner is memory of a piece, of one handed in, or of another of its texts.
func wantNewTexts(t *testing.T, got impl.Scanner, given impl.Scanner, more ...string) {
	t.Helper()
	texts := func(s impl.Scanner) []string {
		var out []string
		for _, p := range s.Parts {
			out = append(out, p.Tail)
			for _, c := range p.Cells {
				out = append(out, c.Class)
			}
		}
		return out
	}
	mine := texts(got)
	for i, text := range mine {
		for _, other := range append(append(texts(given), more...), mine[:i]...) {
			if text != "" && sharesMemory(other, text) {
				t.Fatalf("%q of an answer shares memory", text)
			}
		}
	}
}

func TestScannersAreNewMemory(t *testing.T) {
	d, plain := dice(90), plainRows()
	for range 250 {
		rows := scanRows(&d, plain)
		was := someScanner(&d, rows)
		given := roomyScanner(was)
		piece := strings.Clone(chunkAlong(&d, rows))
		far := strings.Repeat("a", impl.MaxBytes)
		high := given
		high.At = impl.MaxPos - 1
		high.Parts = slices.DeleteFunc(slices.Clone(given.Parts), func(p impl.Part) bool { return p.Engine == impl.EnBack })
		for _, answer := range []func() impl.ScanOut{
			func() impl.ScanOut { return impl.ScanWrite(given, piece) },
			func() impl.ScanOut { return impl.ScanWrite(given, "") },
			func() impl.ScanOut { return impl.ScanWrite(high, far) },
			func() impl.ScanOut { return impl.ScanClose(given) },
			func() impl.ScanOut { return impl.ScanReset(given) },
		} {
			first, second := answer(), answer()
			wantScan(t, "twice", second, first)
			wantNewTexts(t, first.Scanner, given, piece)
			scribbleScan(first)
			wantScribbledScan(t, first)
			wantScan(t, "thrice", answer(), second)
			wantRoomyScanner(t, "an answer", given, was)
			clear(first.Scanner.Parts[:cap(first.Scanner.Parts)])
			wantRoomyScanner(t, "an answer", given, was)
		}
	}
}

func TestNewScannersAreNewMemory(t *testing.T) {
	for _, p := range rightPatterns() {
		l := slices.Repeat([][]impl.Atom{p}, 3)
		first := impl.ScanNew(l, 0, 5, -1)
		var classes []string
		for _, a := range p {
			classes = append(classes, a.Class)
		}
		wantNewTexts(t, first.Scanner, impl.Scanner{}, classes...)
		scribbleScan(first)
		wantScribbledScan(t, first)
		wantScan(t, "ScanNew, again", impl.ScanNew(l, 0, 5, -1), impl.ScanOut{Scanner: plainScanner(l, 0, 5, -1)})
	}
}

// A scanner that was handed in may be gone on with again: nothing is kept from one call to the next.
func TestOneScannerMayGoTwoWays(t *testing.T) {
	for want := range int64(4) {
		s := impl.ScanNew(patternsOf(t, "abab", "aba"), want, 0, 2).Scanner
		s = impl.ScanWrite(s, "ab").Scanner
		for range 2 {
			wantHits(t, "one way", wantWritten(t, s, "ab").Hits, hitsOf([2]int64{3, 1}, [2]int64{4, 0}))
			wantHits(t, "the other way", wantWritten(t, s, "bab").Hits, nil)
			wantHits(t, "closed", impl.ScanClose(s).Hits, nil)
			wantHits(t, "and the first one", wantWritten(t, s, "abab").Hits, hitsOf([2]int64{3, 1}, [2]int64{4, 0}))
		}
	}
}

// What one scanner is told of must be seen by no other, though they are asked at once.
func TestScannersAreAskedInTurn(t *testing.T) {
	text := strings.Repeat("abba", 600)
	askInTurn(longRows()[:160], func(row []impl.Cell) {
		s := scannerOf(0, -1, plainPart(row, impl.EnStep, 0), plainPart(plainRow("abba"), impl.EnBack, 0))
		var told []impl.Hit
		for _, piece := range []string{text[:1], text[1:1300], text[1300:]} {
			out := impl.ScanWrite(s, piece)
			s, told = out.Scanner, append(told, out.Hits...)
		}
		if want := hitsAlone([][]impl.Cell{row, plainRow("abba")}, text); !slices.Equal(told, want) {
			t.Errorf("ScanWrite %s: got %d hits, want %d", rowText(row), len(told), len(want))
		}
	})
}

// settles waits a little till no more goroutines run than there were: one that told that it is over may still be ending.
func settles(most int) bool {
	for range 200 {
		if runtime.NumGoroutine() <= most {
			return true
		}
		time.Sleep(time.Millisecond)
	}
	return false
}

func TestNoGoroutineOutlivesItsCall(t *testing.T) {
	before := runtime.NumGoroutine()
	s := impl.ScanNew(patternsOf(t, "ab", "a*"), 0, 0, 5).Scanner
	for _, chunk := range []string{"", "a", strings.Repeat("ab", 4000), strings.Repeat("a", impl.MaxBytes+1)} {
		for range 50 {
			impl.ScanWrite(s, chunk)
			impl.ScanWrite(impl.ScanClose(s).Scanner, chunk)
		}
	}
	if !settles(before) {
		t.Errorf("there were %d goroutines, and are %d", before, runtime.NumGoroutine())
	}
}
