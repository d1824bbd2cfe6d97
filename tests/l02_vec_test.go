package tests

import (
	"math"
	"math/big"
	"slices"
	"testing"

	"loop.example/g00736/impl"
)

// vecOf lays a number out as so many bits by the document's words, with numbers of any size.
func vecOf(size int64, n *big.Int) impl.Vec {
	v := impl.Vec{Bits: size, Words: make([]int64, (size+31)/32)}
	for i := range size {
		v.Words[i/32] += int64(n.Bit(int(i))) << (i % 32)
	}
	return v
}

// numOf is the number that the words of a vector stand for.
func numOf(v impl.Vec) *big.Int {
	n := new(big.Int)
	for i := len(v.Words) - 1; i >= 0; i-- {
		n.Lsh(n, 32).Add(n, big.NewInt(v.Words[i]))
	}
	return n
}

// power is 2 to the power n.
func power(n int64) *big.Int {
	return new(big.Int).Lsh(big.NewInt(1), uint(n))
}

// modulo is n as a number of so many bits.
func modulo(size int64, n *big.Int) *big.Int {
	return new(big.Int).Mod(n, power(size))
}

func sameVec(a impl.Vec, b impl.Vec) bool {
	return a.Bits == b.Bits && slices.Equal(a.Words, b.Words)
}

func wantVec(t *testing.T, what string, got impl.Vec, want impl.Vec) {
	t.Helper()
	if !sameVec(got, want) {
		t.Errorf("%s: got %+v, want %+v", what, got, want)
	}
}

// vecSizes are the counts of bits at both ends, and on both sides of each border between words.
func vecSizes() []int64 {
	sizes := []int64{1, 2, 3, 5, 17}
	for border := int64(32); border < impl.MaxBits; border += 32 {
		sizes = append(sizes, border-1, border, border+1)
	}
	return append(sizes, impl.MaxBits-1, impl.MaxBits)
}

// someVecs holds vectors of so many bits: none, all, one bit, all below one bit, all from it on, and mixed ones.
func someVecs(size int64) []impl.Vec {
	all := new(big.Int).Sub(power(size), big.NewInt(1))
	nums := []*big.Int{new(big.Int), all}
	for _, i := range []int64{0, 1, 30, 31, 32, 33, 63, 64, size - 2, size - 1} {
		if i < 0 || i >= size {
			continue
		}
		below := new(big.Int).Sub(power(i), big.NewInt(1))
		nums = append(nums, power(i), below, new(big.Int).Sub(all, below))
	}
	seed := uint32(size)
	for _, shift := range []uint{0, 3} {
		mixed := new(big.Int)
		for range size {
			seed = seed*1664525 + 1013904223
			mixed.Lsh(mixed, 1).Or(mixed, big.NewInt(int64(seed>>28>>shift&1)))
		}
		nums = append(nums, mixed)
	}
	vecs := make([]impl.Vec, len(nums))
	for i, n := range nums {
		vecs[i] = vecOf(size, n)
	}
	return vecs
}

func TestMaxBits(t *testing.T) {
	if impl.MaxBits != 320 {
		t.Errorf("got %d, want 320", impl.MaxBits)
	}
}

func TestRightVecs(t *testing.T) {
	for size := int64(1); size <= impl.MaxBits; size++ {
		for _, v := range someVecs(size) {
			if !impl.VecRight(v) {
				t.Errorf("VecRight(%+v): got false", v)
			}
		}
	}
}

// wrongVec is a vector that is not right, and why.
type wrongVec struct {
	what string
	vec  impl.Vec
}

func wrongVecs() []wrongVec {
	full := int64(math.MaxUint32)
	return []wrongVec{
		{"the zero Vec", impl.Vec{}},
		{"no bits, one word", impl.Vec{Bits: 0, Words: []int64{0}}},
		{"bits below 0", impl.Vec{Bits: -1}},
		{"bits below 0, one word", impl.Vec{Bits: -1, Words: []int64{0}}},
		{"bits below 0 by a word", impl.Vec{Bits: -32, Words: []int64{1}}},
		{"the least bits", impl.Vec{Bits: math.MinInt64, Words: []int64{0}}},
		{"the greatest bits", impl.Vec{Bits: math.MaxInt64, Words: []int64{0}}},
		{"the greatest bits, no word", impl.Vec{Bits: math.MaxInt64}},
		{"one bit too many, its words", impl.Vec{Bits: impl.MaxBits + 1, Words: make([]int64, 11)}},
		{"one bit too many, the words of MaxBits", impl.Vec{Bits: impl.MaxBits + 1, Words: make([]int64, 10)}},
		{"a word's bits too many", impl.Vec{Bits: impl.MaxBits + 32, Words: make([]int64, 11)}},
		{"no word", impl.Vec{Bits: 1}},
		{"one word of 33 bits", impl.Vec{Bits: 33, Words: []int64{1}}},
		{"two words of 32 bits", impl.Vec{Bits: 32, Words: []int64{1, 0}}},
		{"two words of 1 bit", impl.Vec{Bits: 1, Words: []int64{1, 0}}},
		{"nine words of MaxBits", impl.Vec{Bits: impl.MaxBits, Words: make([]int64, 9)}},
		{"eleven words of MaxBits", impl.Vec{Bits: impl.MaxBits, Words: make([]int64, 11)}},
		{"more than MaxList words", impl.Vec{Bits: impl.MaxBits, Words: make([]int64, impl.MaxList+1)}},
		{"a word below 0", impl.Vec{Bits: 32, Words: []int64{-1}}},
		{"the least word", impl.Vec{Bits: 32, Words: []int64{math.MinInt64}}},
		{"a word above 32 bits", impl.Vec{Bits: 32, Words: []int64{full + 1}}},
		{"a word above 32 bits, some below", impl.Vec{Bits: 32, Words: []int64{full + 2}}},
		{"the greatest word", impl.Vec{Bits: 32, Words: []int64{math.MaxInt64}}},
		{"the first word below 0", impl.Vec{Bits: 64, Words: []int64{-1, 1}}},
		{"the first word above 32 bits", impl.Vec{Bits: 64, Words: []int64{full + 1, 1}}},
		{"a middle word below 0", impl.Vec{Bits: 96, Words: []int64{1, -1, 1}}},
		{"a middle word above 32 bits", impl.Vec{Bits: 96, Words: []int64{1, full + 1, 1}}},
		{"the last word below 0", impl.Vec{Bits: 33, Words: []int64{1, -1}}},
		{"the last word above 32 bits", impl.Vec{Bits: 64, Words: []int64{1, full + 1}}},
		{"the bit 1 of 1 bit", impl.Vec{Bits: 1, Words: []int64{2}}},
		{"the bit 5 of 5 bits", impl.Vec{Bits: 5, Words: []int64{32}}},
		{"the bit 5 of 5 bits, others too", impl.Vec{Bits: 5, Words: []int64{37}}},
		{"the bit 31 of 5 bits", impl.Vec{Bits: 5, Words: []int64{1 << 31}}},
		{"the bit 31 of 31 bits", impl.Vec{Bits: 31, Words: []int64{1 << 31}}},
		{"the bit 33 of 33 bits", impl.Vec{Bits: 33, Words: []int64{0, 2}}},
		{"the bit 63 of 33 bits", impl.Vec{Bits: 33, Words: []int64{0, 1 << 31}}},
		{"the bit 319 of 319 bits", impl.Vec{Bits: 319, Words: []int64{0, 0, 0, 0, 0, 0, 0, 0, 0, 1 << 31}}},
	}
}

func TestWrongVecsAlone(t *testing.T) {
	for _, c := range wrongVecs() {
		if impl.VecRight(c.vec) {
			t.Errorf("VecRight, %s: got true", c.what)
		}
		for _, i := range []int64{-1, 0, 1, 4, 31, 32} {
			wantVec(t, "VecSet on, "+c.what, impl.VecSet(c.vec, i, true), impl.Vec{})
			wantVec(t, "VecSet off, "+c.what, impl.VecSet(c.vec, i, false), impl.Vec{})
			if impl.VecGet(c.vec, i) {
				t.Errorf("VecGet of bit %d, %s: got true", i, c.what)
			}
		}
		wantVec(t, "VecNot, "+c.what, impl.VecNot(c.vec), impl.Vec{})
		wantVec(t, "VecUp, "+c.what, impl.VecUp(c.vec), impl.Vec{})
		got := [3]int64{impl.VecLow(c.vec), impl.VecHigh(c.vec), impl.VecCount(c.vec)}
		if want := [3]int64{-1, -1, 0}; got != want {
			t.Errorf("VecLow, VecHigh, VecCount, %s: got %v, want %v", c.what, got, want)
		}
	}
}

// pairCall is a call that puts two vectors together, and what it does to their numbers.
type pairCall struct {
	what  string
	call  func(a impl.Vec, b impl.Vec) impl.Vec
	plain func(a *big.Int, b *big.Int) *big.Int
}

func pairCalls() []pairCall {
	return []pairCall{
		{"VecAnd", impl.VecAnd, func(a, b *big.Int) *big.Int { return new(big.Int).And(a, b) }},
		{"VecOr", impl.VecOr, func(a, b *big.Int) *big.Int { return new(big.Int).Or(a, b) }},
		{"VecXor", impl.VecXor, func(a, b *big.Int) *big.Int { return new(big.Int).Xor(a, b) }},
		{"VecAdd", impl.VecAdd, func(a, b *big.Int) *big.Int { return new(big.Int).Add(a, b) }},
		{"VecSub", impl.VecSub, func(a, b *big.Int) *big.Int { return new(big.Int).Sub(a, b) }},
	}
}

func TestWrongVecsInPairs(t *testing.T) {
	for _, p := range pairCalls() {
		for _, c := range wrongVecs() {
			size := min(max(c.vec.Bits, 1), impl.MaxBits)
			right := vecOf(size, big.NewInt(1))
			wantVec(t, p.what+", first: "+c.what, p.call(c.vec, right), impl.Vec{})
			wantVec(t, p.what+", second: "+c.what, p.call(right, c.vec), impl.Vec{})
			wantVec(t, p.what+", both: "+c.what, p.call(c.vec, c.vec), impl.Vec{})
		}
	}
}

func TestNotAsManyBits(t *testing.T) {
	for _, p := range pairCalls() {
		for _, a := range vecSizes() {
			for _, b := range vecSizes() {
				if a == b {
					continue
				}
				got := p.call(vecOf(a, big.NewInt(1)), vecOf(b, big.NewInt(1)))
				wantVec(t, p.what+" of different bits", got, impl.Vec{})
			}
		}
	}
}

func TestVecNew(t *testing.T) {
	for size := int64(1); size <= impl.MaxBits; size++ {
		wantVec(t, "VecNew", impl.VecNew(size), vecOf(size, new(big.Int)))
	}
	for _, size := range []int64{0, -1, -32, math.MinInt64, impl.MaxBits + 1, impl.MaxBits + 32, math.MaxInt64 - 31, math.MaxInt64} {
		wantVec(t, "VecNew of a wrong count", impl.VecNew(size), impl.Vec{})
	}
}

func TestEachBitIsSetAndGot(t *testing.T) {
	for _, size := range vecSizes() {
		for _, v := range someVecs(size) {
			n := numOf(v)
			for i := range size {
				if got, want := impl.VecGet(v, i), n.Bit(int(i)) == 1; got != want {
					t.Errorf("VecGet(%+v, %d): got %v, want %v", v, i, got, want)
				}
				wantVec(t, "VecSet on", impl.VecSet(v, i, true), vecOf(size, new(big.Int).SetBit(n, int(i), 1)))
				wantVec(t, "VecSet off", impl.VecSet(v, i, false), vecOf(size, new(big.Int).SetBit(n, int(i), 0)))
			}
		}
	}
}

func TestBitsThatAreNotThere(t *testing.T) {
	for _, size := range vecSizes() {
		all := vecOf(size, new(big.Int).Sub(power(size), big.NewInt(1)))
		for _, i := range []int64{-1, -32, math.MinInt64, size, size + 1, size + 32, math.MaxInt64} {
			wantVec(t, "VecSet on", impl.VecSet(all, i, true), impl.Vec{})
			wantVec(t, "VecSet off", impl.VecSet(all, i, false), impl.Vec{})
			if impl.VecGet(all, i) {
				t.Errorf("VecGet of bit %d of %d: got true", i, size)
			}
		}
	}
}

func TestPairsAreAsTheirNumbers(t *testing.T) {
	for _, p := range pairCalls() {
		for _, size := range vecSizes() {
			for _, a := range someVecs(size) {
				for _, b := range someVecs(size) {
					want := vecOf(size, modulo(size, p.plain(numOf(a), numOf(b))))
					wantVec(t, p.what, p.call(a, b), want)
				}
			}
		}
	}
}

func TestBitByBit(t *testing.T) {
	for _, size := range vecSizes() {
		vecs := someVecs(size)
		for k, a := range vecs {
			b := vecs[(k*7+3)%len(vecs)]
			and, or, xor, not := impl.VecAnd(a, b), impl.VecOr(a, b), impl.VecXor(a, b), impl.VecNot(a)
			for i := range size {
				x, y := impl.VecGet(a, i), impl.VecGet(b, i)
				got := [4]bool{impl.VecGet(and, i), impl.VecGet(or, i), impl.VecGet(xor, i), impl.VecGet(not, i)}
				if want := [4]bool{x && y, x || y, x != y, !x}; got != want {
					t.Errorf("bit %d of %+v and %+v: got %v, want %v", i, a, b, got, want)
				}
			}
		}
	}
}

func TestTakenAwayIsAddedAgain(t *testing.T) {
	for _, size := range vecSizes() {
		for _, a := range someVecs(size) {
			for _, b := range someVecs(size) {
				wantVec(t, "taken away, then added", impl.VecAdd(impl.VecSub(a, b), b), a)
				wantVec(t, "added, then taken away", impl.VecSub(impl.VecAdd(a, b), b), a)
			}
		}
	}
}

func TestTurnedAndUp(t *testing.T) {
	for size := int64(1); size <= impl.MaxBits; size++ {
		all := new(big.Int).Sub(power(size), big.NewInt(1))
		for _, v := range someVecs(size) {
			n := numOf(v)
			wantVec(t, "VecNot", impl.VecNot(v), vecOf(size, new(big.Int).Xor(n, all)))
			wantVec(t, "VecNot twice", impl.VecNot(impl.VecNot(v)), v)
			wantVec(t, "VecUp", impl.VecUp(v), vecOf(size, modulo(size, new(big.Int).Lsh(n, 1))))
			wantVec(t, "added to itself", impl.VecAdd(v, v), impl.VecUp(v))
		}
	}
}

func TestCarriesFromWordToWord(t *testing.T) {
	full := int64(math.MaxUint32)
	vec := func(size int64, words ...int64) impl.Vec { return impl.Vec{Bits: size, Words: words} }
	for _, c := range []struct {
		what string
		got  impl.Vec
		want impl.Vec
	}{
		{"a carry over one border", impl.VecAdd(vec(64, full, 0), vec(64, 1, 0)), vec(64, 0, 1)},
		{"a carry over two borders", impl.VecAdd(vec(96, full, full, 0), vec(96, 1, 0, 0)), vec(96, 0, 0, 1)},
		{"a carry that is one more of two full words", impl.VecAdd(vec(64, full, full), vec(64, full, full)), vec(64, full-1, full)},
		{"a carry over the highest bit of a full word", impl.VecAdd(vec(32, full), vec(32, 1)), vec(32, 0)},
		{"a carry over the highest bit of part of a word", impl.VecAdd(vec(33, full, 1), vec(33, 1, 0)), vec(33, 0, 0)},
		{"a borrow over one border", impl.VecSub(vec(64, 0, 1), vec(64, 1, 0)), vec(64, full, 0)},
		{"a borrow over two borders", impl.VecSub(vec(96, 0, 0, 1), vec(96, 1, 0, 0)), vec(96, full, full, 0)},
		{"a borrow from two words alike", impl.VecSub(vec(96, 0, 7, 9), vec(96, 1, 7, 3)), vec(96, full, full, 5)},
		{"a borrow over the highest bit of a full word", impl.VecSub(vec(32, 0), vec(32, 1)), vec(32, full)},
		{"a borrow over the highest bit of part of a word", impl.VecSub(vec(33, 0, 0), vec(33, 1, 0)), vec(33, full, 1)},
		{"1 bit, added", impl.VecAdd(vec(1, 1), vec(1, 1)), vec(1, 0)},
		{"1 bit, taken away", impl.VecSub(vec(1, 0), vec(1, 1)), vec(1, 1)},
		{"1 bit, up", impl.VecUp(vec(1, 1)), vec(1, 0)},
		{"up over a border", impl.VecUp(vec(33, 1<<31, 0)), vec(33, 0, 1)},
		{"up over the highest bit", impl.VecUp(vec(33, 1<<31, 1)), vec(33, 0, 1)},
		{"up over the highest bit of a full word", impl.VecUp(vec(32, 1<<31+1)), vec(32, 2)},
	} {
		wantVec(t, c.what, c.got, c.want)
	}
}

func TestLowHighCount(t *testing.T) {
	for size := int64(1); size <= impl.MaxBits; size++ {
		for _, v := range someVecs(size) {
			want := [3]int64{-1, -1, 0}
			for i := range size {
				if numOf(v).Bit(int(i)) == 0 {
					continue
				}
				if want[2] == 0 {
					want[0] = i
				}
				want[1] = i
				want[2]++
			}
			if got := [3]int64{impl.VecLow(v), impl.VecHigh(v), impl.VecCount(v)}; got != want {
				t.Errorf("VecLow, VecHigh, VecCount of %+v: got %v, want %v", v, got, want)
			}
		}
	}
}

// wantUntouched calls, writes all over the answer, and asks whether any of it was an argument's memory.
func wantUntouched(t *testing.T, what string, call func(a impl.Vec, b impl.Vec) impl.Vec) {
	t.Helper()
	const spare = 77
	a := append(make([]int64, 0, 8), 1<<31+5, 9)
	b := append(make([]int64, 0, 8), 1<<31+6, 3)
	a[:3][2], b[:3][2] = spare, spare
	wantA, wantB := slices.Clone(a[:8]), slices.Clone(b[:8])
	got := call(impl.Vec{Bits: 36, Words: a}, impl.Vec{Bits: 36, Words: b})
	if len(got.Words) != 2 {
		t.Fatalf("%s: got %+v, want two words", what, got)
	}
	whole := got.Words[:cap(got.Words)]
	for i := range whole {
		whole[i] = -1
	}
	if !slices.Equal(a[:8], wantA) || !slices.Equal(b[:8], wantB) {
		t.Errorf("%s: an argument was changed, or the answer shares its memory", what)
	}
}

func TestVecsAreNewMemory(t *testing.T) {
	for _, p := range pairCalls() {
		wantUntouched(t, p.what, p.call)
	}
	for _, c := range []struct {
		what string
		call func(v impl.Vec) impl.Vec
	}{
		{"VecSet on", func(v impl.Vec) impl.Vec { return impl.VecSet(v, 1, true) }},
		{"VecSet on what is on", func(v impl.Vec) impl.Vec { return impl.VecSet(v, 0, true) }},
		{"VecSet off", func(v impl.Vec) impl.Vec { return impl.VecSet(v, 0, false) }},
		{"VecSet off what is off", func(v impl.Vec) impl.Vec { return impl.VecSet(v, 1, false) }},
		{"VecNot", impl.VecNot},
		{"VecUp", impl.VecUp},
	} {
		wantUntouched(t, c.what, func(a impl.Vec, _ impl.Vec) impl.Vec { return c.call(a) })
	}
	one, other := impl.VecNew(36), impl.VecNew(36)
	one.Words[1] = 1
	wantVec(t, "VecNew behind another one", other, vecOf(36, new(big.Int)))
}

func TestAsksChangeNoVec(t *testing.T) {
	for _, v := range someVecs(70) {
		was := impl.Vec{Bits: v.Bits, Words: slices.Clone(v.Words)}
		impl.VecRight(v)
		impl.VecGet(v, 40)
		impl.VecLow(v)
		impl.VecHigh(v)
		impl.VecCount(v)
		wantVec(t, "what was asked", v, was)
	}
}
