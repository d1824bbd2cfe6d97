package tests

import (
	"hash/crc32"
	"math"
	"math/big"
	"strings"
	"testing"
	"unsafe"

	"loop.example/g00736/impl"
)

// plainNum writes a number by the document's words, with numbers of any size.
func plainNum(n int64) string {
	u := new(big.Int).Mul(big.NewInt(n), big.NewInt(2))
	if n < 0 {
		u.Neg(u).Sub(u, big.NewInt(1))
	}
	var out []byte
	for {
		low := new(big.Int)
		u.DivMod(u, big.NewInt(128), low)
		if u.Sign() == 0 {
			return string(append(out, byte(low.Int64())))
		}
		out = append(out, byte(low.Int64()+128))
	}
}

// edgeNums holds the numbers around 0, on both sides of each count of bytes, and at the ends of int64.
func edgeNums() []int64 {
	nums := []int64{math.MinInt64, math.MinInt64 + 1, math.MaxInt64 - 1, math.MaxInt64}
	for n := int64(-300); n <= 300; n++ {
		nums = append(nums, n)
	}
	for bits := 6; bits < 63; bits++ {
		p := int64(1) << bits
		nums = append(nums, p-1, p, p+1, -p-1, -p, -p+1)
	}
	return nums
}

// someBytes holds n bytes of all kinds.
func someBytes(n int) string {
	out := make([]byte, n)
	for i := range out {
		out[i] = byte(i*167 + i/256)
	}
	return string(out)
}

func TestPutNumBytes(t *testing.T) {
	for _, c := range []struct {
		n    int64
		want string
	}{
		{0, "\x00"},
		{-1, "\x01"},
		{1, "\x02"},
		{63, "\x7e"},
		{-64, "\x7f"},
		{64, "\x80\x01"},
		{-65, "\x81\x01"},
		{8191, "\xfe\x7f"},
		{-8192, "\xff\x7f"},
		{8192, "\x80\x80\x01"},
		{math.MaxInt64, "\xfe" + strings.Repeat("\xff", 8) + "\x01"},
		{math.MinInt64, strings.Repeat("\xff", 9) + "\x01"},
	} {
		if got := impl.PutNum(c.n); got != c.want {
			t.Errorf("PutNum(%d): got %x, want %x", c.n, got, c.want)
		}
	}
	for _, n := range edgeNums() {
		if got, want := impl.PutNum(n), plainNum(n); got != want {
			t.Errorf("PutNum(%d): got %x, want %x", n, got, want)
		}
	}
}

func TestPutNumCounts(t *testing.T) {
	for count := 1; count <= 9; count++ {
		p := int64(1) << (7*count - 1)
		for _, c := range []struct {
			n    int64
			want int
		}{{p - 1, count}, {-p, count}, {p, count + 1}, {-p - 1, count + 1}} {
			if got := len(impl.PutNum(c.n)); got != c.want {
				t.Errorf("PutNum(%d): got %d bytes, want %d", c.n, got, c.want)
			}
		}
	}
}

func TestNumsComeBack(t *testing.T) {
	for _, n := range edgeNums() {
		put := impl.PutNum(n)
		for _, ahead := range []string{"", "\x80", "ab\xff"} {
			for _, behind := range []string{"", "\x00", "\xff\xff"} {
				want := impl.NumOut{N: n, At: int64(len(ahead) + len(put))}
				if got := impl.GetNum(ahead+put+behind, int64(len(ahead))); got != want {
					t.Errorf("GetNum of %d behind %x: got %+v, want %+v", n, ahead, got, want)
				}
			}
		}
	}
}

func TestNumAtTheLastByteOfAFullText(t *testing.T) {
	text := strings.Repeat("\xff", impl.MaxBytes-1) + "\x05"
	if got, want := impl.GetNum(text, impl.MaxBytes-1), (impl.NumOut{N: -3, At: impl.MaxBytes}); got != want {
		t.Errorf("got %+v, want %+v", got, want)
	}
}

// wrongNum is a text, a place in it, and the first fault of a number there.
type wrongNum struct {
	what string
	text string
	at   int64
	code int64
}

func wrongNums() []wrongNum {
	nine := strings.Repeat("\x80", 9)
	long := strings.Repeat("\x80", impl.MaxBytes+1)
	return []wrongNum{
		{"one byte too many", strings.Repeat("\x00", impl.MaxBytes+1), 0, impl.ErrSize},
		{"too long ahead of at below 0", long, -1, impl.ErrSize},
		{"too long ahead of at behind its end", long, impl.MaxBytes + 9, impl.ErrSize},
		{"at below 0", "\x00", -1, impl.ErrForm},
		{"the least at", "\x00", math.MinInt64, impl.ErrForm},
		{"at below 0 ahead of no byte", "", -1, impl.ErrForm},
		{"at below 0 ahead of a wrong number", "\x80\x00", -1, impl.ErrForm},
		{"the empty text", "", 0, impl.ErrShort},
		{"at the end", "\x00\x00", 2, impl.ErrShort},
		{"behind the end", "\x00\x00", 3, impl.ErrShort},
		{"the greatest at", "\x00\x00", math.MaxInt64, impl.ErrShort},
		{"cut off behind one byte", "\x80", 0, impl.ErrShort},
		{"cut off behind nine bytes", nine, 0, impl.ErrShort},
		{"cut off from the second byte on", "\x00\xff\xff", 1, impl.ErrShort},
		{"cut off at MaxBytes", long[1:], impl.MaxBytes - 9, impl.ErrShort},
		{"a tenth byte of 2", nine + "\x02", 0, impl.ErrSyntax},
		{"a tenth byte of 127", nine + "\x7f", 0, impl.ErrSyntax},
		{"a tenth byte of 128, the last one", nine + "\x80", 0, impl.ErrSyntax},
		{"a tenth byte of 129, the last one", nine + "\x81", 0, impl.ErrSyntax},
		{"a tenth byte of 255, more behind it", nine + "\xff\x01", 0, impl.ErrSyntax},
		{"ten bytes at MaxBytes", long[1:], impl.MaxBytes - 10, impl.ErrSyntax},
		{"a needless second byte", "\x80\x00", 0, impl.ErrSyntax},
		{"a needless second byte behind bits", "\xff\x00", 0, impl.ErrSyntax},
		{"a needless third byte", "\x80\x81\x00", 0, impl.ErrSyntax},
		{"a needless ninth byte", strings.Repeat("\xff", 8) + "\x00", 0, impl.ErrSyntax},
		{"a needless tenth byte", nine + "\x00", 0, impl.ErrSyntax},
	}
}

func TestWrongNums(t *testing.T) {
	for _, c := range wrongNums() {
		if got, want := impl.GetNum(c.text, c.at), (impl.NumOut{Code: c.code}); got != want {
			t.Errorf("GetNum, %s: got %+v, want %+v", c.what, got, want)
		}
		if got, want := impl.GetText(c.text, c.at), (impl.TextOut{Code: c.code}); got != want {
			t.Errorf("GetText, %s: got %+v, want %+v", c.what, got, want)
		}
	}
}

func TestTenthByteOfOne(t *testing.T) {
	text := strings.Repeat("\x80", 9) + "\x01"
	if got, want := impl.GetNum(text, 0), (impl.NumOut{N: 1 << 62, At: 10}); got != want {
		t.Errorf("got %+v, want %+v", got, want)
	}
}

func TestEachCutNumIsShort(t *testing.T) {
	for _, n := range edgeNums() {
		put := impl.PutNum(n)
		for cut := range len(put) {
			if got, want := impl.GetNum(put[:cut], 0), (impl.NumOut{Code: impl.ErrShort}); got != want {
				t.Errorf("GetNum of %d cut to %d bytes: got %+v, want %+v", n, cut, got, want)
			}
		}
	}
}

// fullText is the longest one that, with its length, is a text that may be handed in.
const fullText = impl.MaxBytes - 2

func TestTextsComeBack(t *testing.T) {
	for _, size := range []int{0, 1, 2, 63, 64, 300, 7000, fullText} {
		text := someBytes(size)
		put := impl.PutText(text)
		if want := plainNum(int64(size)) + text; put != want {
			t.Errorf("PutText of %d bytes is not its length and it", size)
		}
		if got, want := impl.GetText(put, 0), (impl.TextOut{Text: text, At: int64(len(put))}); got != want {
			t.Errorf("GetText of %d bytes: At %d, Code %d, want At %d, or other bytes", size, got.At, got.Code, want.At)
		}
	}
}

func TestTextsComeBackOneBehindTheOther(t *testing.T) {
	texts := []string{"", "a", "\x00\xff\x80", "", strings.Repeat("\n", 64), "é"}
	all := "\xff"
	for _, text := range texts {
		all += impl.PutText(text)
	}
	at := int64(1)
	for _, text := range texts {
		got := impl.GetText(all, at)
		want := impl.TextOut{Text: text, At: at + int64(len(plainNum(int64(len(text)))+text))}
		if got != want {
			t.Errorf("GetText at %d: got %+v, want %+v", at, got, want)
		}
		at = want.At
	}
	if got, want := impl.GetText(all, at), (impl.TextOut{Code: impl.ErrShort}); got != want {
		t.Errorf("GetText at the end: got %+v, want %+v", got, want)
	}
}

func TestTextsAtTheLimit(t *testing.T) {
	for _, size := range []int{fullText + 1, impl.MaxBytes} {
		put := impl.PutText(someBytes(size))
		if put != plainNum(int64(size))+someBytes(size) {
			t.Errorf("PutText of %d bytes is not its length and it", size)
		}
		if got, want := impl.GetText(put, 0), (impl.TextOut{Code: impl.ErrSize}); got != want {
			t.Errorf("GetText of %d bytes: got At %d, Code %d, want %+v", size, got.At, got.Code, want)
		}
	}
	if got := impl.PutText(someBytes(impl.MaxBytes + 1)); got != "" {
		t.Errorf("PutText of more than MaxBytes: got %d bytes, want none", len(got))
	}
}

func TestWrongTexts(t *testing.T) {
	for _, c := range []struct {
		what string
		text string
		code int64
	}{
		{"a length of -1", "\x01", impl.ErrSyntax},
		{"the least length", plainNum(math.MinInt64) + "a", impl.ErrSyntax},
		{"the greatest length", plainNum(math.MaxInt64) + "a", impl.ErrSyntax},
		{"a length above MaxBytes, though cut off", plainNum(impl.MaxBytes+1) + "a", impl.ErrSyntax},
		{"a length of MaxBytes, cut off", plainNum(impl.MaxBytes) + someBytes(fullText), impl.ErrShort},
		{"a length one above what is there", plainNum(fullText+1) + someBytes(fullText), impl.ErrShort},
		{"all cut off", "\x02", impl.ErrShort},
		{"the last byte cut off", "\x06ab", impl.ErrShort},
	} {
		if got, want := impl.GetText(c.text, 0), (impl.TextOut{Code: c.code}); got != want {
			t.Errorf("%s: got %+v, want %+v", c.what, got, want)
		}
	}
	if got, want := impl.GetText("\x02a\x04b", 2), (impl.TextOut{Code: impl.ErrShort}); got != want {
		t.Errorf("cut off behind another one: got %+v, want %+v", got, want)
	}
}

func TestNames(t *testing.T) {
	for _, c := range []struct {
		name string
		want bool
	}{
		{"a", true},
		{"z", true},
		{"a_9", true},
		{"a0123456789_zyxwvuts", true},
		{strings.Repeat("z", 20), true},
		{strings.Repeat("z", 21), false},
		{"", false},
		{"_a", false},
		{"0a", false},
		{"Aa", false},
		{"aA", false},
		{"a b", false},
		{"ab ", false},
		{"a\x00", false},
		{"aé", false},
		{strings.Repeat("z", 19) + "-", false},
		{strings.Repeat("z", impl.MaxBytes+1), false},
	} {
		if got := impl.NameRight(c.name); got != c.want {
			t.Errorf("NameRight(%.30q): got %v, want %v", c.name, got, c.want)
		}
	}
}

func TestNamesByteByByte(t *testing.T) {
	const first = "abcdefghijklmnopqrstuvwxyz"
	const other = first + "0123456789_"
	for b := range 256 {
		one := string([]byte{byte(b)})
		if got, want := impl.NameRight(one), strings.Contains(first, one); got != want {
			t.Errorf("byte %d alone: got %v, want %v", b, got, want)
		}
		if got, want := impl.NameRight("a"+one+"a"), strings.Contains(other, one); got != want {
			t.Errorf("byte %d between: got %v, want %v", b, got, want)
		}
	}
}

// crcSizes are the lengths at which CRCs are held against those of the library.
func crcSizes() []int {
	return []int{0, 1, 2, 3, 4, 5, 255, 256, 257, impl.MaxBytes - 1, impl.MaxBytes}
}

func TestCrc(t *testing.T) {
	if got := impl.Crc("123456789"); got != 0xCBF43926 {
		t.Errorf("Crc of the nine digits: got %x", got)
	}
	for _, size := range crcSizes() {
		text := someBytes(size)
		if got, want := impl.Crc(text), int64(crc32.ChecksumIEEE([]byte(text))); got != want {
			t.Errorf("Crc of %d bytes: got %x, want %x", size, got, want)
		}
	}
	for b := range 256 {
		if got, want := impl.Crc(string([]byte{byte(b)})), int64(crc32.ChecksumIEEE([]byte{byte(b)})); got != want {
			t.Errorf("Crc of the byte %d: got %x, want %x", b, got, want)
		}
	}
	if got := impl.Crc(someBytes(impl.MaxBytes + 1)); got != 0 {
		t.Errorf("Crc of more than MaxBytes: got %x, want 0", got)
	}
}

func TestCrcGoesOn(t *testing.T) {
	text := someBytes(300)
	whole := impl.Crc(text)
	for cut := 0; cut <= len(text); cut++ {
		if got := impl.CrcMore(impl.Crc(text[:cut]), text[cut:]); got != whole {
			t.Errorf("cut at %d: got %x, want %x", cut, got, whole)
		}
	}
	long := someBytes(impl.MaxBytes)
	want := int64(crc32.ChecksumIEEE([]byte(long + long)))
	if got := impl.CrcMore(impl.Crc(long), long); got != want {
		t.Errorf("twice MaxBytes: got %x, want %x", got, want)
	}
}

func TestCrcMoreAtItsEdges(t *testing.T) {
	for _, crc := range []int64{0, 1, 0x80000000, math.MaxUint32 - 1, math.MaxUint32} {
		for _, size := range crcSizes() {
			text := someBytes(size)
			want := int64(crc32.Update(uint32(crc), crc32.IEEETable, []byte(text)))
			if got := impl.CrcMore(crc, text); got != want {
				t.Errorf("CrcMore of %x and %d bytes: got %x, want %x", crc, size, got, want)
			}
		}
		if got := impl.CrcMore(crc, someBytes(impl.MaxBytes+1)); got != 0 {
			t.Errorf("CrcMore of %x and more than MaxBytes: got %x, want 0", crc, got)
		}
	}
	for _, crc := range []int64{-1, math.MinInt64, math.MaxUint32 + 1, math.MaxUint32 + 6, math.MaxInt64} {
		for _, text := range []string{"", "a", "123456789"} {
			if got := impl.CrcMore(crc, text); got != 0 {
				t.Errorf("CrcMore of %d and %q: got %x, want 0", crc, text, got)
			}
		}
	}
}

func TestSealBytes(t *testing.T) {
	if got, want := impl.Seal(""), "\x00\x00\x00\x00"; got != want {
		t.Errorf("Seal of the empty text: got %x, want %x", got, want)
	}
	if got, want := impl.Seal("123456789"), "123456789\x26\x39\xf4\xcb"; got != want {
		t.Errorf("Seal of the nine digits: got %x, want %x", got, want)
	}
}

func TestSealedTextsComeBack(t *testing.T) {
	for _, size := range []int{0, 1, 3, 4, 5, 300, impl.MaxBytes - 5, impl.MaxBytes - 4} {
		text := someBytes(size)
		sealed := impl.Seal(text)
		if len(sealed) != size+4 || !strings.HasPrefix(sealed, text) {
			t.Errorf("Seal of %d bytes: %d bytes, or another text ahead", size, len(sealed))
		}
		if got, want := impl.Unseal(sealed), (impl.TextOut{Text: text}); got != want {
			t.Errorf("Unseal of %d bytes: At %d, Code %d, or another text", size, got.At, got.Code)
		}
	}
	for _, size := range []int{impl.MaxBytes - 3, impl.MaxBytes, impl.MaxBytes + 1} {
		if got := impl.Seal(someBytes(size)); got != "" {
			t.Errorf("Seal of %d bytes: got %d bytes, want none", size, len(got))
		}
	}
}

// turned is a text with some bits of one byte turned.
func turned(text string, at int, bits byte) string {
	out := []byte(text)
	out[at] ^= bits
	return string(out)
}

func TestOneByteTurned(t *testing.T) {
	want := impl.TextOut{Code: impl.ErrSum}
	for _, text := range []string{"", "a", "\x00\x00\x00\x00", "123456789"} {
		sealed := impl.Seal(text)
		for at := range len(sealed) {
			for bits := 1; bits < 256; bits++ {
				if got := impl.Unseal(turned(sealed, at, byte(bits))); got != want {
					t.Errorf("%q, byte %d turned by %x: got %+v, want %+v", text, at, bits, got, want)
				}
			}
		}
	}
	sealed := impl.Seal(someBytes(impl.MaxBytes - 4))
	for at := 0; at < len(sealed); at += 333 {
		if got := impl.Unseal(turned(sealed, at, 1)); got != want {
			t.Errorf("the longest, byte %d turned: got At %d, Code %d, want %+v", at, got.At, got.Code, want)
		}
	}
}

func TestWrongSeals(t *testing.T) {
	for _, c := range []struct {
		what string
		text string
		code int64
	}{
		{"no byte", "", impl.ErrShort},
		{"one byte", "\x00", impl.ErrShort},
		{"three bytes", "\x00\x00\x00", impl.ErrShort},
		{"four bytes that are no seal", "\x00\x00\x00\x01", impl.ErrSum},
		{"the highest byte first", "123456789\xcb\xf4\x39\x26", impl.ErrSum},
		{"a byte behind", impl.Seal("ab") + "\x00", impl.ErrSum},
		{"the last byte cut off", impl.Seal("ab")[:5], impl.ErrSum},
		{"MaxBytes bytes that are no seal", strings.Repeat("a", impl.MaxBytes), impl.ErrSum},
		{"one byte too many", strings.Repeat("a", impl.MaxBytes+1), impl.ErrSize},
	} {
		if got, want := impl.Unseal(c.text), (impl.TextOut{Code: c.code}); got != want {
			t.Errorf("%s: got %+v, want %+v", c.what, got, want)
		}
	}
}

func TestTooLongIsLookedForAheadOfTheSum(t *testing.T) {
	text := someBytes(impl.MaxBytes - 3)
	crc := crc32.ChecksumIEEE([]byte(text))
	sealed := text + string([]byte{byte(crc), byte(crc >> 8), byte(crc >> 16), byte(crc >> 24)})
	if got, want := impl.Unseal(sealed), (impl.TextOut{Code: impl.ErrSize}); got != want {
		t.Errorf("got At %d, Code %d, want %+v", got.At, got.Code, want)
	}
}

// sharesMemory tells whether a part lies in the bytes of a whole.
func sharesMemory(whole string, part string) bool {
	from := uintptr(unsafe.Pointer(unsafe.StringData(whole)))
	at := uintptr(unsafe.Pointer(unsafe.StringData(part)))
	return at >= from && at < from+uintptr(len(whole))
}

func TestAnswersAreNewMemory(t *testing.T) {
	text := someBytes(100)
	put := impl.PutText(text)
	sealed := impl.Seal(text)
	for _, c := range []struct {
		what  string
		whole string
		part  string
	}{
		{"PutText", text, put},
		{"GetText", put, impl.GetText(put, 0).Text},
		{"Seal", text, sealed},
		{"Unseal", sealed, impl.Unseal(sealed).Text},
	} {
		if sharesMemory(c.whole, c.part) {
			t.Errorf("%s: the answer shares memory with what was handed in", c.what)
		}
	}
}

func TestCodesAndLimits(t *testing.T) {
	got := [14]int64{impl.OK, impl.ErrForm, impl.ErrSize, impl.ErrSyntax, impl.ErrShort, impl.ErrSum, impl.ErrNone,
		impl.ErrThere, impl.ErrRange, impl.ErrFull, impl.ErrState, impl.MaxBytes, impl.MaxList, impl.MaxTime}
	want := [14]int64{0, 1, 2, 3, 4, 5, 6, 7, 8, 9, 10, 8000, 400, 1000000}
	if got != want {
		t.Errorf("got %v, want %v", got, want)
	}
}
