package impl

import (
	"errors"
	"strconv"
)

// Constants, see chapter 1.
const (
	OK        = 0
	ErrForm   = 1
	ErrSize   = 2
	ErrSyntax = 3
	ErrShort  = 4
	ErrSum    = 5
	ErrNone   = 6
	ErrThere  = 7
	ErrRange  = 8
	ErrFull   = 9
	ErrState  = 10
	MaxBytes  = 8000
	MaxList   = 400
	MaxTime   = 1000000
)

// NumOut is a thing of chapter 2.
type NumOut struct {
	N    int64
	At   int64
	Code int64
}

// TextOut is a thing of chapter 2.
type TextOut struct {
	Text string
	At   int64
	Code int64
}

// fault is what is wrong with bytes that are read; its code is what the face tells.
type fault struct {
	code int64
}

// Error makes a fault an error.
func (f fault) Error() string {
	return "code " + strconv.FormatInt(f.code, 10)
}

// codeOf takes an error apart: the code of the fault in it, OK of none.
func codeOf(err error) int64 {
	var f fault
	if errors.As(err, &f) {
		return f.code
	}
	return OK
}

// joined is new memory even of one part alone, so that no answer shares any with an argument.
func joined(head string, tail string) string {
	all := make([]byte, len(head)+len(tail))
	n := copy(all, head)
	copy(all[n:], tail)
	return string(all)
}

// withoutSign folds the sign into the lowest bit, so that small numbers of both signs are short.
func withoutSign(n int64) uint64 {
	if n < 0 {
		return ^(uint64(n) << 1)
	}
	return uint64(n) << 1
}

// withSign turns withoutSign round.
func withSign(u uint64) int64 {
	if u&1 == 1 {
		return int64(^(u >> 1))
	}
	return int64(u >> 1)
}

// PutNum: see chapter 2.
func PutNum(n int64) string {
	out := make([]byte, 0, 10)
	u := withoutSign(n)
	for u >= 128 {
		out = append(out, byte(u)|128)
		u >>= 7
	}
	return string(append(out, byte(u)))
}

// readUnsigned reads seven bits a byte from a place that is not below 0, and tells the place behind them.
func readUnsigned(text string, at int64) (uint64, int64, error) {
	var u uint64
	var b byte
	shift := 0
	code := int64(ErrSyntax)

more:
	if at >= int64(len(text)) {
		code = ErrShort
		goto wrong
	}
	b = text[at]
	at++
	if b < 128 {
		goto last
	}
	// The tenth byte has room for one bit only, so none may follow it.
	if shift == 63 {
		goto wrong
	}
	u |= uint64(b&127) << shift
	shift += 7
	goto more

last:
	if shift == 63 && b > 1 {
		goto wrong
	}
	// A last byte without a bit is needed by no number but 0 itself.
	if shift > 0 && b == 0 {
		goto wrong
	}
	return u | uint64(b)<<shift, at, nil

wrong:
	return 0, 0, fault{code}
}

// readNum is GetNum with its code as an error.
func readNum(text string, at int64) (int64, int64, error) {
	if len(text) > MaxBytes {
		return 0, 0, fault{ErrSize}
	}
	if at < 0 {
		return 0, 0, fault{ErrForm}
	}
	u, behind, err := readUnsigned(text, at)
	return withSign(u), behind, err
}

// readText is GetText with its code as an error.
func readText(text string, at int64) (string, int64, error) {
	size, from, err := readNum(text, at)
	if err != nil {
		return "", 0, err
	}
	if size < 0 || size > MaxBytes {
		return "", 0, fault{ErrSyntax}
	}
	if size > int64(len(text))-from {
		return "", 0, fault{ErrShort}
	}
	return joined(text[from:from+size], ""), from + size, nil
}

// GetNum: see chapter 2.
func GetNum(text string, at int64) NumOut {
	n, behind, err := readNum(text, at)
	if code := codeOf(err); code != OK {
		return NumOut{Code: code}
	}
	return NumOut{N: n, At: behind}
}

// PutText: see chapter 2.
func PutText(t string) string {
	if len(t) > MaxBytes {
		return ""
	}
	return joined(PutNum(int64(len(t))), t)
}

// GetText: see chapter 2.
func GetText(text string, at int64) TextOut {
	t, behind, err := readText(text, at)
	if code := codeOf(err); code != OK {
		return TextOut{Code: code}
	}
	return TextOut{Text: t, At: behind}
}

// isSmallLetter tells a to z, which alone may begin a name.
func isSmallLetter(b byte) bool {
	return b >= 'a' && b <= 'z'
}

// isNameByte tells what may stand in a name behind its first byte.
func isNameByte(b byte) bool {
	return isSmallLetter(b) || b >= '0' && b <= '9' || b == '_'
}

// NameRight: see chapter 2.
func NameRight(t string) bool {
	if len(t) < 1 || len(t) > 20 || !isSmallLetter(t[0]) {
		return false
	}
	for i := 1; i < len(t); i++ {
		if !isNameByte(t[i]) {
			return false
		}
	}
	return true
}

// Crc: see chapter 2.
func Crc(text string) int64 {
	// The CRC of the empty text is 0: its register, all ones, is turned.
	return CrcMore(0, text)
}

// crcByte moves the register on by one byte.
func crcByte(register uint32, b byte) uint32 {
	// The byte's bits reach the lowest place in turn, so all may be put in ahead.
	register ^= uint32(b)
	for range 8 {
		low := register & 1
		register >>= 1
		if low == 1 {
			register ^= 0xEDB88320
		}
	}
	return register
}

// CrcMore: see chapter 2.
func CrcMore(crc int64, text string) int64 {
	if len(text) > MaxBytes || crc < 0 || crc > 0xFFFFFFFF {
		return 0
	}
	register := ^uint32(crc)
	for i := 0; i < len(text); i++ {
		register = crcByte(register, text[i])
	}
	return int64(^register)
}

// sealBytes is what Seal puts behind a text.
func sealBytes(text string) string {
	crc := Crc(text)
	return string([]byte{byte(crc), byte(crc >> 8), byte(crc >> 16), byte(crc >> 24)})
}

// Seal: see chapter 2.
func Seal(text string) string {
	if len(text) > MaxBytes-4 {
		return ""
	}
	return joined(text, sealBytes(text))
}

// Unseal: see chapter 2.
func Unseal(text string) TextOut {
	if len(text) > MaxBytes {
		return TextOut{Code: ErrSize}
	}
	if len(text) < 4 {
		return TextOut{Code: ErrShort}
	}
	body := text[:len(text)-4]
	if Seal(body) != text {
		return TextOut{Code: ErrSum}
	}
	return TextOut{Text: joined(body, "")}
}
