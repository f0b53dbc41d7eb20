package impl

import (
	"errors"
	"strconv"
)

// Constants, see chapter 1.
const (
	OK        = 0
	ErrForm   = 1
	ErrSize   = 2
	ErrSyntax = 3
	ErrShort  = 4
	ErrSum    = 5
	ErrNone   = 6
	ErrThere  = 7
	ErrRange  = 8
	ErrFull   = 9
	ErrState  = 10
	ErrHeld   = 11
	MaxBytes  = 8000
	MaxList   = 400
	MaxTime   = 1000000
)

const (
	maxNumBytes  = 10
	maxNameBytes = 20
	sumBytes     = 4
	crcPoly      = 0xEDB88320
	crcMost      = 1<<32 - 1
)

// NumOut is a thing of chapter 2.
type NumOut struct {
	N    int64
	At   int64
	Code int64
}

// TextOut is a thing of chapter 2.
type TextOut struct {
	Text string
	At   int64
	Code int64
}

// wrongBytes is why nothing could be read, as the code that a face tells.
type wrongBytes struct {
	code int64
}

func (w wrongBytes) Error() string {
	return "wrong bytes, code " + strconv.FormatInt(w.code, 10)
}

func codeOf(err error) int64 {
	var wrong wrongBytes
	if errors.As(err, &wrong) {
		return wrong.code
	}
	return OK
}

// joined copies its parts, also a single one: a piece of an argument would
// share the argument's memory.
func joined(parts ...string) string {
	size := 0
	for _, part := range parts {
		size += len(part)
	}
	out := make([]byte, size)
	at := 0
	for _, part := range parts {
		at += copy(out[at:], part)
	}
	return string(out)
}

// PutNum: see chapter 2.
func PutNum(n int64) string {
	// In two's complement -2n-1 is 2n with all bits turned, for the least
	// int64, too.
	u := uint64(n) << 1
	if n < 0 {
		u = ^u
	}
	var out [maxNumBytes]byte
	size := 0
	for u >= 128 {
		out[size] = byte(u) | 128
		u >>= 7
		size++
	}
	out[size] = byte(u)
	return string(out[:size+1])
}

// readBits reads the number's bits, and the place behind them; at is not below 0.
func readBits(text string, at int64) (uint64, int64, error) {
	var u uint64
	var b byte
	var count uint
	var code int64 = ErrShort
more:
	if at >= int64(len(text)) {
		goto wrong
	}
	b = text[at]
	at++
	count++
	if b < 128 || count == maxNumBytes {
		goto last
	}
	u |= uint64(b&127) << (7 * (count - 1))
	goto more
last:
	code = ErrSyntax
	// The tenth byte has room for the bit 63 alone; a last byte 0 behind
	// others is needless.
	if count == maxNumBytes && b > 1 || count > 1 && b == 0 {
		goto wrong
	}
	return u | uint64(b)<<(7*(count-1)), at, nil
wrong:
	return 0, 0, wrongBytes{code}
}

func readNum(text string, at int64) (int64, int64, error) {
	if len(text) > MaxBytes {
		return 0, 0, wrongBytes{ErrSize}
	}
	if at < 0 {
		return 0, 0, wrongBytes{ErrForm}
	}
	u, behind, err := readBits(text, at)
	if err != nil {
		return 0, 0, err
	}
	n := int64(u >> 1)
	if u&1 == 1 {
		n = ^n
	}
	return n, behind, nil
}

// GetNum: see chapter 2.
func GetNum(text string, at int64) NumOut {
	n, behind, err := readNum(text, at)
	return NumOut{N: n, At: behind, Code: codeOf(err)}
}

// PutText: see chapter 2.
func PutText(t string) string {
	if len(t) > MaxBytes {
		return ""
	}
	return joined(PutNum(int64(len(t))), t)
}

func readText(text string, at int64) (string, int64, error) {
	size, from, err := readNum(text, at)
	if err != nil {
		return "", 0, err
	}
	if size < 0 || size > MaxBytes {
		return "", 0, wrongBytes{ErrSyntax}
	}
	behind := from + size
	if behind > int64(len(text)) {
		return "", 0, wrongBytes{ErrShort}
	}
	return joined(text[from:behind]), behind, nil
}

// GetText: see chapter 2.
func GetText(text string, at int64) TextOut {
	t, behind, err := readText(text, at)
	return TextOut{Text: t, At: behind, Code: codeOf(err)}
}

// bytesReader reads one thing behind the other. Behind the first fault it tells
// zero values only, so that who reads much asks once, at the end.
type bytesReader struct {
	from string
	at   int64
	err  error
}

func (r *bytesReader) num() int64 {
	if r.err != nil {
		return 0
	}
	var n int64
	n, r.at, r.err = readNum(r.from, r.at)
	return n
}

func (r *bytesReader) text() string {
	if r.err != nil {
		return ""
	}
	var t string
	t, r.at, r.err = readText(r.from, r.at)
	return t
}

func isLower(b byte) bool {
	return b >= 'a' && b <= 'z'
}

func isNameByte(b byte) bool {
	return isLower(b) || b >= '0' && b <= '9' || b == '_'
}

// NameRight: see chapter 2.
func NameRight(t string) bool {
	if len(t) < 1 || len(t) > maxNameBytes || !isLower(t[0]) {
		return false
	}
	for i := 1; i < len(t); i++ {
		if !isNameByte(t[i]) {
			return false
		}
	}
	return true
}

func crcByte(register uint32, b byte) uint32 {
	// All eight bits can be put in ahead: each is shifted to the bottom just
	// when its turn comes.
	register ^= uint32(b)
	for range 8 {
		low := register & 1
		register >>= 1
		if low == 1 {
			register ^= crcPoly
		}
	}
	return register
}

// Crc: see chapter 2.
func Crc(text string) int64 {
	// The CRC of the empty text is 0.
	return CrcMore(0, text)
}

// CrcMore: see chapter 2.
func CrcMore(crc int64, text string) int64 {
	if len(text) > MaxBytes || crc < 0 || crc > crcMost {
		return 0
	}
	register := ^uint32(crc)
	for i := 0; i < len(text); i++ {
		register = crcByte(register, text[i])
	}
	return int64(^register)
}

func sumOf(text string) string {
	crc := Crc(text)
	var out [sumBytes]byte
	for i := range out {
		out[i] = byte(crc >> (8 * i))
	}
	return string(out[:])
}

// Seal: see chapter 2.
func Seal(text string) string {
	if len(text) > MaxBytes-sumBytes {
		return ""
	}
	return joined(text, sumOf(text))
}

// Unseal: see chapter 2.
func Unseal(text string) TextOut {
	if len(text) > MaxBytes {
		return TextOut{Code: ErrSize}
	}
	if len(text) < sumBytes {
		return TextOut{Code: ErrShort}
	}
	end := len(text) - sumBytes
	if sumOf(text[:end]) != text[end:] {
		return TextOut{Code: ErrSum}
	}
	return TextOut{Text: joined(text[:end])}
}
