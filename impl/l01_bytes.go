package impl

import (
	"errors"
	"strconv"
	"strings"
)

// Constants, see chapter 1.
const (
	OK        = 0
	ErrForm   = 1
	ErrSize   = 2
	ErrSyntax = 3
	ErrShort  = 4
	ErrSum    = 5
	ErrNone   = 6
	ErrThere  = 7
	ErrRange  = 8
	ErrFull   = 9
	ErrState  = 10
	MaxBytes  = 8000
	MaxList   = 400
	MaxTime   = 1000000
)

// NumOut is a thing of chapter 2.
type NumOut struct {
	N    int64
	At   int64
	Code int64
}

// TextOut is a thing of chapter 2.
type TextOut struct {
	Text string
	At   int64
	Code int64
}

const (
	maxName    = 20
	sumBytes   = 4
	allOnes    = 1<<32 - 1
	crcPoly    = 0xEDB88320
	tenthShift = 63 // nine bytes hold 63 bits: the tenth has room for one
)

// fault is the error of what cannot be read or made; its code is what the caller is told.
type fault struct {
	code int64
}

func (f fault) Error() string {
	return "refused with code " + strconv.FormatInt(f.code, 10)
}

// PutNum writes n in one to ten bytes, so that numbers near 0, below it too, take few.
func PutNum(n int64) string {
	u := foldSign(n)
	var out []byte
	for u >= 128 {
		out = append(out, byte(u)|128)
		u >>= 7
	}
	return string(append(out, byte(u)))
}

// GetNum reads the number that PutNum wrote at that place.
func GetNum(text string, at int64) NumOut {
	n, next, err := readNum(text, at)
	var f fault
	if errors.As(err, &f) {
		return NumOut{Code: f.code}
	}
	return NumOut{N: n, At: next}
}

// PutText writes the length of t, and t.
func PutText(t string) string {
	if tooLong(t) {
		return ""
	}
	return join(PutNum(int64(len(t))), t)
}

// GetText reads the text that PutText wrote at that place.
func GetText(text string, at int64) TextOut {
	t, next, err := readText(text, at)
	var f fault
	if errors.As(err, &f) {
		return TextOut{Code: f.code}
	}
	return TextOut{Text: t, At: next}
}

// NameRight: is t a name?
func NameRight(t string) bool {
	if t == "" || len(t) > maxName || !isLetter(t[0]) {
		return false
	}
	for i := range len(t) {
		if !isLetter(t[i]) && !isDigit(t[i]) && t[i] != '_' {
			return false
		}
	}
	return true
}

// Crc is the CRC of text.
func Crc(text string) int64 {
	// The CRC of the empty text is 0, so that every CRC goes on from it.
	return CrcMore(0, text)
}

// CrcMore is the CRC of a text, whose own CRC is crc, and of this text behind it.
func CrcMore(crc int64, text string) int64 {
	if tooLong(text) || crc < 0 || crc > allOnes {
		return 0
	}
	register := ^uint32(crc)
	for i := range len(text) {
		register = crcByte(register, text[i])
	}
	return int64(^register)
}

// Seal puts the CRC of text behind it.
func Seal(text string) string {
	if len(text) > MaxBytes-sumBytes {
		return ""
	}
	return join(text, sumOf(text))
}

// Unseal takes off the CRC that Seal put there, if it is the right one.
func Unseal(text string) TextOut {
	if tooLong(text) {
		return TextOut{Code: ErrSize}
	}
	if len(text) < sumBytes {
		return TextOut{Code: ErrShort}
	}
	inner := text[:len(text)-sumBytes]
	if text[len(inner):] != sumOf(inner) {
		return TextOut{Code: ErrSum}
	}
	return TextOut{Text: strings.Clone(inner)}
}

func tooLong(text string) bool {
	return len(text) > MaxBytes
}

func isTime(n int64) bool {
	return 0 <= n && n <= MaxTime
}

func isLetter(b byte) bool {
	return 'a' <= b && b <= 'z'
}

func isDigit(b byte) bool {
	return '0' <= b && b <= '9'
}

// join puts the second text behind the first one.
func join(first, second string) string {
	out := make([]byte, len(first)+len(second))
	behind := copy(out, first)
	copy(out[behind:], second)
	return string(out)
}

// foldSign shifts the sign into the lowest bit. The shift drops the number's own top bit, which the
// turned bits of a number below 0 need no more: so the least int64 fits, too.
func foldSign(n int64) uint64 {
	return uint64(n)<<1 ^ uint64(n>>63)
}

// unfoldSign undoes foldSign.
func unfoldSign(u uint64) int64 {
	return int64(u>>1) ^ -int64(u&1)
}

// readNum tells the number at that place and the place behind it, or a fault.
func readNum(text string, at int64) (int64, int64, error) {
	var u uint64
	var shift uint
	var b byte
	code := placeCode(text, at)
	if code != OK {
		goto wrong
	}
more:
	if at >= int64(len(text)) {
		code = ErrShort
		goto wrong
	}
	b = text[at]
	at++
	if shift == tenthShift && b > 1 {
		code = ErrSyntax
		goto wrong
	}
	u |= uint64(b&127) << shift
	if b < 128 {
		goto last
	}
	shift += 7
	goto more
last:
	// A highest group of seven noughts, but for a number's only one, is a byte that was not needed.
	if b == 0 && shift > 0 {
		code = ErrSyntax
		goto wrong
	}
	return unfoldSign(u), at, nil
wrong:
	return 0, 0, fault{code}
}

// placeCode tells what is wrong ahead of the bytes themselves.
func placeCode(text string, at int64) int64 {
	if tooLong(text) {
		return ErrSize
	}
	if at < 0 {
		return ErrForm
	}
	return OK
}

// readText tells the text at that place and the place behind it, or a fault.
func readText(text string, at int64) (string, int64, error) {
	size, start, err := readNum(text, at)
	if err != nil {
		return "", 0, err
	}
	if size < 0 || size > MaxBytes {
		return "", 0, fault{ErrSyntax}
	}
	if size > int64(len(text))-start {
		return "", 0, fault{ErrShort}
	}
	return strings.Clone(text[start : start+size]), start + size, nil
}

// crcByte takes the eight bits of b into the register, the lowest first.
func crcByte(register uint32, b byte) uint32 {
	register ^= uint32(b)
	for range 8 {
		lowest := register & 1
		register >>= 1
		if lowest == 1 {
			register ^= crcPoly
		}
	}
	return register
}

// sumOf is the four bytes of the CRC of text, the lowest first.
func sumOf(text string) string {
	crc := Crc(text)
	var sum [sumBytes]byte
	for i := range sum {
		sum[i] = byte(crc >> (8 * i))
	}
	return string(sum[:])
}
