package impl

import (
	"errors"
	"strconv"
	"strings"
)

// Constants, see chapter 1.
const (
	OK        = 0
	ErrForm   = 1
	ErrSize   = 2
	ErrSyntax = 3
	ErrShort  = 4
	ErrSum    = 5
	ErrNone   = 6
	ErrThere  = 7
	ErrRange  = 8
	ErrFull   = 9
	ErrState  = 10
	ErrPower  = 11
	MaxBytes  = 20000
	MaxList   = 400
	MaxTime   = 1000000000
)

const (
	maxNumBytes = 10
	maxName     = 20
	maxCrc      = 1<<32 - 1
	crcPoly     = 0xEDB88320
	crcBytes    = 4
)

// NumOut is a thing of chapter 2.
type NumOut struct {
	N    int64
	At   int64
	Code int64
}

// TextOut is a thing of chapter 2.
type TextOut struct {
	Text string
	At   int64
	Code int64
}

// malformed is the error of an encoding that cannot be decoded.
type malformed struct {
	code int64
}

func (m malformed) Error() string {
	return "malformed encoding, code " + strconv.FormatInt(m.code, 10)
}

// malformedCode falls back to ErrSyntax, so that no failure can pass as OK.
func malformedCode(err error) int64 {
	var m malformed
	if errors.As(err, &m) {
		return m.code
	}
	return ErrSyntax
}

func tooLong(text string) bool {
	return len(text) > MaxBytes
}

func joined(a string, b string) string {
	out := make([]byte, len(a)+len(b))
	copy(out, a)
	copy(out[len(a):], b)
	return string(out)
}

func zigzag(n int64) uint64 {
	u := uint64(n) << 1
	if n < 0 {
		// -2n - 1 is the complement of 2n, and as such cannot overflow.
		return ^u
	}
	return u
}

func unzigzag(u uint64) int64 {
	n := int64(u >> 1)
	if u&1 == 1 {
		return ^n
	}
	return n
}

// PutNum: see chapter 2.
func PutNum(n int64) string {
	u := zigzag(n)
	out := make([]byte, 0, maxNumBytes)
	for u >= 128 {
		out = append(out, byte(u&127)|128)
		u >>= 7
	}
	return string(append(out, byte(u)))
}

// readNum expects an offset that is not negative; it returns the number and
// the offset behind it.
func readNum(text string, at int64) (int64, int64, error) {
	var u uint64
	var b byte
	var size uint
	var code int64

more:
	if at >= int64(len(text)) {
		code = ErrShort
		goto wrong
	}
	b = text[at]
	at++
	size++
	// Nine bytes hold 63 bits, so only one bit is left for the tenth.
	if size == maxNumBytes && b > 1 {
		code = ErrSyntax
		goto wrong
	}
	u |= uint64(b&127) << (7 * (size - 1))
	if b < 128 {
		goto last
	}
	goto more

last:
	if b == 0 && size > 1 {
		code = ErrSyntax
		goto wrong
	}
	return unzigzag(u), at, nil

wrong:
	return 0, 0, malformed{code: code}
}

// GetNum: see chapter 2.
func GetNum(text string, at int64) NumOut {
	if tooLong(text) {
		return NumOut{Code: ErrSize}
	}
	if at < 0 {
		return NumOut{Code: ErrForm}
	}
	n, next, err := readNum(text, at)
	if err != nil {
		return NumOut{Code: malformedCode(err)}
	}
	return NumOut{N: n, At: next}
}

// PutText: see chapter 2.
func PutText(t string) string {
	if tooLong(t) {
		return ""
	}
	return joined(PutNum(int64(len(t))), t)
}

// GetText: see chapter 2.
func GetText(text string, at int64) TextOut {
	size := GetNum(text, at)
	if size.Code != OK {
		return TextOut{Code: size.Code}
	}
	if size.N < 0 || size.N > MaxBytes {
		return TextOut{Code: ErrSyntax}
	}
	end := size.At + size.N
	if end > int64(len(text)) {
		return TextOut{Code: ErrShort}
	}
	return TextOut{Text: strings.Clone(text[size.At:end]), At: end}
}

func isLetter(b byte) bool {
	return b >= 'a' && b <= 'z'
}

func isNameByte(b byte) bool {
	return isLetter(b) || b >= '0' && b <= '9' || b == '_'
}

// NameRight: see chapter 2.
func NameRight(t string) bool {
	if len(t) < 1 || len(t) > maxName || !isLetter(t[0]) {
		return false
	}
	for i := range len(t) {
		if !isNameByte(t[i]) {
			return false
		}
	}
	return true
}

func crcStep(register uint32, b byte) uint32 {
	// The byte can be mixed in at once: its bits meet the lowest bit of the
	// register one by one, as the register is shifted.
	register ^= uint32(b)
	for range 8 {
		low := register & 1
		register >>= 1
		if low == 1 {
			register ^= crcPoly
		}
	}
	return register
}

// Crc: see chapter 2.
func Crc(text string) int64 {
	return CrcMore(0, text)
}

// CrcMore: see chapter 2.
func CrcMore(crc int64, text string) int64 {
	if tooLong(text) || crc < 0 || crc > maxCrc {
		return 0
	}
	register := ^uint32(crc)
	for i := range len(text) {
		register = crcStep(register, text[i])
	}
	return int64(^register)
}

func crcText(crc int64) string {
	out := make([]byte, crcBytes)
	for i := range out {
		out[i] = byte(crc)
		crc >>= 8
	}
	return string(out)
}

// Seal: see chapter 2.
func Seal(text string) string {
	if len(text) > MaxBytes-crcBytes {
		return ""
	}
	return joined(text, crcText(Crc(text)))
}

// Unseal: see chapter 2.
func Unseal(text string) TextOut {
	if tooLong(text) {
		return TextOut{Code: ErrSize}
	}
	if len(text) < crcBytes {
		return TextOut{Code: ErrShort}
	}
	end := len(text) - crcBytes
	if text[end:] != crcText(Crc(text[:end])) {
		return TextOut{Code: ErrSum}
	}
	return TextOut{Text: strings.Clone(text[:end])}
}
