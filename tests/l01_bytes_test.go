package tests

import (
	"encoding/binary"
	"fmt"
	"hash/crc32"
	"math"
	"strings"
	"testing"

	"loop.example/g00386/impl"
)

func numFails(t *testing.T, what string, text string, at int64, code int64) {
	t.Helper()
	same(t, "GetNum "+what, impl.GetNum(text, at), impl.NumOut{Code: code})
}

func textFails(t *testing.T, what string, text string, at int64, code int64) {
	t.Helper()
	same(t, "GetText "+what, impl.GetText(text, at), impl.TextOut{Code: code})
}

func unsealFails(t *testing.T, what string, text string, code int64) {
	t.Helper()
	same(t, "Unseal "+what, impl.Unseal(text), impl.TextOut{Code: code})
}

// edgeNums has, for every length of one to ten bytes, the least and the
// greatest number of that length, of both signs.
func edgeNums() []int64 {
	nums := []int64{0, -1, 1, -2, math.MaxInt64, math.MinInt64}
	for bits := 6; bits < 63; bits += 7 {
		n := int64(1) << bits
		nums = append(nums, n-1, n, -n, -n-1)
	}
	return append(nums, math.MaxInt64-1, math.MinInt64+1)
}

func TestConstants(t *testing.T) {
	codes := []int{impl.OK, impl.ErrForm, impl.ErrSize, impl.ErrSyntax, impl.ErrShort, impl.ErrSum,
		impl.ErrNone, impl.ErrThere, impl.ErrRange, impl.ErrFull, impl.ErrState, impl.ErrPower}
	for i, c := range codes {
		same(t, "code", c, i)
	}
	same(t, "limits", [3]int{impl.MaxBytes, impl.MaxList, impl.MaxTime}, [3]int{20000, 400, 1000000000})
}

func TestExamplesOfChapter2(t *testing.T) {
	same(t, "PutNum(0)", impl.PutNum(0), "\x00")
	same(t, "PutNum(-1)", impl.PutNum(-1), "\x01")
	same(t, "PutNum(64)", impl.PutNum(64), "\x80\x01")
	same(t, "GetText", impl.GetText("x\x04ab", 1), impl.TextOut{Text: "ab", At: 4})
	same(t, "Crc of digits", impl.Crc("123456789"), 3421780262)
	same(t, "Crc of nothing", impl.Crc(""), 0)
	same(t, "NameRight(a_9)", impl.NameRight("a_9"), true)
	same(t, "NameRight(_a)", impl.NameRight("_a"), false)
}

// Promise 1.

func TestPutNumBytes(t *testing.T) {
	cases := []struct {
		n    int64
		want string
	}{
		{1, "\x02"},
		{-2, "\x03"},
		{63, "\x7e"},
		{-64, "\x7f"},
		{-65, "\x81\x01"},
		{8191, "\xfe\x7f"},
		{-8192, "\xff\x7f"},
		{8192, "\x80\x80\x01"},
		{math.MaxInt64, "\xfe\xff\xff\xff\xff\xff\xff\xff\xff\x01"},
		{math.MinInt64, "\xff\xff\xff\xff\xff\xff\xff\xff\xff\x01"},
	}
	for _, c := range cases {
		same(t, fmt.Sprint("PutNum ", c.n), impl.PutNum(c.n), c.want)
	}
}

func TestNumsAreDecoded(t *testing.T) {
	nums := edgeNums()
	r := dice()
	for range 2000 {
		nums = append(nums, int64(r.Uint64())>>r.Intn(64))
	}
	sizes := map[int]int{}
	for _, n := range nums {
		code := impl.PutNum(n)
		sizes[len(code)]++
		same(t, fmt.Sprint("PutNum ", n), code, string(binary.AppendVarint(nil, n)))
		size := int64(len(code))
		same(t, fmt.Sprint("alone ", n), impl.GetNum(code, 0), impl.NumOut{N: n, At: size})
		same(t, fmt.Sprint("inside ", n), impl.GetNum("\x80\x80"+code+"\x80\x00", 2), impl.NumOut{N: n, At: size + 2})
	}
	for size := 1; size <= 10; size++ {
		if sizes[size] == 0 {
			t.Errorf("no number of %d bytes was tried", size)
		}
	}
}

func TestGetNumOffsets(t *testing.T) {
	numFails(t, "at -1", "\x00", -1, impl.ErrForm)
	numFails(t, "at the least offset", "\x00", math.MinInt64, impl.ErrForm)
	numFails(t, "at -1 of nothing", "", -1, impl.ErrForm)
	numFails(t, "of nothing", "", 0, impl.ErrShort)
	numFails(t, "at the end", "\x00", 1, impl.ErrShort)
	numFails(t, "behind the end", "\x00", 2, impl.ErrShort)
	numFails(t, "far behind the end", "\x00", 1<<32, impl.ErrShort)
	numFails(t, "at the greatest offset", "\x00", math.MaxInt64, impl.ErrShort)
}

func TestGetNumTruncated(t *testing.T) {
	for _, n := range edgeNums() {
		code := impl.PutNum(n)
		for size := range len(code) {
			numFails(t, fmt.Sprint("truncated ", n), code[:size], 0, impl.ErrShort)
		}
	}
}

func TestGetNumTenthByte(t *testing.T) {
	nine := strings.Repeat("\x80", 9)
	same(t, "tenth byte 1", impl.GetNum(nine+"\x01", 0), impl.NumOut{N: 1 << 62, At: 10})
	numFails(t, "nine bytes", nine, 0, impl.ErrShort)
	numFails(t, "tenth byte 0", nine+"\x00", 0, impl.ErrSyntax)
	for b := 2; b < 256; b++ {
		tenth := string([]byte{byte(b)})
		numFails(t, "great tenth byte at the end", nine+tenth, 0, impl.ErrSyntax)
		numFails(t, "great tenth byte before others", nine+tenth+"\x01", 0, impl.ErrSyntax)
	}
}

func TestGetNumLongerThanNecessary(t *testing.T) {
	for size := 1; size <= 9; size++ {
		numFails(t, "of zero", strings.Repeat("\x80", size)+"\x00", 0, impl.ErrSyntax)
		numFails(t, "of another number", strings.Repeat("\xff", size)+"\x00", 0, impl.ErrSyntax)
	}
	numFails(t, "inside", "a\x81\x00\x01", 1, impl.ErrSyntax)
}

func TestGetNumSize(t *testing.T) {
	full := repeated(impl.MaxBytes-1) + "\x03"
	same(t, "full", impl.GetNum(full, impl.MaxBytes-1), impl.NumOut{N: -2, At: impl.MaxBytes})
	numFails(t, "too long", full+"\x00", 0, impl.ErrSize)
	numFails(t, "too long, at -1", full+"\x00", -1, impl.ErrSize)
	numFails(t, "too long, behind the end", full+"\x00", math.MaxInt64, impl.ErrSize)
}

func TestTextsAreDecoded(t *testing.T) {
	r := dice()
	for _, size := range []int{0, 1, 2, 63, 64, 65, 300, 8191, 8192, impl.MaxBytes - 4, impl.MaxBytes - 3} {
		want := randomText(r, size)
		code := impl.PutText(want)
		same(t, "PutText", code, impl.PutNum(int64(size))+want)
		same(t, "alone", impl.GetText(code, 0), impl.TextOut{Text: want, At: int64(len(code))})
		if len(code) <= impl.MaxBytes-5 {
			out := impl.TextOut{Text: want, At: int64(len(code)) + 3}
			same(t, "inside", impl.GetText("\xff\xff\xff"+code+"yz", 3), out)
		}
	}
}

func TestPutTextLimit(t *testing.T) {
	full := repeated(impl.MaxBytes)
	same(t, "full", impl.PutText(full), impl.PutNum(impl.MaxBytes)+full)
	same(t, "too long", impl.PutText(full+"x"), "")
	textFails(t, "of a full one", impl.PutText(full), 0, impl.ErrSize)
}

func TestGetTextOffsets(t *testing.T) {
	textFails(t, "at -1", "\x00", -1, impl.ErrForm)
	textFails(t, "at the least offset", "\x00", math.MinInt64, impl.ErrForm)
	textFails(t, "of nothing", "", 0, impl.ErrShort)
	textFails(t, "behind the end", "\x02a", 3, impl.ErrShort)
	textFails(t, "at the greatest offset", "\x02a", math.MaxInt64, impl.ErrShort)
	textFails(t, "too long, at -1", repeated(impl.MaxBytes+1), -1, impl.ErrSize)
}

func TestGetTextLengths(t *testing.T) {
	textFails(t, "with a truncated length", "\x80", 0, impl.ErrShort)
	textFails(t, "with a length of too many bytes", "\x84\x00ab", 0, impl.ErrSyntax)
	textFails(t, "with a great tenth byte", strings.Repeat("\x80", 9)+"\x02", 0, impl.ErrSyntax)
	for _, n := range []int64{-1, -impl.MaxBytes, math.MinInt64, impl.MaxBytes + 1, 1 << 40, math.MaxInt64} {
		textFails(t, fmt.Sprint("with the length ", n), impl.PutNum(n)+"abc", 0, impl.ErrSyntax)
	}
	textFails(t, "with the greatest length", impl.PutNum(impl.MaxBytes)+"abc", 0, impl.ErrShort)
	textFails(t, "that lacks one byte", impl.PutNum(4)+"abc", 0, impl.ErrShort)
	same(t, "followed by a byte", impl.GetText(impl.PutNum(2)+"abc", 0), impl.TextOut{Text: "ab", At: 3})
	code := impl.PutText(repeated(300))
	for size := range len(code) {
		textFails(t, "truncated", code[:size], 0, impl.ErrShort)
	}
}

func TestNameRight(t *testing.T) {
	letters := "abcdefghijklmnopqrstuvwxyz"
	for b := range 256 {
		one := string([]byte{byte(b)})
		letter := strings.Contains(letters, one)
		same(t, fmt.Sprint("first byte ", b), impl.NameRight(one), letter)
		right := letter || strings.Contains("0123456789_", one)
		same(t, fmt.Sprint("second byte ", b), impl.NameRight("a"+one), right)
		same(t, fmt.Sprint("twentieth byte ", b), impl.NameRight(repeated(19)+one), right)
	}
	same(t, "empty", impl.NameRight(""), false)
	same(t, "20 bytes", impl.NameRight(repeated(20)), true)
	same(t, "21 bytes", impl.NameRight(repeated(21)), false)
	same(t, "too long", impl.NameRight(repeated(impl.MaxBytes+1)), false)
}

// Promise 2.

func TestCrcIsContinued(t *testing.T) {
	r := dice()
	for range 200 {
		a, b := randomText(r, r.Intn(60)), randomText(r, r.Intn(60))
		whole := int64(crc32.ChecksumIEEE([]byte(a + b)))
		same(t, "Crc", impl.Crc(a+b), whole)
		same(t, "CrcMore", impl.CrcMore(impl.Crc(a), b), whole)
		same(t, "CrcMore of nothing", impl.CrcMore(whole, ""), whole)
	}
	for b := range 256 {
		one := []byte{byte(b)}
		same(t, "Crc of a byte", impl.Crc(string(one)), int64(crc32.ChecksumIEEE(one)))
	}
}

func TestCrcLimits(t *testing.T) {
	full := repeated(impl.MaxBytes)
	sum := int64(crc32.ChecksumIEEE([]byte(full)))
	twice := int64(crc32.ChecksumIEEE([]byte(full + full)))
	same(t, "Crc full", impl.Crc(full), sum)
	same(t, "Crc too long", impl.Crc(full+"x"), 0)
	same(t, "CrcMore full", impl.CrcMore(sum, full), twice)
	same(t, "CrcMore too long", impl.CrcMore(sum, full+"x"), 0)
}

func TestCrcMoreRange(t *testing.T) {
	for _, crc := range []int64{-1, 1 << 32, 1<<32 + 5, math.MinInt64, math.MaxInt64} {
		same(t, fmt.Sprint("CrcMore ", crc), impl.CrcMore(crc, "a"), 0)
		same(t, fmt.Sprint("CrcMore of nothing ", crc), impl.CrcMore(crc, ""), 0)
	}
	for _, crc := range []uint32{0, 1, 1 << 31, math.MaxUint32} {
		want := int64(crc32.Update(crc, crc32.IEEETable, []byte("a")))
		same(t, fmt.Sprint("CrcMore ", crc), impl.CrcMore(int64(crc), "a"), want)
		same(t, fmt.Sprint("CrcMore of nothing ", crc), impl.CrcMore(int64(crc), ""), int64(crc))
	}
}

func TestSealBytes(t *testing.T) {
	same(t, "Seal of nothing", impl.Seal(""), "\x00\x00\x00\x00")
	same(t, "Seal of digits", impl.Seal("123456789"), "123456789\x26\x39\xf4\xcb")
}

func TestSealIsRecovered(t *testing.T) {
	r := dice()
	for _, size := range []int{0, 1, 3, 4, 5, 100, 1000, impl.MaxBytes - 5, impl.MaxBytes - 4} {
		want := randomText(r, size)
		sealed := impl.Seal(want)
		same(t, "length", len(sealed), size+4)
		same(t, "Unseal", impl.Unseal(sealed), impl.TextOut{Text: want})
	}
}

func TestSealLimits(t *testing.T) {
	same(t, "Seal of one byte too many", impl.Seal(repeated(impl.MaxBytes-3)), "")
	same(t, "Seal of far too many", impl.Seal(repeated(impl.MaxBytes+1)), "")
	for size := range 4 {
		unsealFails(t, "of few bytes", strings.Repeat("\x00", size), impl.ErrShort)
	}
	same(t, "Unseal of nothing", impl.Unseal("\x00\x00\x00\x00"), impl.TextOut{})
	unsealFails(t, "too long", repeated(impl.MaxBytes+1), impl.ErrSize)
	unsealFails(t, "full", repeated(impl.MaxBytes), impl.ErrSum)
}

func TestChangedSealIsRejected(t *testing.T) {
	for _, text := range []string{"", "a", "ab\x00\xff", "a message"} {
		sealed := impl.Seal(text)
		for i := range len(sealed) {
			for change := 1; change < 256; change++ {
				changed := withByte(sealed, i, sealed[i]^byte(change))
				unsealFails(t, fmt.Sprint("with byte ", i, " changed"), changed, impl.ErrSum)
			}
		}
	}
	full := impl.Seal(repeated(impl.MaxBytes - 4))
	for i := 0; i < len(full); i += 997 {
		unsealFails(t, "full, changed", withByte(full, i, full[i]+1), impl.ErrSum)
	}
	unsealFails(t, "full, last byte changed", withByte(full, len(full)-1, full[len(full)-1]+1), impl.ErrSum)
}
