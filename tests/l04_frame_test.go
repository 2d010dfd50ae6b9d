package tests

import (
	"encoding/binary"
	"fmt"
	"hash/crc32"
	"math"
	"math/rand"
	"slices"
	"strings"
	"testing"

	"loop.example/g00386/impl"
)

const longest = 1000

// rightFrame makes a frame without the program, also of a string that is too
// long for one.
func rightFrame(text string) string {
	out := binary.AppendVarint(nil, int64(len(text)+4))
	out = append(out, text...)
	return string(binary.LittleEndian.AppendUint32(out, crc32.ChecksumIEEE([]byte(text))))
}

func rightFrames(texts []string) string {
	var out strings.Builder
	for _, text := range texts {
		out.WriteString(rightFrame(text))
	}
	return out.String()
}

func frameFails(t *testing.T, what string, text string, at int64, code int64) {
	t.Helper()
	same(t, "FrameAt "+what, impl.FrameAt(text, at), impl.TextOut{Code: code})
}

func framesAre(t *testing.T, what string, text string, at int, want ...string) {
	t.Helper()
	got := impl.FramesRead(text)
	if got.Code != impl.OK || got.At != int64(at) || !slices.Equal(got.Texts, want) {
		t.Errorf("FramesRead %s: got %s, want %s up to %d", what, shown(got), shown(want), at)
	}
}

// framesStepwise reads frames by the words of the document: FrameAt at one
// offset after the other, until it returns a code.
func framesStepwise(text string) ([]string, int) {
	var out []string
	at := int64(0)
	for {
		frame := impl.FrameAt(text, at)
		if frame.Code != impl.OK {
			return out, int(at)
		}
		out = append(out, frame.Text)
		at = frame.At
	}
}

func frameSizes() []int {
	return []int{0, 1, 2, 3, 4, 5, 58, 59, 60, 61, 63, 64, 255, 256, 500, longest - 1, longest}
}

// fullTexts has strings whose frames have exactly MaxBytes bytes together.
func fullTexts() []string {
	var out []string
	left := impl.MaxBytes
	for left > 2000 {
		out = append(out, repeated(longest))
		left -= longest + 6
	}
	return append(out, repeated(left-1000-6), repeated(1000-6))
}

func randomTexts(r *rand.Rand) []string {
	var out []string
	for range r.Intn(8) {
		size := r.Intn(12)
		if r.Intn(5) == 0 {
			size = r.Intn(longest + 1)
		}
		out = append(out, randomText(r, size))
	}
	return out
}

func TestExampleOfChapter5(t *testing.T) {
	code := impl.FramesOf([]string{"a", "", "bc"})
	got := impl.FramesRead(code[:len(code)-1])
	same(t, "strings", strings.Join(got.Texts, ","), "a,")
	same(t, "offset and code", [2]int64{got.At, got.Code}, [2]int64{11, impl.OK})
}

// Promise 6.

func TestFrameBytes(t *testing.T) {
	same(t, "of nothing", impl.FrameOf(""), "\x08\x00\x00\x00\x00")
	same(t, "of digits", impl.FrameOf("123456789"), "\x1a123456789\x26\x39\xf4\xcb")
	same(t, "of two strings", impl.FramesOf([]string{"123456789", ""}), "\x1a123456789\x26\x39\xf4\xcb\x08\x00\x00\x00\x00")
	full := impl.FrameOf(repeated(longest))
	same(t, "length of 1000 bytes", full[:2], "\xd8\x0f")
	same(t, "bytes of the greatest frame", len(full), 1006)
}

func TestFrameIsDecoded(t *testing.T) {
	r := dice()
	for _, size := range frameSizes() {
		text := randomText(r, size)
		frame := impl.FrameOf(text)
		what := fmt.Sprint("of ", size, " bytes")
		same(t, "FrameOf "+what, frame, rightFrame(text))
		same(t, "as composed "+what, frame, impl.PutText(impl.Seal(text)))
		same(t, "alone "+what, impl.FrameAt(frame, 0), impl.TextOut{Text: text, At: int64(len(frame))})
		inside := impl.FrameAt("\xff\xff"+frame+"yz", 2)
		same(t, "inside "+what, inside, impl.TextOut{Text: text, At: int64(len(frame)) + 2})
		framesAre(t, what, frame, len(frame), text)
	}
}

func TestFrameOfLimit(t *testing.T) {
	for _, size := range []int{longest + 1, longest + 2, 5000, impl.MaxBytes - 4, impl.MaxBytes, impl.MaxBytes + 1} {
		same(t, fmt.Sprint("FrameOf ", size, " bytes"), impl.FrameOf(repeated(size)), "")
	}
}

func TestFrameAtOffsets(t *testing.T) {
	frame := impl.FrameOf("abc")
	size := int64(len(frame))
	for _, at := range []int64{-1, -2, math.MinInt64} {
		frameFails(t, fmt.Sprint("at ", at), frame, at, impl.ErrForm)
		frameFails(t, fmt.Sprint("of nothing at ", at), "", at, impl.ErrForm)
	}
	for _, at := range []int64{size, size + 1, 1 << 32, math.MaxInt64} {
		frameFails(t, fmt.Sprint("at ", at), frame, at, impl.ErrShort)
	}
	frameFails(t, "of nothing", "", 0, impl.ErrShort)
	two := frame + impl.FrameOf("de")
	same(t, "second frame", impl.FrameAt(two, size), impl.TextOut{Text: "de", At: int64(len(two))})
}

func TestFrameAtSize(t *testing.T) {
	frame := impl.FrameOf("abc")
	full := repeated(impl.MaxBytes-len(frame)) + frame
	at := int64(impl.MaxBytes - len(frame))
	same(t, "full", impl.FrameAt(full, at), impl.TextOut{Text: "abc", At: impl.MaxBytes})
	frameFails(t, "at the end of a full one", full, impl.MaxBytes, impl.ErrShort)
	for _, at := range []int64{0, -1, at + 1, math.MaxInt64, math.MinInt64} {
		frameFails(t, fmt.Sprint("too long, at ", at), "x"+full, at, impl.ErrSize)
	}
	frameFails(t, "too long, behind a frame", frame+repeated(impl.MaxBytes), 0, impl.ErrSize)
}

// A length that fails comes before a seal that fails.
func TestFrameAtLengths(t *testing.T) {
	sealed := impl.Seal("abc")
	frameFails(t, "with a cut length", "\x80", 0, impl.ErrShort)
	frameFails(t, "with a length of too many bytes", "\x8e\x00"+sealed, 0, impl.ErrSyntax)
	frameFails(t, "with a great tenth byte", strings.Repeat("\x80", 9)+"\x02"+sealed, 0, impl.ErrSyntax)
	for _, n := range []int64{-1, math.MinInt64, impl.MaxBytes + 1, math.MaxInt64} {
		frameFails(t, fmt.Sprint("with the length ", n), impl.PutNum(n)+sealed, 0, impl.ErrSyntax)
	}
	for _, n := range []int64{8, longest + 4, longest + 5, impl.MaxBytes} {
		frameFails(t, fmt.Sprint("with the length ", n), impl.PutNum(n)+sealed, 0, impl.ErrShort)
	}
	for n := int64(0); n < 4; n++ {
		frameFails(t, fmt.Sprint("with the length ", n), impl.PutNum(n)+sealed, 0, impl.ErrShort)
	}
	frameFails(t, "without its last byte of the string", impl.PutNum(6)+sealed, 0, impl.ErrSum)
}

func TestCutFrame(t *testing.T) {
	r := dice()
	first := impl.FrameOf("first")
	for _, size := range []int{0, 1, 5, 59, 60, 200, longest} {
		frame := impl.FrameOf(randomText(r, size))
		for cut := range len(frame) {
			what := fmt.Sprint("of ", size, " bytes cut at ", cut)
			frameFails(t, what, frame[:cut], 0, impl.ErrShort)
			frameFails(t, what+" behind another", first+frame[:cut], int64(len(first)), impl.ErrShort)
			framesAre(t, what, frame[:cut], 0)
			framesAre(t, what+" behind another", first+frame[:cut], len(first), "first")
		}
	}
}

func TestChangedFrame(t *testing.T) {
	first, last := impl.FrameOf("first"), impl.FrameOf("last")
	for _, text := range []string{"", "a", "ab\x00\xff", repeated(70)} {
		frame := impl.FrameOf(text)
		head := len(frame) - len(text) - 4
		for i := range len(frame) {
			for change := 1; change < 256; change++ {
				changed := withByte(frame, i, frame[i]^byte(change))
				what := fmt.Sprint("with byte ", i, " changed by ", change)
				if i >= head {
					frameFails(t, what, changed, 0, impl.ErrSum)
				} else if got := impl.FrameAt(changed, 0); got.Code == impl.OK || got.At != 0 || got.Text != "" {
					t.Errorf("FrameAt %s: got %s", what, shown(got))
				}
				framesAre(t, what, first+changed+last, len(first), "first")
			}
		}
	}
	full := impl.FrameOf(repeated(longest))
	for i := 2; i < len(full); i += 7 {
		frameFails(t, "of 1000 bytes, changed", withByte(full, i, full[i]+1), 0, impl.ErrSum)
	}
}

// The limit is the last check: neither the length nor the seal is wrong here.
func TestFrameOfTooLongString(t *testing.T) {
	first, last := impl.FrameOf("first"), impl.FrameOf("last")
	for _, size := range []int{longest + 1, longest + 2, 2000, 8000, impl.MaxBytes - 7} {
		long := rightFrame(repeated(size))
		what := fmt.Sprint("of ", size, " bytes")
		frameFails(t, what, long, 0, impl.ErrSize)
		framesAre(t, what, long, 0)
		frameFails(t, what+" with a changed byte", withByte(long, 5, 'y'), 0, impl.ErrSum)
		frameFails(t, what+" without its last byte", long[:len(long)-1], 0, impl.ErrShort)
		if size < impl.MaxBytes-100 {
			frameFails(t, what+" behind another", first+long+last, int64(len(first)), impl.ErrSize)
			framesAre(t, what+" behind another", first+long+last, len(first), "first")
		}
	}
	most := rightFrame(repeated(longest))
	same(t, "of 1000 bytes", impl.FrameAt(most, 0), impl.TextOut{Text: repeated(longest), At: 1006})
}

func TestFramesAreDecoded(t *testing.T) {
	r := dice()
	for range 200 {
		texts := randomTexts(r)
		code := impl.FramesOf(texts)
		same(t, "FramesOf", code, rightFrames(texts))
		framesAre(t, "of all", code, len(code), texts...)
	}
	for _, size := range frameSizes() {
		texts := []string{randomText(r, size), "middle", randomText(r, size)}
		code := impl.FramesOf(texts)
		same(t, "FramesOf", code, rightFrames(texts))
		framesAre(t, "of three", code, len(code), texts...)
	}
}

func TestPrefixYieldsFirstStrings(t *testing.T) {
	r := dice()
	for range 40 {
		texts := append(randomTexts(r), "", randomText(r, 60), "last")
		code := impl.FramesOf(texts)
		ends := []int{0}
		for _, text := range texts {
			ends = append(ends, ends[len(ends)-1]+len(impl.FrameOf(text)))
		}
		for size := range len(code) + 1 {
			count := len(ends) - 1
			for ends[count] > size {
				count--
			}
			framesAre(t, fmt.Sprint("of the first ", size, " bytes"), code[:size], ends[count], texts[:count]...)
		}
	}
}

func TestFramesOfNothing(t *testing.T) {
	same(t, "nil", impl.FramesOf(nil), "")
	same(t, "empty list", impl.FramesOf([]string{}), "")
	same(t, "list of the empty string", impl.FramesOf([]string{""}), "\x08\x00\x00\x00\x00")
	framesAre(t, "nothing", "", 0)
	framesAre(t, "the frame of nothing", "\x08\x00\x00\x00\x00", 5, "")
}

func TestFramesOfLongString(t *testing.T) {
	for _, size := range []int{longest + 1, 5000, impl.MaxBytes, impl.MaxBytes + 1} {
		long := repeated(size)
		what := fmt.Sprint("with ", size, " bytes ")
		same(t, what+"alone", impl.FramesOf([]string{long}), "")
		same(t, what+"first", impl.FramesOf([]string{long, "a"}), "")
		same(t, what+"in the middle", impl.FramesOf([]string{"a", long, "b"}), "")
		same(t, what+"last", impl.FramesOf([]string{"a", "", long}), "")
	}
	most := []string{"a", repeated(longest), "b"}
	same(t, "with 1000 bytes", impl.FramesOf(most), rightFrames(most))
}

func TestFramesOfList(t *testing.T) {
	many := make([]string, impl.MaxList+1)
	for i := range many {
		many[i] = fmt.Sprint(i)
	}
	most := many[:impl.MaxList]
	code := impl.FramesOf(most)
	same(t, "MaxList strings", code, rightFrames(most))
	framesAre(t, "of MaxList strings", code, len(code), most...)
	same(t, "one more", impl.FramesOf(many), "")
	same(t, "one more, all empty", impl.FramesOf(make([]string, impl.MaxList+1)), "")
	same(t, "far more", impl.FramesOf(make([]string, 10*impl.MaxList)), "")
}

func TestFramesOfRoom(t *testing.T) {
	texts := fullTexts()
	code := impl.FramesOf(texts)
	same(t, "bytes of full frames", len(code), impl.MaxBytes)
	same(t, "full frames", code, rightFrames(texts))
	framesAre(t, "of full frames", code, impl.MaxBytes, texts...)
	same(t, "one string more", impl.FramesOf(append(slices.Clone(texts), "")), "")
	for i, text := range texts {
		if len(text) < longest {
			more := slices.Clone(texts)
			more[i] += "x"
			same(t, "one byte more", impl.FramesOf(more), "")
			more[i] = text[1:]
			same(t, "one byte less", impl.FramesOf(more), rightFrames(more))
		}
	}
	great := make([]string, 20)
	for i := range great {
		great[i] = repeated(longest)
	}
	same(t, "twenty of 1000 bytes", impl.FramesOf(great), "")
	same(t, "nineteen of 1000 bytes", impl.FramesOf(great[:19]), rightFrames(great[:19]))
}

func TestFramesReadSize(t *testing.T) {
	// Reading has no limit on the number of strings but that of bytes.
	code := strings.Repeat("\x08\x00\x00\x00\x00", impl.MaxBytes/5)
	framesAre(t, "of MaxBytes bytes", code, impl.MaxBytes, make([]string, impl.MaxBytes/5)...)
	for _, long := range []string{code + "x", code + code, repeated(impl.MaxBytes + 1)} {
		got := impl.FramesRead(long)
		if got.Code != impl.ErrSize || got.At != 0 || len(got.Texts) != 0 {
			t.Errorf("FramesRead too long: got %s", shown(got))
		}
	}
	framesAre(t, "of no frames", repeated(impl.MaxBytes), 0)
}

func TestFramesReadBytesBehind(t *testing.T) {
	code := impl.FramesOf([]string{"a", "bc"})
	behind := []string{"\x00", "\x01", "\x02x", "\x06abc", "\x08\x00\x00\x00\x01", "\x08\x00\x00\x00", "\x80", "\x88\x00\x00\x00\x00\x00",
		"\xff", strings.Repeat("\xff", 20), repeated(300), rightFrame(repeated(longest + 1)), impl.PutNum(impl.MaxBytes + 1)}
	for _, bytes := range behind {
		framesAre(t, "before "+shown(bytes), code+bytes, len(code), "a", "bc")
		framesAre(t, "before a frame behind "+shown(bytes), code+bytes+"\x08\x00\x00\x00\x00", len(code), "a", "bc")
		framesAre(t, "alone "+shown(bytes), bytes, 0)
	}
}

func TestFramesReadStopsWhereFrameAtDoes(t *testing.T) {
	r := dice()
	for range 1500 {
		text := rightFrames(randomTexts(r)) + randomText(r, r.Intn(4))
		if r.Intn(4) == 0 {
			text = rightFrame(randomText(r, 990+r.Intn(20))) + text
		}
		for range r.Intn(3) {
			if text != "" {
				text = withByte(text, r.Intn(len(text)), byte(r.Intn(256)))
			}
		}
		want, at := framesStepwise(text)
		framesAre(t, "of changed frames", text, at, want...)
	}
}

func TestFramesShareNoMemory(t *testing.T) {
	text := randomText(dice(), 50)
	frame := impl.FrameOf(text)
	sharesNone(t, "FrameOf", []string{frame}, []string{text})
	sharesNone(t, "FrameAt", []string{impl.FrameAt(frame, 0).Text}, []string{frame})
	texts := []string{text, repeated(60), "abc"}
	code := impl.FramesOf(texts)
	sharesNone(t, "FramesOf", []string{code}, texts)
	sharesNone(t, "FramesOf of one", []string{impl.FramesOf(texts[:1])}, texts)
	got := impl.FramesRead(code).Texts
	sharesNone(t, "FramesRead", got, []string{code})
	for i := range got {
		sharesNone(t, "strings of FramesRead", got[:i], got[i:])
	}
}

func TestFramesLeaveArguments(t *testing.T) {
	room := []string{"a", "", "bc", "behind", "far behind"}
	before := slices.Clone(room)
	first := impl.FramesOf(room[:3])
	if !slices.Equal(room, before) {
		t.Errorf("FramesOf changed its list or the room behind it: %s", shown(room))
	}
	got := impl.FramesRead(first)
	got.Texts[0] = "changed"
	framesAre(t, "after an answer is changed", first, len(first), "a", "", "bc")
	same(t, "FramesOf again", impl.FramesOf(room[:3]), first)
}
