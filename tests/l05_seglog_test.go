package tests

import (
	"fmt"
	"math"
	"math/rand"
	"slices"
	"strings"
	"testing"

	"loop.example/g00386/impl"
)

// mostTexts is what MaxFiles segments hold, the last of which is not full.
const mostTexts = impl.MaxFiles*impl.MaxSeg - 1

// segFile makes the file of a segment without the program.
func segFile(first int, texts ...string) impl.File {
	return impl.File{Name: fmt.Sprintf("s%06d", first), Data: rightFrames(texts)}
}

// rightLog makes a log without the program, also one that is invalid because
// of its numbers. No file of it is synced.
func rightLog(first int, texts ...string) impl.Seglog {
	l := impl.Seglog{First: int64(first), Many: int64(len(texts))}
	for at := 0; at <= len(texts); at += impl.MaxSeg {
		end := min(at+impl.MaxSeg, len(texts))
		l.Fs.Files = append(l.Fs.Files, segFile(first+at, texts[at:end]...))
	}
	return l
}

func allSynced(l impl.Seglog) impl.Seglog {
	l.Fs = cloned(l.Fs)
	for i := range l.Fs.Files {
		l.Fs.Files[i].Synced = int64(len(l.Fs.Files[i].Data))
	}
	return l
}

// numbered returns strings of several lengths, no two of which are equal.
func numbered(count int) []string {
	var out []string
	for i := range count {
		out = append(out, strings.Repeat(fmt.Sprint("<", i, ">"), i%7+1))
	}
	return out
}

func logIs(t *testing.T, what string, got impl.Seglog, want impl.Seglog) {
	t.Helper()
	same(t, what+": First and Many", [2]int64{got.First, got.Many}, [2]int64{want.First, want.Many})
	filesIs(t, what, got.Fs, want.Fs)
}

// logAnswer requires the log, the code OK and these strings.
func logAnswer(t *testing.T, what string, got impl.SeglogOut, want impl.Seglog, texts ...string) {
	t.Helper()
	same(t, what+": code", got.Code, impl.OK)
	logIs(t, what, got.Seglog, want)
	namesIs(t, what+": Texts", got.Texts, texts...)
	same(t, what+": valid", impl.SeglogRight(got.Seglog), true)
}

// logFails requires the code and nothing beside it.
func logFails(t *testing.T, what string, got impl.SeglogOut, code int64) {
	t.Helper()
	same(t, what+": code", got.Code, code)
	logIs(t, what, got.Seglog, impl.Seglog{})
	namesIs(t, what+": Texts", got.Texts)
}

// opens requires that opening the files yields a log from first on with
// exactly these strings, all synced.
func opens(t *testing.T, what string, f impl.Fs, first int, texts ...string) {
	t.Helper()
	logAnswer(t, what, impl.SeglogOpen(f), allSynced(rightLog(first, texts...)), texts...)
}

// withFile replaces the file at index i by one with these contents.
func withFile(l impl.Seglog, i int, data string) impl.Seglog {
	l.Fs = cloned(l.Fs)
	l.Fs.Files[i].Data = data
	return l
}

func withMany(l impl.Seglog, many int64) impl.Seglog {
	l.Many = many
	return l
}

func withFirst(l impl.Seglog, first int64) impl.Seglog {
	l.First = first
	return l
}

func withFiles(l impl.Seglog, files ...impl.File) impl.Seglog {
	l.Fs = fsOf(files...)
	return l
}

func goodLogs() map[string]impl.Seglog {
	logs := map[string]impl.Seglog{
		"strings of no bytes":       rightLog(0, "", "", "", "", ""),
		"strings of 1000 bytes":     rightLog(0, repeated(longest), repeated(longest)),
		"a full file":               rightLog(0, repeated(longest), repeated(longest), repeated(impl.MaxFile-2*1006-6)),
		"all synced":                allSynced(rightLog(8, numbered(9)...)),
		"at the greatest number":    rightLog(900000),
		"up to the greatest number": rightLog(899996, numbered(4)...),
		"most, up to there":         rightLog(900000-44, numbered(44)...),
		"most":                      rightLog(0, numbered(mostTexts)...),
	}
	for count := range mostTexts + 1 {
		logs[fmt.Sprint(count, " strings")] = rightLog(0, numbered(count)...)
		logs[fmt.Sprint(count, " strings from 12 on")] = rightLog(12, numbered(count)...)
	}
	return logs
}

func badLogs() map[string]impl.Seglog {
	five, four := rightLog(0, numbered(5)...), rightLog(0, numbered(4)...)
	files := five.Fs.Files
	logs := map[string]impl.Seglog{
		"nothing":                    {},
		"no files":                   withFiles(rightLog(0)),
		"no files, Many 4":           withFiles(four),
		"First 1":                    withFirst(five, 1),
		"First 2":                    rightLog(2, "a"),
		"First 3, empty":             rightLog(3),
		"First of another name":      withFirst(five, 4),
		"First below 0":              rightLog(-4, "a"),
		"First far below 0":          withFirst(rightLog(0), math.MinInt64),
		"First far above":            withFirst(rightLog(0), math.MaxInt64-3),
		"First above 900000":         rightLog(900004),
		"First of seven digits":      rightLog(1000000),
		"end above 900000":           rightLog(900000, "a"),
		"end far above 900000":       rightLog(899996, numbered(8)...),
		"Many below 0":               withMany(rightLog(0), -1),
		"Many at -4":                 withMany(rightLog(4), -4),
		"Many far below 0":           withMany(rightLog(0), math.MinInt64),
		"Many far above":             withMany(five, math.MaxInt64),
		"Many of 60":                 rightLog(0, numbered(60)...),
		"Many of 61":                 rightLog(0, numbered(61)...),
		"Many of 48":                 rightLog(0, numbered(48)...),
		"Many one less":              withMany(five, 4),
		"Many one more":              withMany(five, 6),
		"Many a segment less":        withMany(five, 1),
		"Many a segment more":        withMany(five, 9),
		"Many less than a multiple":  withMany(four, 3),
		"Many more than a multiple":  withMany(four, 5),
		"Many of 60 held by less":    withMany(five, 60),
		"no empty last segment":      withFiles(four, four.Fs.Files[0]),
		"two empty last segments":    withFiles(four, append(four.Fs.Files, segFile(8))...),
		"an empty one behind":        withFiles(five, append(slices.Clone(files), segFile(8))...),
		"a file behind":              withFiles(five, append(slices.Clone(files), impl.File{Name: "t"})...),
		"a file in front":            withFiles(five, append([]impl.File{{Name: "a"}}, files...)...),
		"a file instead":             withFiles(five, impl.File{Name: "a", Data: files[0].Data}, files[1]),
		"the first file less":        withFiles(five, files[1]),
		"the last file less":         withFiles(five, files[0]),
		"a gap":                      withFiles(five, files[0], segFile(8, "e")),
		"a short name":               withFiles(withMany(rightLog(0), 1), impl.File{Name: "s0", Data: rightFrame("a")}),
		"files in wrong order":       withFiles(five, files[1], files[0]),
		"a file twice":               withFiles(five, files[0], files[0]),
		"synced below 0":             withFiles(rightLog(0), impl.File{Name: "s000000", Synced: -1}),
		"synced above the data":      withFiles(rightLog(0), impl.File{Name: "s000000", Synced: 1}),
		"too much data":              rightLog(0, repeated(longest), repeated(longest), repeated(impl.MaxFile-2*1006-5)),
		"three, four and more":       withFiles(withMany(five, 8), segFile(0, "a", "b", "c"), segFile(4, "d", "e", "f", "g"), segFile(8, "h")),
		"three and one":              withFiles(withMany(four, 4), segFile(0, "a", "b", "c"), segFile(4, "d")),
		"three and two":              withFiles(withMany(five, 5), segFile(0, "a", "b", "c"), segFile(4, "d", "e")),
		"five in one":                withFiles(withMany(five, 5), segFile(0, "a", "b", "c", "d", "e"), segFile(4)),
		"five in one and one":        withFiles(withMany(five, 6), segFile(0, "a", "b", "c", "d", "e"), segFile(4, "f")),
		"five in the only one":       withFiles(withMany(five, 5), segFile(0, "a", "b", "c", "d", "e")),
		"a full last one":            withFiles(withMany(five, 8), segFile(0, "a", "b", "c", "d"), segFile(4, "a", "b", "c", "d")),
		"a frame that is too long":   withFiles(withMany(rightLog(0), 1), impl.File{Name: "s000000", Data: rightFrame(repeated(longest + 1))}),
		"a changed byte":             withFile(five, 0, withByte(files[0].Data, 2, '#')),
		"a changed byte of the last": withFile(five, 1, withByte(files[1].Data, 1, '#')),
		"a cut frame":                withFile(five, 1, files[1].Data[:len(files[1].Data)-1]),
		"a cut frame in front":       withFile(five, 0, files[0].Data[:len(files[0].Data)-1]),
		"many files":                 {Fs: manyFiles(impl.MaxFiles + 1)},
	}
	for i, behind := range []string{"\x00", "x", "\xff\xff", "\x08\x00\x00\x00"} {
		logs[fmt.Sprint("bytes behind the first, ", i)] = withFile(five, 0, files[0].Data+behind)
		logs[fmt.Sprint("bytes behind the last, ", i)] = withFile(five, 1, files[1].Data+behind)
		logs[fmt.Sprint("bytes in an empty last, ", i)] = withFile(four, 1, behind)
		logs[fmt.Sprint("bytes in an empty log, ", i)] = withFile(rightLog(0), 0, behind)
	}
	for what, f := range badFs() {
		logs["files, "+what] = impl.Seglog{Fs: f}
	}
	return logs
}

func TestExampleOfChapter6(t *testing.T) {
	l := impl.SeglogNew()
	for _, text := range []string{"a", "b", "c", "d", "e"} {
		l = impl.SeglogAdd(l, text).Seglog
	}
	namesIs(t, "segments", impl.FsNames(l.Fs), "s000000", "s000004")
	dropped := impl.SeglogDrop(l, 4)
	logAnswer(t, "dropped", dropped, rightLog(4, "e"))
	same(t, "First and Many", [2]int64{dropped.Seglog.First, dropped.Seglog.Many}, [2]int64{4, 1})
	logAnswer(t, "crash", impl.SeglogCrash(l, nil), rightLog(0))
	logAnswer(t, "crash, keep 99, 1", impl.SeglogCrash(l, []int64{99, 1}), allSynced(rightLog(0, "a", "b", "c", "d")), "a", "b", "c", "d")
}

func TestSegName(t *testing.T) {
	same(t, "MaxSeg", impl.MaxSeg, 4)
	names := map[int64]string{
		0: "s000000", 1: "s000001", 4: "s000004", 9: "s000009", 10: "s000010", 99: "s000099", 100: "s000100", 1234: "s001234",
		56789: "s056789", 99999: "s099999", 100000: "s100000", 900000: "s900000", 900004: "s900004", 999999: "s999999",
		-1: "", -4: "", -999999: "", 1000000: "", 1000004: "", 1 << 32: "", math.MaxInt64: "", math.MinInt64: "",
	}
	for first, name := range names {
		same(t, fmt.Sprint("SegName of ", first), impl.SegName(first), name)
	}
}

func TestSeglogNew(t *testing.T) {
	logIs(t, "new", impl.SeglogNew(), impl.Seglog{Fs: fsOf(impl.File{Name: "s000000"})})
	same(t, "valid", impl.SeglogRight(impl.SeglogNew()), true)
	namesIs(t, "strings", impl.SeglogAll(impl.SeglogNew()))
	spoil(impl.SeglogNew().Fs)
	logIs(t, "new after another is spoiled", impl.SeglogNew(), rightLog(0))
}

func TestSeglogRight(t *testing.T) {
	for what, l := range goodLogs() {
		same(t, what, impl.SeglogRight(l), true)
	}
	for what, l := range badLogs() {
		same(t, what, impl.SeglogRight(l), false)
	}
}

// How much of a file is synced makes no difference to the log.
func TestSeglogRightSynced(t *testing.T) {
	l := rightLog(0, numbered(6)...)
	for size := range len(l.Fs.Files[0].Data) + 1 {
		l.Fs.Files[0].Synced = int64(size)
		same(t, fmt.Sprint(size, " bytes synced"), impl.SeglogRight(l), true)
	}
}

func TestSeglogOfInvalidLog(t *testing.T) {
	for what, l := range badLogs() {
		logFails(t, what+", add", impl.SeglogAdd(l, "x"), impl.ErrForm)
		logFails(t, what+", add 301 bytes", impl.SeglogAdd(l, repeated(301)), impl.ErrForm)
		logFails(t, what+", add MaxBytes", impl.SeglogAdd(l, repeated(impl.MaxBytes)), impl.ErrForm)
		logFails(t, what+", add too long", impl.SeglogAdd(l, repeated(impl.MaxBytes+1)), impl.ErrSize)
		logFails(t, what+", drop", impl.SeglogDrop(l, 4), impl.ErrForm)
		logFails(t, what+", drop nothing", impl.SeglogDrop(l, math.MinInt64), impl.ErrForm)
		logFails(t, what+", drop all", impl.SeglogDrop(l, math.MaxInt64), impl.ErrForm)
		logFails(t, what+", crash", impl.SeglogCrash(l, nil), impl.ErrForm)
		logFails(t, what+", crash, keep", impl.SeglogCrash(l, []int64{9, 9}), impl.ErrForm)
		logFails(t, what+", crash, keep MaxList", impl.SeglogCrash(l, make([]int64, impl.MaxList)), impl.ErrForm)
		logFails(t, what+", crash, keep too much", impl.SeglogCrash(l, make([]int64, impl.MaxList+1)), impl.ErrSize)
		for _, n := range []int64{l.First, l.First + l.Many, 0, -1, math.MaxInt64, math.MinInt64} {
			same(t, what+", at", impl.SeglogAt(l, n), impl.TextOut{Code: impl.ErrForm})
		}
		namesIs(t, what+", all", impl.SeglogAll(l))
		logIs(t, what+", sync", impl.SeglogSync(l), l)
	}
}

func TestSeglogAtAndAll(t *testing.T) {
	for what, l := range goodLogs() {
		texts := impl.SeglogAll(l)
		same(t, what+": number of strings", int64(len(texts)), l.Many)
		for i, text := range texts {
			same(t, fmt.Sprint(what, ": string ", i), impl.SeglogAt(l, l.First+int64(i)), impl.TextOut{Text: text})
		}
		end := l.First + l.Many
		for _, n := range []int64{l.First - 1, l.First - 4, end, end + 1, end + 4, -1, 1 << 32, math.MaxInt64, math.MinInt64} {
			same(t, fmt.Sprint(what, ": string ", n), impl.SeglogAt(l, n), impl.TextOut{Code: impl.ErrNone})
		}
	}
	texts := numbered(9)
	namesIs(t, "strings", impl.SeglogAll(rightLog(8, texts...)), texts...)
}

// Promise 7.

func TestAddedIsLast(t *testing.T) {
	for _, first := range []int{0, 4, 400, 899952} {
		l := rightLog(first)
		texts := numbered(mostTexts)
		for i, text := range texts {
			out := impl.SeglogAdd(l, text)
			what := fmt.Sprint("string ", i, " behind ", first)
			logAnswer(t, what, out, rightLog(first, texts[:i+1]...))
			l = out.Seglog
			same(t, what, impl.SeglogAt(l, int64(first+i)), impl.TextOut{Text: text})
			same(t, what+": next", impl.SeglogAt(l, int64(first+i+1)).Code, impl.ErrNone)
			namesIs(t, what+": all", impl.SeglogAll(l), texts[:i+1]...)
		}
		logFails(t, "one more behind them", impl.SeglogAdd(l, "x"), impl.ErrFull)
	}
}

func TestAddRandomTexts(t *testing.T) {
	r := dice()
	for range 20 {
		l, texts := impl.SeglogNew(), []string(nil)
		for range r.Intn(mostTexts + 1) {
			texts = append(texts, randomText(r, r.Intn(301)))
			l = impl.SeglogAdd(l, texts[len(texts)-1]).Seglog
			same(t, "last", impl.SeglogAt(l, l.Many-1).Text, texts[len(texts)-1])
		}
		logIs(t, "log", l, rightLog(0, texts...))
	}
}

// What is added is not synced, and what was synced remains so.
func TestAddLeavesSynced(t *testing.T) {
	l := allSynced(rightLog(4, numbered(3)...))
	l = impl.SeglogAdd(l, "x").Seglog
	want := rightLog(4, append(numbered(3), "x")...)
	want.Fs.Files[0].Synced = int64(len(rightFrames(numbered(3))))
	logIs(t, "segment that becomes full", l, want)
	l = impl.SeglogAdd(l, "y").Seglog
	want.Many = 5
	want.Fs.Files[1] = segFile(8, "y")
	logIs(t, "segment behind it", l, want)
}

func TestAddSizes(t *testing.T) {
	for _, size := range []int{0, 1, 59, 60, 299, 300} {
		for count := range 5 {
			texts := append(numbered(count), repeated(size))
			out := impl.SeglogAdd(rightLog(0, numbered(count)...), repeated(size))
			logAnswer(t, fmt.Sprint(size, " bytes behind ", count, " strings"), out, rightLog(0, texts...))
		}
	}
	for _, size := range []int{301, 302, 1000, 1001, 5000, impl.MaxBytes} {
		for _, l := range []impl.Seglog{rightLog(0), rightLog(0, numbered(mostTexts)...), rightLog(900000)} {
			logFails(t, fmt.Sprint(size, " bytes"), impl.SeglogAdd(l, repeated(size)), impl.ErrForm)
		}
	}
	for _, size := range []int{impl.MaxBytes + 1, 2 * impl.MaxBytes} {
		for _, l := range []impl.Seglog{rightLog(0), rightLog(900000), {}} {
			logFails(t, fmt.Sprint(size, " bytes"), impl.SeglogAdd(l, repeated(size)), impl.ErrSize)
		}
	}
}

// Fewer strings than 60 fit into MaxFiles segments, so a log with 60 of them
// is not valid, and that comes before it is full.
func TestAddToManyStrings(t *testing.T) {
	for _, count := range []int{48, 56, 59, 60, 61, 64} {
		l := rightLog(0, numbered(count)...)
		logFails(t, fmt.Sprint("log of ", count), impl.SeglogAdd(l, "x"), impl.ErrForm)
		logFails(t, fmt.Sprint("few files, Many ", count), impl.SeglogAdd(withMany(rightLog(0), int64(count)), "x"), impl.ErrForm)
	}
}

func TestAddAtGreatestNumber(t *testing.T) {
	for _, count := range []int{0, 4, 8, 40, 44} {
		l := rightLog(900000-count, numbered(count)...)
		logFails(t, fmt.Sprint(count, " strings up to 900000"), impl.SeglogAdd(l, "x"), impl.ErrFull)
		logFails(t, fmt.Sprint(count, " strings up to 900000, 300 bytes"), impl.SeglogAdd(l, repeated(300)), impl.ErrFull)
	}
	l := rightLog(899996, "a", "b", "c")
	logAnswer(t, "the last number", impl.SeglogAdd(l, "d"), rightLog(899996, "a", "b", "c", "d"))
	l = rightLog(899996, "a", "b")
	logAnswer(t, "the last number but one", impl.SeglogAdd(l, "c"), rightLog(899996, "a", "b", "c"))
}

func TestAddWithoutRoomForSegment(t *testing.T) {
	for _, first := range []int{0, 8, 899952} {
		texts := numbered(mostTexts)
		logFails(t, "full with it", impl.SeglogAdd(rightLog(first, texts...), "x"), impl.ErrFull)
		logAnswer(t, "not full with it", impl.SeglogAdd(rightLog(first, texts[:46]...), texts[46]), rightLog(first, texts...))
		dropped := impl.SeglogDrop(rightLog(first, texts...), int64(first+4)).Seglog
		logAnswer(t, "after a drop", impl.SeglogAdd(dropped, "x"), rightLog(first+4, append(texts[4:], "x")...))
	}
}

func TestAddWithoutRoomForFrame(t *testing.T) {
	// Each of the three long strings takes six bytes more as a frame.
	for _, size := range []int{0, 1, 50} {
		left := len(rightFrame(repeated(size)))
		texts := []string{repeated(longest), repeated(longest), repeated(impl.MaxFile - 2*1006 - 6 - left)}
		l := rightLog(0, texts...)
		same(t, "bytes of the segment", len(l.Fs.Files[0].Data), impl.MaxFile-left)
		logAnswer(t, fmt.Sprint("room for ", size, " bytes"), impl.SeglogAdd(l, repeated(size)), rightLog(0, append(texts, repeated(size))...))
		logFails(t, fmt.Sprint("no room for ", size+1, " bytes"), impl.SeglogAdd(l, repeated(size+1)), impl.ErrFull)
	}
	full := rightLog(0, repeated(longest), repeated(longest), repeated(impl.MaxFile-2*1006-6))
	logFails(t, "no room for the empty string", impl.SeglogAdd(full, ""), impl.ErrFull)
}

func TestSeglogSync(t *testing.T) {
	for what, l := range goodLogs() {
		synced := impl.SeglogSync(l)
		logIs(t, what, synced, allSynced(l))
		logIs(t, what+", again", impl.SeglogSync(synced), synced)
		namesIs(t, what+", strings", impl.SeglogAll(synced), impl.SeglogAll(l)...)
	}
	l := rightLog(0, numbered(6)...)
	l.Fs.Files[0].Synced = 3
	logIs(t, "partly synced", impl.SeglogSync(l), allSynced(l))
}

// Promise 8.

// afterDrop drops one segment after the other by the words of the document.
func afterDrop(first int, texts []string, before int) (int, []string) {
	for len(texts) >= impl.MaxSeg && first+impl.MaxSeg-1 < before {
		first += impl.MaxSeg
		texts = texts[impl.MaxSeg:]
	}
	return first, texts
}

func TestDrop(t *testing.T) {
	for _, first := range []int{0, 4, 96, 899952} {
		for count := range mostTexts + 1 {
			texts := numbered(count)
			l := rightLog(first, texts...)
			for before := first - 5; before < first+count+9; before++ {
				left, rest := afterDrop(first, texts, before)
				what := fmt.Sprint(count, " strings from ", first, " on, before ", before)
				logAnswer(t, what, impl.SeglogDrop(l, int64(before)), rightLog(left, rest...))
			}
		}
	}
}

func TestDroppedLogKeepsNumbers(t *testing.T) {
	r := dice()
	for range 300 {
		first, count := 4*r.Intn(50), r.Intn(mostTexts+1)
		l := rightLog(first, numbered(count)...)
		before := int64(first - 3 + r.Intn(count+8))
		out := impl.SeglogDrop(l, before).Seglog
		same(t, "end", out.First+out.Many, l.First+l.Many)
		for n := int64(first); n < int64(first+count); n++ {
			got := impl.SeglogAt(out, n)
			if n >= out.First {
				same(t, "number", got, impl.SeglogAt(l, n))
			} else {
				same(t, "dropped", got, impl.TextOut{Code: impl.ErrNone})
				same(t, "number of a dropped one is less", n < before, true)
			}
		}
		added := impl.SeglogAdd(out, "added").Seglog
		if added.Many > 0 {
			same(t, "added behind", impl.SeglogAt(added, l.First+l.Many).Text, "added")
		}
	}
}

func TestDropExtremes(t *testing.T) {
	texts := numbered(10)
	l := rightLog(8, texts...)
	for _, before := range []int64{math.MinInt64, math.MinInt64 + 8, -1 << 32, -1, 0, 7, 8, 9, 11} {
		logAnswer(t, fmt.Sprint("before ", before), impl.SeglogDrop(l, before), l)
	}
	for _, before := range []int64{12, 13, 15} {
		logAnswer(t, fmt.Sprint("before ", before), impl.SeglogDrop(l, before), rightLog(12, texts[4:]...))
	}
	for _, before := range []int64{16, 17, 18, 19, 20, 24, 1 << 32, math.MaxInt64} {
		logAnswer(t, fmt.Sprint("before ", before), impl.SeglogDrop(l, before), rightLog(16, texts[8:]...))
	}
	end := rightLog(899996, "a", "b", "c", "d")
	logAnswer(t, "all of a log at its end", impl.SeglogDrop(end, math.MaxInt64), rightLog(900000))
	logAnswer(t, "an empty log", impl.SeglogDrop(rightLog(900000), math.MaxInt64), rightLog(900000))
	logAnswer(t, "below an empty log", impl.SeglogDrop(rightLog(900000), math.MinInt64), rightLog(900000))
}

// A drop syncs nothing.
func TestDropLeavesSynced(t *testing.T) {
	l := rightLog(0, numbered(10)...)
	l.Fs.Files[0].Synced = 2
	l.Fs.Files[1].Synced = 3
	l.Fs.Files[2].Synced = 1
	want := rightLog(4, numbered(10)[4:]...)
	want.Fs.Files[0].Synced = 3
	want.Fs.Files[1].Synced = 1
	logAnswer(t, "dropped", impl.SeglogDrop(l, 6), want)
}

func TestOpenOwnFiles(t *testing.T) {
	for what, l := range goodLogs() {
		opens(t, what, l.Fs, int(l.First), impl.SeglogAll(l)...)
		opens(t, what+", synced", impl.SeglogSync(l).Fs, int(l.First), impl.SeglogAll(l)...)
	}
}

func TestOpenForm(t *testing.T) {
	for what, f := range badFs() {
		logFails(t, what, impl.SeglogOpen(f), impl.ErrForm)
	}
	bad := rightLog(0, numbered(5)...)
	bad.Fs.Files[1].Synced = -1
	logFails(t, "segments with invalid Synced", impl.SeglogOpen(bad.Fs), impl.ErrForm)
	logFails(t, "segments in wrong order", impl.SeglogOpen(fsOf(segFile(4), segFile(0))), impl.ErrForm)
	logFails(t, "too many segments", impl.SeglogOpen(rightLog(0, numbered(48)...).Fs), impl.ErrForm)
}

// notSegments are names that are almost those of segments.
func notSegments() []string {
	return []string{"a", "s", "s0", "s00000", "s0000000", "s00000_", "s0000a0", "s_00000", "sa00000", "t000000", "r000000", "s00000000000000000000"[:20], "s000000a", "s9999999", "ss00000"}
}

func TestOpenWithoutSegments(t *testing.T) {
	logFails(t, "nothing", impl.SeglogOpen(impl.Fs{}), impl.ErrNone)
	logFails(t, "other files", impl.SeglogOpen(twoFiles()), impl.ErrNone)
	logFails(t, "MaxFiles other files", impl.SeglogOpen(manyFiles(impl.MaxFiles)), impl.ErrNone)
	for _, name := range notSegments() {
		file := impl.File{Name: name, Data: rightFrame("a")}
		logFails(t, name, impl.SeglogOpen(fsOf(file)), impl.ErrNone)
		files := []impl.File{file, segFile(0, "b")}
		slices.SortFunc(files, func(a, b impl.File) int { return strings.Compare(a.Name, b.Name) })
		opens(t, name+" beside a segment", fsOf(files...), 0, "b")
	}
}

func TestOpenAmongOtherFiles(t *testing.T) {
	texts := numbered(6)
	files := rightLog(0, texts...).Fs.Files
	a, m, z := impl.File{Name: "a", Data: "x"}, impl.File{Name: "s000000_", Data: "y", Synced: 1}, impl.File{Name: "z"}
	opens(t, "around", fsOf(a, files[0], m, files[1], z), 0, texts...)
	opens(t, "odd segments between", fsOf(files[0], segFile(1, "n"), segFile(2), segFile(3, "o"), files[1], segFile(5, "p")), 0, texts...)
	opens(t, "a segment that is far behind", fsOf(files[0], files[1], segFile(900004, "q"), segFile(999999)), 0, texts...)
	opens(t, "a segment with too many frames behind", fsOf(files[0], files[1], segFile(12, numbered(5)...)), 0, texts...)
	opens(t, "a full last one and other files", fsOf(a, segFile(4, texts[:4]...), z), 4, texts[:4]...)
	many := append(slices.Clone(files), manyFiles(10).Files...)
	slices.SortFunc(many, func(a, b impl.File) int { return strings.Compare(a.Name, b.Name) })
	opens(t, "MaxFiles files", fsOf(many...), 0, texts...)
}

func TestOpenStartsAtLeastSegment(t *testing.T) {
	opens(t, "First 8", fsOf(segFile(8, "a")), 8, "a")
	opens(t, "First 900000", fsOf(segFile(900000)), 900000)
	opens(t, "First 899996", fsOf(segFile(899996, "a", "b", "c")), 899996, "a", "b", "c")
	opens(t, "First 899996, full", fsOf(segFile(899996, "a", "b", "c", "d")), 899996, "a", "b", "c", "d")
	opens(t, "an empty least one", fsOf(segFile(4), segFile(8, "a")), 4)
	opens(t, "digits are compared as numbers", fsOf(segFile(96, numbered(4)...), segFile(100, "a"), segFile(1000, "b")), 96, append(numbered(4), "a")...)
}

func TestOpenStopsAtGap(t *testing.T) {
	four := numbered(4)
	opens(t, "one gap", fsOf(segFile(0, four...), segFile(8, "x")), 0, four...)
	opens(t, "a gap and a full one", fsOf(segFile(0, four...), segFile(8, four...), segFile(12)), 0, four...)
	opens(t, "off by one", fsOf(segFile(0, four...), segFile(5, "x")), 0, four...)
	opens(t, "a later gap", fsOf(segFile(0, four...), segFile(4, "a", "b", "c", "d"), segFile(12, "x")), 0, append(numbered(4), "a", "b", "c", "d")...)
	opens(t, "behind no full one", fsOf(segFile(0, "a"), segFile(8, "x")), 0, "a")
}

func TestOpenStopsAtSegmentThatIsNotFull(t *testing.T) {
	for count := range impl.MaxSeg {
		texts := numbered(count)
		opens(t, fmt.Sprint(count, " strings ahead"), fsOf(segFile(0, texts...), segFile(4, "x", "y", "z", "u"), segFile(8, "v")), 0, texts...)
		texts = append(numbered(4), texts...)
		opens(t, fmt.Sprint(count, " strings in the middle"), fsOf(segFile(0, texts[:4]...), segFile(4, texts[4:]...), segFile(8, "v")), 0, texts...)
	}
	// What is not read cannot be wrong.
	opens(t, "ahead of one with too many frames", fsOf(segFile(0, "a"), segFile(4, numbered(5)...)), 0, "a")
	opens(t, "ahead of one that is too far", fsOf(segFile(899996, "a"), segFile(900000, "b")), 899996, "a")
}

// A full segment with bytes behind its frames is the last one, and the one
// that is added behind it is empty, whatever was there.
func TestOpenCutsToFrames(t *testing.T) {
	for _, behind := range []string{"\x00", "x", "\x08\x00\x00\x00", "\x08\x00\x00\x00\x01", strings.Repeat("\xff", 40), rightFrame("e")[:5], rightFrame(repeated(longest + 1))} {
		for count := range impl.MaxSeg + 1 {
			texts := numbered(count)
			file := segFile(0, texts...)
			file.Data += behind
			what := fmt.Sprint(count, " strings before ", shown(behind))
			opens(t, what, fsOf(file), 0, texts...)
			file.Synced = int64(len(file.Data))
			opens(t, what+", synced", fsOf(file), 0, texts...)
			opens(t, what+", ahead of an empty one", fsOf(file, segFile(4)), 0, texts...)
			opens(t, what+", ahead of another", fsOf(file, segFile(4, "x", "y")), 0, texts...)
			opens(t, what+", ahead of full ones", fsOf(file, segFile(4, "x", "y", "z", "u"), segFile(8, "v")), 0, texts...)
			opens(t, what+", ahead of a wrong one", fsOf(file, segFile(4, numbered(5)...)), 0, texts...)
			all := append(numbered(4), texts...)
			file.Name = "s000004"
			opens(t, what+", behind a full one", fsOf(segFile(0, all[:4]...), file), 0, all...)
		}
	}
	opens(t, "bytes alone", fsOf(impl.File{Name: "s000000", Data: "bytes"}), 0)
	cut := segFile(0, "a", "b", "c", "d")
	for size := range len(cut.Data) {
		file := impl.File{Name: cut.Name, Data: cut.Data[:size]}
		want := []string{"a", "b", "c", "d"}[:size/6]
		opens(t, fmt.Sprint("the first ", size, " bytes"), fsOf(file, segFile(4, "e")), 0, want...)
	}
}

func TestOpenWrongNumbers(t *testing.T) {
	for _, first := range []int{1, 2, 3, 5, 899999, 900001, 900004, 999996, 999999} {
		what := fmt.Sprint("least segment ", first)
		logFails(t, what, impl.SeglogOpen(fsOf(segFile(first, "a"))), impl.ErrSum)
		logFails(t, what+", empty", impl.SeglogOpen(fsOf(segFile(first))), impl.ErrSum)
		logFails(t, what+", bytes", impl.SeglogOpen(fsOf(impl.File{Name: segFile(first).Name, Data: "x"})), impl.ErrSum)
	}
	logFails(t, "ahead of a right one", impl.SeglogOpen(fsOf(segFile(3), segFile(4, "a"))), impl.ErrSum)
	logFails(t, "all but one behind", impl.SeglogOpen(fsOf(segFile(1, numbered(4)...), segFile(5))), impl.ErrSum)
	four := numbered(4)
	logFails(t, "read up to 900004", impl.SeglogOpen(fsOf(segFile(899996, four...), segFile(900000, four...), segFile(900004))), impl.ErrSum)
	logFails(t, "a string at 900000", impl.SeglogOpen(fsOf(segFile(900000, "a"))), impl.ErrSum)
	logFails(t, "four strings at 900000", impl.SeglogOpen(fsOf(segFile(900000, four...))), impl.ErrSum)
	logFails(t, "a string at 900000 behind others", impl.SeglogOpen(fsOf(segFile(899996, four...), segFile(900000, "a"))), impl.ErrSum)
	opens(t, "up to 900000", fsOf(segFile(899996, four...), segFile(900000)), 899996, four...)
	opens(t, "bytes at 900000", fsOf(segFile(899996, four...), impl.File{Name: "s900000", Data: "x"}), 899996, four...)
}

func TestOpenTooManyFrames(t *testing.T) {
	four := numbered(4)
	for _, count := range []int{5, 6, 8, 60, 61} {
		texts := make([]string, count)
		what := fmt.Sprint(count, " frames")
		logFails(t, what, impl.SeglogOpen(fsOf(segFile(0, texts...))), impl.ErrSum)
		logFails(t, what+" ahead of another", impl.SeglogOpen(fsOf(segFile(0, texts...), segFile(4))), impl.ErrSum)
		logFails(t, what+" behind another", impl.SeglogOpen(fsOf(segFile(0, four...), segFile(4, texts...))), impl.ErrSum)
		file := segFile(0, texts...)
		file.Data += "x"
		logFails(t, what+" and bytes", impl.SeglogOpen(fsOf(file)), impl.ErrSum)
	}
	// A wrong segment comes before there being no room.
	files := rightLog(0, numbered(47)...).Fs.Files
	files[11] = segFile(44, numbered(5)...)
	logFails(t, "in the last of MaxFiles", impl.SeglogOpen(fsOf(files...)), impl.ErrSum)
}

// More than 60 strings take more segments than there can be files, or more
// frames than a segment can have.
func TestOpenTooManyStrings(t *testing.T) {
	var files []impl.File
	for i := range impl.MaxFiles {
		files = append(files, segFile(4*i, make([]string, 6)...))
	}
	logFails(t, "72 strings in MaxFiles files", impl.SeglogOpen(fsOf(files...)), impl.ErrSum)
	logFails(t, "61 strings in 16 files", impl.SeglogOpen(rightLog(0, numbered(61)...).Fs), impl.ErrForm)
}

func TestOpenWithoutRoom(t *testing.T) {
	texts := numbered(48)
	files := rightLog(0, texts...).Fs.Files[:impl.MaxFiles]
	logFails(t, "MaxFiles full segments", impl.SeglogOpen(fsOf(files...)), impl.ErrFull)
	last := files[11]
	last.Data += "x"
	logFails(t, "with bytes behind the last", impl.SeglogOpen(fsOf(append(slices.Clone(files[:11]), last)...)), impl.ErrFull)
	opens(t, "one full segment less", fsOf(files[:11]...), 0, texts[:44]...)
	opens(t, "a last one that is not full", fsOf(append(slices.Clone(files[:11]), segFile(44, texts[44:47]...))...), 0, texts[:47]...)
	// The other files are removed, so they take no room.
	opens(t, "one other file", fsOf(append([]impl.File{{Name: "a", Data: "x"}}, files[:11]...)...), 0, texts[:44]...)
	up := rightLog(899952, texts...).Fs.Files[:impl.MaxFiles]
	logFails(t, "MaxFiles full segments up to 900000", impl.SeglogOpen(fsOf(up...)), impl.ErrFull)
	over := rightLog(899956, texts...).Fs.Files[:impl.MaxFiles]
	logFails(t, "MaxFiles full segments beyond", impl.SeglogOpen(fsOf(over...)), impl.ErrSum)
}

// openStepwise opens files by the words of the document.
func openStepwise(f impl.Fs) (int, []string, int64) {
	first := slices.IndexFunc(f.Files, func(file impl.File) bool {
		var n int
		count, _ := fmt.Sscanf(file.Name, "s%06d", &n)
		return count == 1 && file.Name == fmt.Sprintf("s%06d", n)
	})
	if first < 0 {
		return 0, nil, impl.ErrNone
	}
	var number, at int
	fmt.Sscanf(f.Files[first].Name, "s%06d", &number)
	var texts []string
	for at = number; ; at += impl.MaxSeg {
		i := slices.IndexFunc(f.Files, func(file impl.File) bool { return file.Name == fmt.Sprintf("s%06d", at) })
		if i < 0 {
			break
		}
		found, end := framesStepwise(f.Files[i].Data)
		if at%impl.MaxSeg != 0 || at > 900000 || len(found) > impl.MaxSeg {
			return 0, nil, impl.ErrSum
		}
		texts = append(texts, found...)
		if len(found) < impl.MaxSeg || end < len(f.Files[i].Data) {
			break
		}
	}
	if number+len(texts) > 900000 {
		return 0, nil, impl.ErrSum
	}
	return number, texts, impl.OK
}

// spoiledFiles returns the files of a log with some random damage.
func spoiledFiles(r *rand.Rand) impl.Fs {
	m := modelFs{}
	first := []int{0, 4, 8, 899992, 899996}[r.Intn(5)]
	for _, file := range rightLog(first, numbered(r.Intn(30))...).Fs.Files {
		m[file.Name] = file
	}
	files := m.list().Files
	for range r.Intn(4) {
		file := files[r.Intn(len(files))]
		switch r.Intn(7) {
		case 0:
			delete(m, file.Name)
			continue
		case 1:
			file.Data += randomText(r, r.Intn(9))
		case 2:
			file.Data = file.Data[:r.Intn(len(file.Data)+1)]
		case 3:
			if file.Data != "" {
				file.Data = withByte(file.Data, r.Intn(len(file.Data)), byte(r.Intn(256)))
			}
		case 4:
			file.Data += rightFrame("more")
		case 5:
			file.Name = fmt.Sprintf("s%06d", first+r.Intn(12))
		case 6:
			file.Name = randomName(r)
		}
		m[file.Name] = file
	}
	return m.list()
}

func TestOpenSpoiledFiles(t *testing.T) {
	r := dice()
	seen := map[int64]int{}
	for range 3000 {
		f := spoiledFiles(r)
		if len(f.Files) > impl.MaxFiles {
			continue
		}
		first, texts, code := openStepwise(f)
		seen[code]++
		if code != impl.OK {
			logFails(t, "spoiled files", impl.SeglogOpen(f), code)
			continue
		}
		opens(t, "spoiled files", f, first, texts...)
		opened := impl.SeglogOpen(f).Seglog
		opens(t, "opened again", opened.Fs, first, texts...)
	}
	for _, code := range []int64{impl.OK, impl.ErrNone, impl.ErrSum} {
		same(t, fmt.Sprint("code ", code, " seen"), seen[code] > 0, true)
	}
}

// Promise 9.

// keptTexts counts what is left of the strings of a log, whose files are
// synced up to their Synced, after a crash.
func keptTexts(l impl.Seglog, keep []int64) int {
	count := 0
	for i, file := range l.Fs.Files {
		left := file.Synced
		if i < len(keep) && keep[i] > 0 {
			left = min(left+keep[i], int64(len(file.Data)))
		}
		found, _ := framesStepwise(file.Data[:left])
		count += len(found)
		if len(found) < impl.MaxSeg {
			break
		}
	}
	return count
}

func crashes(t *testing.T, what string, l impl.Seglog, keep []int64) {
	t.Helper()
	texts := impl.SeglogAll(l)[:keptTexts(l, keep)]
	logAnswer(t, what, impl.SeglogCrash(l, keep), allSynced(rightLog(int(l.First), texts...)), texts...)
}

func TestCrashOfSyncedLog(t *testing.T) {
	for what, l := range goodLogs() {
		synced := impl.SeglogSync(l)
		texts := impl.SeglogAll(l)
		for _, keep := range [][]int64{nil, {}, {0}, {1, 2, 3}, {-1, -1}, {math.MaxInt64}, {math.MinInt64}, make([]int64, impl.MaxList)} {
			logAnswer(t, what+", synced", impl.SeglogCrash(synced, keep), synced, texts...)
		}
	}
}

func TestCrashOfUnsyncedLog(t *testing.T) {
	for what, l := range goodLogs() {
		if l.Fs.Files[0].Synced == 0 {
			logAnswer(t, what, impl.SeglogCrash(l, nil), rightLog(int(l.First)))
			all := slices.Repeat([]int64{impl.MaxFile}, impl.MaxFiles)
			logAnswer(t, what+", all kept", impl.SeglogCrash(l, all), allSynced(l), impl.SeglogAll(l)...)
		}
	}
}

func TestCrashWithEveryLengthOfKeep(t *testing.T) {
	l := rightLog(4, numbered(mostTexts)...)
	texts := numbered(mostTexts)
	for size := range impl.MaxFiles + 3 {
		keep := slices.Repeat([]int64{impl.MaxFile}, size)
		left := texts[:min(impl.MaxSeg*size, mostTexts)]
		logAnswer(t, fmt.Sprint("keep of ", size), impl.SeglogCrash(l, keep), allSynced(rightLog(4, left...)), left...)
	}
	for _, size := range []int{100, impl.MaxList} {
		logAnswer(t, fmt.Sprint("keep of ", size), impl.SeglogCrash(l, slices.Repeat([]int64{impl.MaxFile}, size)), allSynced(l), texts...)
		logAnswer(t, fmt.Sprint("keep of ", size, " zeros"), impl.SeglogCrash(l, make([]int64, size)), rightLog(4))
	}
	for _, size := range []int{impl.MaxList + 1, 2 * impl.MaxList} {
		logFails(t, fmt.Sprint("keep of ", size), impl.SeglogCrash(l, make([]int64, size)), impl.ErrSize)
	}
}

func TestCrashAtEveryByte(t *testing.T) {
	l := rightLog(8, numbered(7)...)
	for _, synced := range []int64{0, 1, 9, 20} {
		l.Fs.Files[0].Synced = synced
		for size := range int64(len(l.Fs.Files[0].Data)) + 2 {
			crashes(t, fmt.Sprint("first file, keep ", size), l, []int64{size, 99})
		}
		for size := range int64(len(l.Fs.Files[1].Data)) + 2 {
			crashes(t, fmt.Sprint("second file, keep ", size), l, []int64{999, size})
		}
	}
}

// A segment that is lost takes those behind it along, even if they are synced.
func TestCrashLosesWhatIsBehind(t *testing.T) {
	l := rightLog(0, numbered(10)...)
	l.Fs.Files[1].Synced = int64(len(l.Fs.Files[1].Data))
	l.Fs.Files[2].Synced = int64(len(l.Fs.Files[2].Data))
	logAnswer(t, "first segment lost", impl.SeglogCrash(l, nil), rightLog(0))
	crashes(t, "first segment kept in part", l, []int64{20})
	crashes(t, "first segment kept", l, []int64{impl.MaxFile})
}

func TestCrashLeavesFirstStrings(t *testing.T) {
	r := dice()
	for range 200 {
		l := rightLog(4*r.Intn(9), numbered(r.Intn(mostTexts+1))...)
		synced := int64(0)
		for range r.Intn(12) {
			switch r.Intn(4) {
			case 0:
				l = impl.SeglogSync(l)
				synced = l.First + l.Many
			case 1:
				l = impl.SeglogDrop(l, l.First+int64(r.Intn(9))).Seglog
			default:
				if out := impl.SeglogAdd(l, randomText(r, r.Intn(20))); out.Code == impl.OK {
					l = out.Seglog
				}
			}
		}
		keep := make([]int64, r.Intn(impl.MaxFiles+1))
		for i := range keep {
			keep[i] = int64(r.Intn(90) - 10)
		}
		crashes(t, "random log", l, keep)
		left := impl.SeglogCrash(l, keep).Seglog
		same(t, "all that was synced is left", left.First+left.Many >= synced, true)
		added := impl.SeglogAdd(left, "after the crash")
		if added.Code == impl.OK {
			same(t, "added after the crash", impl.SeglogAt(added.Seglog, left.First+left.Many).Text, "after the crash")
		}
	}
}

// logCalls are the calls that return a log or strings, each with both.
func logCalls() map[string]func(l impl.Seglog) (impl.Seglog, []string) {
	text, keep := strings.Clone("some text"), []int64{999, 3}
	both := func(out impl.SeglogOut) (impl.Seglog, []string) { return out.Seglog, out.Texts }
	return map[string]func(l impl.Seglog) (impl.Seglog, []string){
		"add":       func(l impl.Seglog) (impl.Seglog, []string) { return both(impl.SeglogAdd(l, text)) },
		"sync":      func(l impl.Seglog) (impl.Seglog, []string) { return impl.SeglogSync(l), nil },
		"sync bad":  func(l impl.Seglog) (impl.Seglog, []string) { l.Many++; return impl.SeglogSync(l), nil },
		"drop":      func(l impl.Seglog) (impl.Seglog, []string) { return both(impl.SeglogDrop(l, 4)) },
		"drop none": func(l impl.Seglog) (impl.Seglog, []string) { return both(impl.SeglogDrop(l, 0)) },
		"open":      func(l impl.Seglog) (impl.Seglog, []string) { return both(impl.SeglogOpen(l.Fs)) },
		"crash":     func(l impl.Seglog) (impl.Seglog, []string) { return both(impl.SeglogCrash(l, keep)) },
		"all":       func(l impl.Seglog) (impl.Seglog, []string) { return impl.Seglog{}, impl.SeglogAll(l) },
		"at": func(l impl.Seglog) (impl.Seglog, []string) {
			return impl.Seglog{}, []string{impl.SeglogAt(l, 0).Text, impl.SeglogAt(l, 6).Text}
		},
	}
}

func TestSeglogSharesNothing(t *testing.T) {
	given := allSynced(rightLog(0, numbered(7)...))
	for what, call := range logCalls() {
		l := given
		// The room behind the files is what an append to an argument would use.
		l.Fs = impl.Fs{Files: append(make([]impl.File, 0, 6), cloned(given.Fs).Files...)}
		got, texts := call(l)
		logIs(t, what+": argument", l, given)
		same(t, what+": room behind the argument", l.Fs.Files[:3][2], impl.File{})
		sharesNone(t, what, append(fsStrings(got.Fs), texts...), fsStrings(l.Fs))
		sharesNone(t, what+": strings and files of the answer", texts, fsStrings(got.Fs))
		for i := range texts {
			sharesNone(t, what+": strings of the answer", texts[:i], texts[i:])
		}
		before := got
		before.Fs = cloned(got.Fs)
		spoil(l.Fs)
		logIs(t, what+": answer after the argument is spoiled", got, before)
		l.Fs = cloned(given.Fs)
		got, _ = call(l)
		spoil(got.Fs)
		logIs(t, what+": argument after the answer is spoiled", l, given)
	}
	text := strings.Clone("some text")
	sharesNone(t, "add", fsStrings(impl.SeglogAdd(impl.SeglogNew(), text).Seglog.Fs), []string{text})
}

func TestSeglogLeavesArguments(t *testing.T) {
	keep := []int64{3, -1, 7}
	logs := badLogs()
	for what, l := range goodLogs() {
		logs[what] = l
	}
	for what, l := range logs {
		before := l
		before.Fs = cloned(l.Fs)
		for _, call := range logCalls() {
			call(l)
		}
		impl.SeglogRight(l)
		impl.SeglogCrash(l, keep)
		impl.SeglogDrop(l, math.MaxInt64)
		logIs(t, what, l, before)
	}
	if !slices.Equal(keep, []int64{3, -1, 7}) {
		t.Error("keep is changed")
	}
}
