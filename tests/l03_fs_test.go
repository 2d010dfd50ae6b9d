package tests

import (
	"fmt"
	"math"
	"math/rand"
	"slices"
	"sort"
	"strings"
	"testing"
	"unsafe"

	"loop.example/g00386/impl"
)

// fsOf returns a file system with these files, in this order.
func fsOf(files ...impl.File) impl.Fs {
	return impl.Fs{Files: files}
}

// filesIs takes no files and nil for the same.
func filesIs(t *testing.T, what string, got impl.Fs, want impl.Fs) {
	t.Helper()
	if !slices.Equal(got.Files, want.Files) {
		t.Errorf("%s: got %s, want %s", what, shown(got.Files), shown(want.Files))
	}
}

func fsIs(t *testing.T, what string, got impl.FsOut, want ...impl.File) {
	t.Helper()
	same(t, what+": code", got.Code, impl.OK)
	filesIs(t, what, got.Fs, fsOf(want...))
}

// fsFails requires the code and nothing beside it.
func fsFails(t *testing.T, what string, got impl.FsOut, code int64) {
	t.Helper()
	same(t, what+": code", got.Code, code)
	filesIs(t, what, got.Fs, impl.Fs{})
}

func namesIs(t *testing.T, what string, got []string, want ...string) {
	t.Helper()
	if !slices.Equal(got, want) {
		t.Errorf("%s: got %q, want %q", what, got, want)
	}
}

// manyFiles returns valid files n00, n01 and so on.
func manyFiles(count int) impl.Fs {
	var f impl.Fs
	for i := range count {
		f.Files = append(f.Files, impl.File{Name: fmt.Sprintf("n%02d", i), Data: "data", Synced: 2})
	}
	return f
}

func twoFiles() impl.Fs {
	return fsOf(impl.File{Name: "a", Data: "first", Synced: 2}, impl.File{Name: "b", Data: "second", Synced: 3})
}

// badNames are the strings within MaxBytes that are not names.
func badNames() []string {
	return []string{"", "A", "1a", "_a", "a b", "a.b", "a\x00", "\xff", "é", repeated(21), repeated(impl.MaxBytes)}
}

func badFs() map[string]impl.Fs {
	return map[string]impl.Fs{
		"too many files":    manyFiles(impl.MaxFiles + 1),
		"far too many":      manyFiles(60),
		"out of order":      fsOf(impl.File{Name: "b"}, impl.File{Name: "a"}),
		"out of order last": fsOf(impl.File{Name: "a"}, impl.File{Name: "c"}, impl.File{Name: "b"}),
		"twice":             fsOf(impl.File{Name: "a"}, impl.File{Name: "a"}),
		"no name":           fsOf(impl.File{}),
		"bad name":          fsOf(impl.File{Name: "A"}),
		"bad second name":   fsOf(impl.File{Name: "a"}, impl.File{Name: "b-c"}),
		"name of 21 bytes":  fsOf(impl.File{Name: repeated(21)}),
		"too much data":     fsOf(impl.File{Name: "a", Data: repeated(impl.MaxFile + 1)}),
		"data over MaxBytes": fsOf(
			impl.File{Name: "a", Data: repeated(impl.MaxBytes + 1)}),
		"synced below 0":       fsOf(impl.File{Name: "a", Data: "xy", Synced: -1}),
		"synced far below 0":   fsOf(impl.File{Name: "a", Data: "xy", Synced: math.MinInt64}),
		"synced above data":    fsOf(impl.File{Name: "a", Data: "xy", Synced: 3}),
		"synced far above":     fsOf(impl.File{Name: "a", Data: "xy", Synced: math.MaxInt64}),
		"synced of an empty":   fsOf(impl.File{Name: "a", Synced: 1}),
		"synced of the second": fsOf(impl.File{Name: "a"}, impl.File{Name: "b", Data: "x", Synced: 2}),
	}
}

func goodFs() map[string]impl.Fs {
	full := repeated(impl.MaxFile)
	return map[string]impl.Fs{
		"nothing":         {},
		"no files":        {Files: []impl.File{}},
		"an empty file":   fsOf(impl.File{Name: "a"}),
		"two":             twoFiles(),
		"all synced":      fsOf(impl.File{Name: "a", Data: "xy", Synced: 2}),
		"nothing synced":  fsOf(impl.File{Name: "a", Data: "xy"}),
		"full data":       fsOf(impl.File{Name: "a", Data: full, Synced: impl.MaxFile}),
		"a prefix first":  fsOf(impl.File{Name: "a"}, impl.File{Name: "a0"}, impl.File{Name: "a_"}, impl.File{Name: "aa"}),
		"one file less":   manyFiles(impl.MaxFiles - 1),
		"MaxFiles":        manyFiles(impl.MaxFiles),
		"name of 20":      fsOf(impl.File{Name: repeated(20)}),
		"any bytes":       fsOf(impl.File{Name: "a", Data: "\x00\xff\n", Synced: 1}),
		"full and empty":  fsOf(impl.File{Name: "a", Data: full}, impl.File{Name: "b"}),
		"full and synced": fsOf(impl.File{Name: "a", Data: full, Synced: impl.MaxFile - 1}),
	}
}

func TestExamplesOfChapter4(t *testing.T) {
	f := impl.FsAppend(impl.FsAppend(impl.Fs{}, "b", "xy").Fs, "a", "z").Fs
	filesIs(t, "two files", f, fsOf(impl.File{Name: "a", Data: "z"}, impl.File{Name: "b", Data: "xy"}))
	fsIs(t, "b renamed to a", impl.FsRename(f, "b", "a"), impl.File{Name: "a", Data: "xy"})
	f = impl.FsSync(f, "a").Fs
	synced := impl.File{Name: "a", Data: "z", Synced: 1}
	filesIs(t, "crash", impl.FsCrash(f, nil), fsOf(synced, impl.File{Name: "b"}))
	filesIs(t, "crash, keep 0, 1", impl.FsCrash(f, []int64{0, 1}), fsOf(synced, impl.File{Name: "b", Data: "x", Synced: 1}))
}

func TestFsConstants(t *testing.T) {
	same(t, "MaxFiles", impl.MaxFiles, 12)
	same(t, "MaxFile", impl.MaxFile, 3000)
}

func TestFsRight(t *testing.T) {
	for what, f := range goodFs() {
		same(t, what, impl.FsRight(f), true)
	}
	for what, f := range badFs() {
		same(t, what, impl.FsRight(f), false)
	}
	for _, name := range badNames() {
		same(t, "name "+shown(name), impl.FsRight(fsOf(impl.File{Name: name})), false)
	}
}

func TestFsRead(t *testing.T) {
	f := twoFiles()
	same(t, "a", impl.FsRead(f, "a"), impl.TextOut{Text: "first"})
	same(t, "b", impl.FsRead(f, "b"), impl.TextOut{Text: "second"})
	same(t, "empty", impl.FsRead(fsOf(impl.File{Name: "a"}), "a"), impl.TextOut{})
	same(t, "not there", impl.FsRead(f, "c"), impl.TextOut{Code: impl.ErrNone})
	same(t, "no files", impl.FsRead(impl.Fs{}, "a"), impl.TextOut{Code: impl.ErrNone})
	full := randomText(dice(), impl.MaxFile)
	same(t, "full", impl.FsRead(fsOf(impl.File{Name: "a", Data: full}), "a"), impl.TextOut{Text: full})
}

func TestFsNames(t *testing.T) {
	namesIs(t, "nothing", impl.FsNames(impl.Fs{}))
	namesIs(t, "two", impl.FsNames(twoFiles()), "a", "b")
	same(t, "MaxFiles", len(impl.FsNames(manyFiles(impl.MaxFiles))), impl.MaxFiles)
	for what, f := range goodFs() {
		var want []string
		for _, file := range f.Files {
			want = append(want, file.Name)
		}
		namesIs(t, what, impl.FsNames(f), want...)
	}
	for what, f := range badFs() {
		namesIs(t, what, impl.FsNames(f))
	}
}

// fsCalls are the calls with a code, each with name as one of its names.
func fsCalls(f impl.Fs, name string) map[string]func() impl.FsOut {
	return map[string]func() impl.FsOut{
		"read": func() impl.FsOut {
			out := impl.FsRead(f, name)
			return impl.FsOut{Fs: fsOf(impl.File{Data: out.Text, Synced: out.At}), Code: out.Code}
		},
		"append":    func() impl.FsOut { return impl.FsAppend(f, name, "x") },
		"cut":       func() impl.FsOut { return impl.FsCut(f, name, -1) },
		"sync":      func() impl.FsOut { return impl.FsSync(f, name) },
		"rename":    func() impl.FsOut { return impl.FsRename(f, name, "z") },
		"rename to": func() impl.FsOut { return impl.FsRename(f, "z", name) },
		"remove":    func() impl.FsOut { return impl.FsRemove(f, name) },
	}
}

// fsCallsFail requires the code of every call with that name.
func fsCallsFail(t *testing.T, what string, f impl.Fs, name string, code int64) {
	t.Helper()
	for call, answer := range fsCalls(f, name) {
		got := answer()
		if call == "read" {
			same(t, what+", read", got.Fs.Files[0], impl.File{})
			got.Fs = impl.Fs{}
		}
		fsFails(t, what+", "+call, got, code)
	}
}

func TestFsForm(t *testing.T) {
	for what, f := range badFs() {
		fsCallsFail(t, what, f, "a", impl.ErrForm)
		fsCallsFail(t, what+" and a bad name", f, "A", impl.ErrForm)
		fsFails(t, what+", text of MaxBytes", impl.FsAppend(f, "a", repeated(impl.MaxBytes)), impl.ErrForm)
	}
	for _, name := range badNames() {
		fsCallsFail(t, "name "+shown(name), twoFiles(), name, impl.ErrForm)
		fsCallsFail(t, "no files, name "+shown(name), impl.Fs{}, name, impl.ErrForm)
		fsFails(t, "full, name "+shown(name), impl.FsAppend(manyFiles(impl.MaxFiles), name, "x"), impl.ErrForm)
		fsFails(t, "a to "+shown(name), impl.FsRename(twoFiles(), "a", name), impl.ErrForm)
		fsFails(t, "nothing to "+shown(name), impl.FsRename(twoFiles(), "c", name), impl.ErrForm)
		fsFails(t, "text of MaxFile + 1, name "+shown(name), impl.FsAppend(twoFiles(), name, repeated(impl.MaxFile+1)), impl.ErrForm)
	}
}

func TestFsSize(t *testing.T) {
	long := repeated(impl.MaxBytes + 1)
	bad := badFs()["twice"]
	for _, f := range []impl.Fs{{}, twoFiles(), manyFiles(impl.MaxFiles), bad} {
		fsCallsFail(t, "long name", f, long, impl.ErrSize)
		fsFails(t, "long text", impl.FsAppend(f, "a", long), impl.ErrSize)
		fsFails(t, "long text and bad name", impl.FsAppend(f, "A", long), impl.ErrSize)
		fsFails(t, "long to and bad name", impl.FsRename(f, "A", long), impl.ErrSize)
		fsFails(t, "bad to and long name", impl.FsRename(f, long, "A"), impl.ErrSize)
		fsFails(t, "long name and to", impl.FsRename(f, long, long), impl.ErrSize)
	}
	fsFails(t, "text of MaxBytes", impl.FsAppend(impl.Fs{}, "a", repeated(impl.MaxBytes)), impl.ErrFull)
}

// Promise 4.

func TestFsAppend(t *testing.T) {
	a := impl.File{Name: "a", Data: "first", Synced: 2}
	b := impl.File{Name: "b", Data: "second", Synced: 3}
	f := fsOf(a, b)
	fsIs(t, "to b", impl.FsAppend(f, "b", "+"), a, impl.File{Name: "b", Data: "second+", Synced: 3})
	fsIs(t, "to a", impl.FsAppend(f, "a", "\x00\xff"), impl.File{Name: "a", Data: "first\x00\xff", Synced: 2}, b)
	fsIs(t, "nothing to b", impl.FsAppend(f, "b", ""), a, b)
	fsIs(t, "between", impl.FsAppend(f, "a_", "new"), a, impl.File{Name: "a_", Data: "new"}, b)
	fsIs(t, "behind", impl.FsAppend(f, "c", "new"), a, b, impl.File{Name: "c", Data: "new"})
	fsIs(t, "in front", impl.FsAppend(fsOf(b), "a", "new"), impl.File{Name: "a", Data: "new"}, b)
	fsIs(t, "nothing to a new file", impl.FsAppend(f, "c", ""), a, b, impl.File{Name: "c"})
	fsIs(t, "first file", impl.FsAppend(impl.Fs{}, "a", "new"), impl.File{Name: "a", Data: "new"})
}

func TestFsAppendAtMaxFiles(t *testing.T) {
	f := manyFiles(impl.MaxFiles)
	fsFails(t, "new file", impl.FsAppend(f, "a", "x"), impl.ErrFull)
	fsFails(t, "new empty file", impl.FsAppend(f, "z", ""), impl.ErrFull)
	want := manyFiles(impl.MaxFiles)
	want.Files[4].Data = "datax"
	fsIs(t, "existing file", impl.FsAppend(f, "n04", "x"), want.Files...)
	less := manyFiles(impl.MaxFiles - 1)
	want = manyFiles(impl.MaxFiles - 1)
	fsIs(t, "last file", impl.FsAppend(less, "z", "x"), append(want.Files, impl.File{Name: "z", Data: "x"})...)
}

func TestFsAppendAtMaxFile(t *testing.T) {
	full := repeated(impl.MaxFile)
	fsIs(t, "full at once", impl.FsAppend(impl.Fs{}, "a", full), impl.File{Name: "a", Data: full})
	fsFails(t, "one more at once", impl.FsAppend(impl.Fs{}, "a", full+"x"), impl.ErrFull)
	f := fsOf(impl.File{Name: "a", Data: full[2:], Synced: 5})
	fsIs(t, "to the limit", impl.FsAppend(f, "a", "xx"), impl.File{Name: "a", Data: full, Synced: 5})
	fsFails(t, "over the limit", impl.FsAppend(f, "a", "xxx"), impl.ErrFull)
	f = fsOf(impl.File{Name: "a", Data: full})
	fsIs(t, "nothing to a full file", impl.FsAppend(f, "a", ""), f.Files...)
	fsFails(t, "one to a full file", impl.FsAppend(f, "a", "x"), impl.ErrFull)
}

func TestAppendedIsBehind(t *testing.T) {
	r := dice()
	for range 300 {
		f := randomFs(r)
		name, text := randomName(r), randomText(r, r.Intn(20))
		before := impl.FsRead(f, name).Text
		out := impl.FsAppend(f, name, text)
		if out.Code == impl.ErrFull {
			continue
		}
		same(t, "appended", impl.FsRead(out.Fs, name), impl.TextOut{Text: before + text})
		for _, file := range f.Files {
			if file.Name != name {
				same(t, "another file", impl.FsRead(out.Fs, file.Name).Text, file.Data)
			}
		}
	}
}

func TestFsRename(t *testing.T) {
	a := impl.File{Name: "a", Data: "first", Synced: 2}
	b := impl.File{Name: "b", Data: "second", Synced: 3}
	f := fsOf(a, b)
	fsIs(t, "a to c", impl.FsRename(f, "a", "c"), b, impl.File{Name: "c", Data: "first", Synced: 2})
	fsIs(t, "b to a0", impl.FsRename(f, "b", "a0"), a, impl.File{Name: "a0", Data: "second", Synced: 3})
	fsIs(t, "a to b", impl.FsRename(f, "a", "b"), impl.File{Name: "b", Data: "first", Synced: 2})
	fsIs(t, "b to a", impl.FsRename(f, "b", "a"), impl.File{Name: "a", Data: "second", Synced: 3})
	fsIs(t, "a to a", impl.FsRename(f, "a", "a"), a, b)
	fsFails(t, "not there", impl.FsRename(f, "c", "d"), impl.ErrNone)
	fsFails(t, "not there, onto a file", impl.FsRename(f, "c", "a"), impl.ErrNone)
	fsFails(t, "not there, onto itself", impl.FsRename(f, "c", "c"), impl.ErrNone)
	fsFails(t, "no files", impl.FsRename(impl.Fs{}, "a", "b"), impl.ErrNone)
	out := impl.FsRename(manyFiles(impl.MaxFiles), "n03", "z")
	same(t, "of MaxFiles", out.Code, impl.OK)
	same(t, "of MaxFiles, last", out.Fs.Files[impl.MaxFiles-1], impl.File{Name: "z", Data: "data", Synced: 2})
}

func TestRenamedIsFound(t *testing.T) {
	r := dice()
	for range 300 {
		f := randomFs(r)
		name, to := randomName(r), randomName(r)
		before := impl.FsRead(f, name)
		out := impl.FsRename(f, name, to)
		same(t, "code", out.Code, before.Code)
		if out.Code != impl.OK {
			continue
		}
		same(t, "valid", impl.FsRight(out.Fs), true)
		same(t, "new name", impl.FsRead(out.Fs, to), before)
		if name != to {
			same(t, "old name", impl.FsRead(out.Fs, name).Code, impl.ErrNone)
		}
	}
}

func TestFsCut(t *testing.T) {
	b := impl.File{Name: "b", Data: "second", Synced: 3}
	f := fsOf(impl.File{Name: "a", Data: "first", Synced: 2}, b)
	fsIs(t, "to 0", impl.FsCut(f, "a", 0), impl.File{Name: "a"}, b)
	fsIs(t, "below synced", impl.FsCut(f, "a", 1), impl.File{Name: "a", Data: "f", Synced: 1}, b)
	fsIs(t, "to synced", impl.FsCut(f, "a", 2), impl.File{Name: "a", Data: "fi", Synced: 2}, b)
	fsIs(t, "above synced", impl.FsCut(f, "a", 3), impl.File{Name: "a", Data: "fir", Synced: 2}, b)
	fsIs(t, "to all", impl.FsCut(f, "a", 5), f.Files...)
	fsIs(t, "empty to 0", impl.FsCut(fsOf(impl.File{Name: "a"}), "a", 0), impl.File{Name: "a"})
	for _, size := range []int64{6, 7, -1, -5, 1 << 32, 1<<32 + 1, math.MaxInt64, math.MinInt64} {
		fsFails(t, fmt.Sprint("to ", size), impl.FsCut(f, "a", size), impl.ErrRange)
		fsFails(t, fmt.Sprint("not there, to ", size), impl.FsCut(f, "c", size), impl.ErrNone)
	}
	fsFails(t, "not there", impl.FsCut(f, "c", 0), impl.ErrNone)
	fsFails(t, "empty to 1", impl.FsCut(fsOf(impl.File{Name: "a"}), "a", 1), impl.ErrRange)
}

func TestFsSync(t *testing.T) {
	a := impl.File{Name: "a", Data: "first", Synced: 2}
	b := impl.File{Name: "b", Data: "second", Synced: 6}
	f := fsOf(a, b)
	fsIs(t, "a", impl.FsSync(f, "a"), impl.File{Name: "a", Data: "first", Synced: 5}, b)
	fsIs(t, "b again", impl.FsSync(f, "b"), a, b)
	fsIs(t, "empty", impl.FsSync(fsOf(impl.File{Name: "a"}), "a"), impl.File{Name: "a"})
	fsFails(t, "not there", impl.FsSync(f, "c"), impl.ErrNone)
}

func TestFsRemove(t *testing.T) {
	f := twoFiles()
	fsIs(t, "a", impl.FsRemove(f, "a"), f.Files[1])
	fsIs(t, "b", impl.FsRemove(f, "b"), f.Files[0])
	fsIs(t, "the last one", impl.FsRemove(fsOf(f.Files[0]), "a"))
	fsFails(t, "not there", impl.FsRemove(f, "c"), impl.ErrNone)
	fsFails(t, "no files", impl.FsRemove(impl.Fs{}, "a"), impl.ErrNone)
}

// Promise 5.

func TestFsCrash(t *testing.T) {
	f := fsOf(
		impl.File{Name: "a", Data: "first", Synced: 2},
		impl.File{Name: "b", Data: "second", Synced: 6},
		impl.File{Name: "c", Data: "third"})
	b := impl.File{Name: "b", Data: "second", Synced: 6}
	nothing := fsOf(impl.File{Name: "a", Data: "fi", Synced: 2}, b, impl.File{Name: "c"})
	all := fsOf(impl.File{Name: "a", Data: "first", Synced: 5}, b, impl.File{Name: "c", Data: "third", Synced: 5})
	for _, keep := range [][]int64{nil, {}, {0}, {0, 0, 0}, {-1}, {-1, 9, -7}, {math.MinInt64, math.MinInt64, math.MinInt64}, {0, 4}} {
		filesIs(t, fmt.Sprint("keep ", keep), impl.FsCrash(f, keep), nothing)
	}
	for _, keep := range [][]int64{{3, 0, 5}, {4, 1, 6}, {9, -1, 9, 9}, {math.MaxInt64, math.MaxInt64, math.MaxInt64}} {
		filesIs(t, fmt.Sprint("keep ", keep), impl.FsCrash(f, keep), all)
	}
	short := fsOf(impl.File{Name: "a", Data: "fir", Synced: 3}, b, impl.File{Name: "c"})
	filesIs(t, "keep shorter than the files", impl.FsCrash(f, []int64{1}), short)
	some := fsOf(impl.File{Name: "a", Data: "firs", Synced: 4}, b, impl.File{Name: "c", Data: "t", Synced: 1})
	filesIs(t, "keep longer than the files", impl.FsCrash(f, []int64{2, 2, 1, 3}), some)
	filesIs(t, "no files", impl.FsCrash(impl.Fs{}, []int64{1}), impl.Fs{})
}

func TestFsCrashLimits(t *testing.T) {
	f := fsOf(impl.File{Name: "a", Data: "first", Synced: 2})
	keep := make([]int64, impl.MaxList+1)
	keep[0] = 2
	filesIs(t, "keep of MaxList", impl.FsCrash(f, keep[:impl.MaxList]), fsOf(impl.File{Name: "a", Data: "firs", Synced: 4}))
	filesIs(t, "keep of MaxList + 1", impl.FsCrash(f, keep), impl.Fs{})
	full := repeated(impl.MaxFile)
	f = fsOf(impl.File{Name: "a", Data: full, Synced: 1})
	filesIs(t, "full file", impl.FsCrash(f, []int64{impl.MaxFile - 2}), fsOf(impl.File{Name: "a", Data: full[1:], Synced: impl.MaxFile - 1}))
	same(t, "MaxFiles", len(impl.FsCrash(manyFiles(impl.MaxFiles), nil).Files), impl.MaxFiles)
	for what, bad := range badFs() {
		filesIs(t, what, impl.FsCrash(bad, nil), bad)
		filesIs(t, what+", keep", impl.FsCrash(bad, []int64{1, 1}), bad)
		filesIs(t, what+", keep of MaxList", impl.FsCrash(bad, keep[:impl.MaxList]), bad)
		filesIs(t, what+", keep of MaxList + 1", impl.FsCrash(bad, keep), impl.Fs{})
	}
}

func TestCrashLeavesSyncedBeginning(t *testing.T) {
	r := dice()
	for range 300 {
		f := randomFs(r)
		keep := make([]int64, r.Intn(impl.MaxFiles+2))
		for i := range keep {
			keep[i] = int64(r.Intn(30) - 5)
		}
		got := impl.FsCrash(f, keep)
		namesIs(t, "names", impl.FsNames(got), impl.FsNames(f)...)
		for i, file := range f.Files {
			left := got.Files[i]
			size := file.Synced
			for more := int64(0); i < len(keep) && more < keep[i] && size < int64(len(file.Data)); more++ {
				size++
			}
			same(t, "left", left, impl.File{Name: file.Name, Data: file.Data[:size], Synced: size})
		}
		filesIs(t, "a second crash", impl.FsCrash(got, keep), got)
	}
}

// modelFs is a file system that is as simple as can be.
type modelFs map[string]impl.File

func (m modelFs) list() impl.Fs {
	var f impl.Fs
	for _, file := range m {
		f.Files = append(f.Files, file)
	}
	sort.Slice(f.Files, func(i, j int) bool { return f.Files[i].Name < f.Files[j].Name })
	return f
}

func randomName(r *rand.Rand) string {
	return string(rune('a' + r.Intn(impl.MaxFiles+2)))
}

func randomFs(r *rand.Rand) impl.Fs {
	m := modelFs{}
	for range r.Intn(impl.MaxFiles + 1) {
		data := randomText(r, r.Intn(20))
		name := randomName(r)
		m[name] = impl.File{Name: name, Data: data, Synced: int64(r.Intn(len(data) + 1))}
	}
	return m.list()
}

// step makes one random change to both; it returns the code that the model has.
func (m modelFs) step(r *rand.Rand, f impl.Fs) (impl.FsOut, int64) {
	name, to := randomName(r), randomName(r)
	file, there := m[name]
	size := int64(r.Intn(30) - 3)
	text := randomText(r, r.Intn(12))
	kind := r.Intn(8)
	if kind > 3 && !there {
		return []impl.FsOut{impl.FsCut(f, name, size), impl.FsSync(f, name), impl.FsRename(f, name, to), impl.FsRemove(f, name)}[kind-4], impl.ErrNone
	}
	switch kind {
	case 4:
		if size < 0 || size > int64(len(file.Data)) {
			return impl.FsCut(f, name, size), impl.ErrRange
		}
		m[name] = impl.File{Name: name, Data: file.Data[:size], Synced: min(file.Synced, size)}
		return impl.FsCut(f, name, size), impl.OK
	case 5:
		m[name] = impl.File{Name: name, Data: file.Data, Synced: int64(len(file.Data))}
		return impl.FsSync(f, name), impl.OK
	case 6:
		delete(m, name)
		m[to] = impl.File{Name: to, Data: file.Data, Synced: file.Synced}
		return impl.FsRename(f, name, to), impl.OK
	case 7:
		delete(m, name)
		return impl.FsRemove(f, name), impl.OK
	}
	if !there && len(m) == impl.MaxFiles {
		return impl.FsAppend(f, name, text), impl.ErrFull
	}
	m[name] = impl.File{Name: name, Data: file.Data + text, Synced: file.Synced}
	return impl.FsAppend(f, name, text), impl.OK
}

func TestFsLikeModel(t *testing.T) {
	r := dice()
	seen := map[int64]int{}
	for range 40 {
		m, f := modelFs{}, impl.Fs{}
		for range 100 {
			out, code := m.step(r, f)
			same(t, "code", out.Code, code)
			seen[code]++
			if code != impl.OK {
				filesIs(t, "beside an error", out.Fs, impl.Fs{})
				continue
			}
			f = out.Fs
			filesIs(t, "files", f, m.list())
			same(t, "valid", impl.FsRight(f), true)
		}
	}
	for _, code := range []int64{impl.OK, impl.ErrNone, impl.ErrRange, impl.ErrFull} {
		same(t, fmt.Sprint("code ", code, " seen"), seen[code] > 0, true)
	}
}

// shares tells whether two strings have a byte in common in memory.
func shares(a string, b string) bool {
	if a == "" || b == "" {
		return false
	}
	aAt, bAt := uintptr(unsafe.Pointer(unsafe.StringData(a))), uintptr(unsafe.Pointer(unsafe.StringData(b)))
	return aAt < bAt+uintptr(len(b)) && bAt < aAt+uintptr(len(a))
}

func sharesNone(t *testing.T, what string, got []string, given []string) {
	t.Helper()
	for _, a := range got {
		for _, b := range given {
			if shares(a, b) {
				t.Errorf("%s: %s of the answer and %s of an argument share memory", what, shown(a), shown(b))
			}
		}
	}
}

func fsStrings(f impl.Fs) []string {
	var out []string
	for _, file := range f.Files {
		out = append(out, file.Name, file.Data)
	}
	return out
}

func cloned(f impl.Fs) impl.Fs {
	var out impl.Fs
	for _, file := range f.Files {
		out.Files = append(out.Files, impl.File{Name: strings.Clone(file.Name), Data: strings.Clone(file.Data), Synced: file.Synced})
	}
	return out
}

// spoil overwrites all files, also the room behind them.
func spoil(f impl.Fs) {
	all := f.Files[:cap(f.Files)]
	for i := range all {
		all[i] = impl.File{Name: "spoiled", Data: "spoiled", Synced: 7}
	}
}

func TestFsSharesNothing(t *testing.T) {
	name, to, text, keep := strings.Clone("first"), strings.Clone("third"), strings.Clone("some text"), []int64{3, -1, 1}
	files := fsOf(impl.File{Name: "first", Data: "data one", Synced: 3}, impl.File{Name: "second", Data: "data two", Synced: 8})
	calls := map[string]func(f impl.Fs) impl.Fs{
		"append":     func(f impl.Fs) impl.Fs { return impl.FsAppend(f, name, text).Fs },
		"append new": func(f impl.Fs) impl.Fs { return impl.FsAppend(f, to, text).Fs },
		"cut":        func(f impl.Fs) impl.Fs { return impl.FsCut(f, name, 2).Fs },
		"sync":       func(f impl.Fs) impl.Fs { return impl.FsSync(f, name).Fs },
		"rename":     func(f impl.Fs) impl.Fs { return impl.FsRename(f, name, to).Fs },
		"rename it":  func(f impl.Fs) impl.Fs { return impl.FsRename(f, name, name).Fs },
		"remove":     func(f impl.Fs) impl.Fs { return impl.FsRemove(f, name).Fs },
		"crash":      func(f impl.Fs) impl.Fs { return impl.FsCrash(f, keep) },
		"crash bad":  func(f impl.Fs) impl.Fs { slices.Reverse(f.Files); return impl.FsCrash(f, keep) },
	}
	for what, call := range calls {
		// The room behind the files is what an append to an argument would use.
		f := impl.Fs{Files: append(make([]impl.File, 0, 5), cloned(files).Files...)}
		got := call(f)
		before := cloned(got)
		sharesNone(t, what, fsStrings(got), append(fsStrings(f), name, to, text))
		same(t, what+": room behind the argument", f.Files[:3][2], impl.File{})
		spoil(f)
		filesIs(t, what+": answer after the argument is spoiled", got, before)
		f = cloned(files)
		got = call(f)
		before = cloned(f)
		spoil(got)
		filesIs(t, what+": argument after the answer is spoiled", f, before)
	}
	if !slices.Equal(keep, []int64{3, -1, 1}) || name != "first" || to != "third" || text != "some text" {
		t.Error("an argument is changed")
	}
	sharesNone(t, "read", []string{impl.FsRead(files, name).Text}, fsStrings(files))
	sharesNone(t, "names", impl.FsNames(files), fsStrings(files))
}

func TestFsLeavesArguments(t *testing.T) {
	r := dice()
	for range 100 {
		f := randomFs(r)
		before := cloned(f)
		name := randomName(r)
		for _, answer := range fsCalls(f, name) {
			answer()
		}
		impl.FsCut(f, name, 1)
		impl.FsNames(f)
		impl.FsRight(f)
		impl.FsCrash(f, []int64{1, 2, 3})
		filesIs(t, "argument", f, before)
	}
	bad := badFs()
	for what, f := range bad {
		before := cloned(f)
		impl.FsCrash(f, []int64{1})
		for _, answer := range fsCalls(f, "a") {
			answer()
		}
		filesIs(t, what, f, before)
	}
}
