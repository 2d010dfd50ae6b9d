package tests

import (
	"encoding/binary"
	"fmt"
	"math"
	"math/rand"
	"strings"
	"testing"

	"loop.example/g00386/impl"
)

func numCode(n int64) string {
	return string(binary.AppendVarint(nil, n))
}

func textCode(text string) string {
	return numCode(int64(len(text))) + text
}

// commandFields makes the encoding of a command field by field and without the
// program, also of a command that is invalid.
func commandFields(c impl.Command) []string {
	return []string{numCode(c.Client), numCode(c.Number), numCode(c.Kind),
		textCode(c.Topic), textCode(c.Group), textCode(c.Text), numCode(c.N)}
}

func rightCommand(c impl.Command) string {
	return strings.Join(commandFields(c), "")
}

func commandFails(t *testing.T, what string, text string, code int64) {
	t.Helper()
	same(t, "CommandRead "+what, impl.CommandRead(text), impl.CommandOut{Code: code})
}

func commandIsRight(t *testing.T, what string, c impl.Command) {
	t.Helper()
	code := impl.CommandBytes(c)
	same(t, "CommandRight "+what, impl.CommandRight(c), true)
	same(t, "CommandBytes "+what, code, rightCommand(c))
	same(t, "CommandRead "+what, impl.CommandRead(code), impl.CommandOut{Command: c})
}

func commandIsWrong(t *testing.T, what string, c impl.Command) {
	t.Helper()
	same(t, "CommandRight "+what, impl.CommandRight(c), false)
	same(t, "CommandBytes "+what, impl.CommandBytes(c), "")
	code := rightCommand(c)
	if len(code) > impl.MaxBytes {
		commandFails(t, what, code, impl.ErrSize)
	} else {
		commandFails(t, what, code, impl.ErrSyntax)
	}
}

func allKinds() []int64 {
	return []int64{impl.CmCreate, impl.CmDelete, impl.CmPublish, impl.CmFetch, impl.CmAck, impl.CmSeek, impl.CmRetain}
}

func noKinds() []int64 {
	return []int64{0, 8, 9, 14, 100, 255, 257, 1<<32 + 1, math.MaxInt64, -1, -2, -3, -7, -8, -255, math.MinInt64, math.MinInt64 + 1}
}

func groupKind(kind int64) bool {
	return kind == impl.CmFetch || kind == impl.CmAck || kind == impl.CmSeek
}

// plainCommand is a valid command of a kind with every field that it may have.
func plainCommand(kind int64) impl.Command {
	c := impl.Command{Client: 3, Number: 200, Kind: kind, Topic: "topic"}
	if kind == impl.CmPublish {
		c.Text = "a message"
	}
	if groupKind(kind) {
		c.Group, c.N = "group", 70
	}
	if kind == impl.CmRetain {
		c.N = 7
	}
	return c
}

// eachPlain goes through a plain command of every kind.
func eachPlain(check func(what string, c impl.Command)) {
	for _, kind := range allKinds() {
		check(fmt.Sprint("of kind ", kind), plainCommand(kind))
	}
}

func TestExampleOfChapter7(t *testing.T) {
	c := impl.Command{Client: 1, Number: 2, Kind: impl.CmPublish, Topic: "t", Text: "x"}
	same(t, "bytes", impl.CommandBytes(c), "\x02\x04\x06\x02\x74\x00\x02\x78\x00")
	same(t, "read", impl.CommandRead("\x02\x04\x06\x02\x74\x00\x02\x78\x00"), impl.CommandOut{Command: c})
}

func TestKindsOfCommands(t *testing.T) {
	for i, kind := range allKinds() {
		same(t, "kind", kind, int64(i+1))
	}
}

func TestCommandName(t *testing.T) {
	names := []string{"create", "delete", "publish", "fetch", "ack", "seek", "retain"}
	for i, kind := range allKinds() {
		same(t, fmt.Sprint("of ", kind), impl.CommandName(kind), names[i])
	}
	for _, kind := range noKinds() {
		same(t, fmt.Sprint("of ", kind), impl.CommandName(kind), "")
	}
}

// Promise 10.

func TestCommandBytes(t *testing.T) {
	cases := []struct {
		c    impl.Command
		want string
	}{
		{impl.Command{Client: 9, Number: 1, Kind: impl.CmCreate, Topic: "ab"}, "\x12\x02\x02\x04ab\x00\x00\x00"},
		{impl.Command{Client: 2, Number: 64, Kind: impl.CmDelete, Topic: "t"}, "\x04\x80\x01\x04\x02t\x00\x00\x00"},
		{impl.Command{Client: 3, Number: impl.MaxTime, Kind: impl.CmFetch, Topic: "t", Group: "g_1", N: 5}, "\x06\x80\xa8\xd6\xb9\x07\x08\x02t\x06g_1\x00\x0a"},
		{impl.Command{Client: 4, Number: 3, Kind: impl.CmAck, Topic: "t", Group: "g"}, "\x08\x06\x0a\x02t\x02g\x00\x00"},
		{impl.Command{Client: 5, Number: 4, Kind: impl.CmSeek, Topic: "t", Group: "g", N: 64}, "\x0a\x08\x0c\x02t\x02g\x00\x80\x01"},
		{impl.Command{Client: 6, Number: 5, Kind: impl.CmRetain, Topic: "t", N: 20}, "\x0c\x0a\x0e\x02t\x00\x00\x28"},
		{impl.Command{Client: 7, Number: 6, Kind: impl.CmPublish, Topic: "t", Text: "\x00\xff\n"}, "\x0e\x0c\x06\x02t\x00\x06\x00\xff\n\x00"},
	}
	for _, c := range cases {
		same(t, "CommandBytes", impl.CommandBytes(c.c), c.want)
		same(t, "CommandRead", impl.CommandRead(c.want), impl.CommandOut{Command: c.c})
	}
	eachPlain(func(what string, c impl.Command) { commandIsRight(t, what, c) })
}

func TestCommandClient(t *testing.T) {
	eachPlain(func(what string, c impl.Command) {
		for _, c.Client = range []int64{1, 2, 5, 8, 9} {
			commandIsRight(t, fmt.Sprint(what, " of client ", c.Client), c)
		}
		for _, c.Client = range []int64{0, 10, 11, 64, 257, 1<<32 + 1, math.MaxInt64, -1, -9, math.MinInt64} {
			commandIsWrong(t, fmt.Sprint(what, " of client ", c.Client), c)
		}
	})
}

func TestCommandNumber(t *testing.T) {
	eachPlain(func(what string, c impl.Command) {
		for _, c.Number = range []int64{1, 2, 63, 64, 8191, 8192, 1 << 20, impl.MaxTime - 1, impl.MaxTime} {
			commandIsRight(t, fmt.Sprint(what, " with number ", c.Number), c)
		}
		for _, c.Number = range []int64{0, impl.MaxTime + 1, 1<<32 + 1, math.MaxInt64, -1, -impl.MaxTime, math.MinInt64} {
			commandIsWrong(t, fmt.Sprint(what, " with number ", c.Number), c)
		}
	})
}

func TestCommandKind(t *testing.T) {
	eachPlain(func(what string, c impl.Command) {
		for _, c.Kind = range noKinds() {
			commandIsWrong(t, fmt.Sprint(what, ", made kind ", c.Kind), c)
		}
	})
	c := impl.Command{Client: 1, Number: 1, Topic: "t"}
	for _, c.Kind = range noKinds() {
		commandIsWrong(t, fmt.Sprint("bare, of kind ", c.Kind), c)
	}
	commandIsWrong(t, "zero", impl.Command{})
}

// goodNames are names at the limits that chapter 1 sets.
func goodNames() []string {
	return []string{"a", "z", "a0", "z9", "a_", "a__9", repeated(19), repeated(20), "a" + strings.Repeat("_", 19)}
}

// noNames are strings that are no names, also those beyond MaxBytes.
func noNames() []string {
	return append(badNames(), "a-b", "aB", "`", "{", " a", "a ", "a\n", "a\xff", repeated(20)+"1", repeated(40), repeated(impl.MaxBytes+1))
}

func TestCommandTopic(t *testing.T) {
	eachPlain(func(what string, c impl.Command) {
		for _, c.Topic = range goodNames() {
			commandIsRight(t, what+" with the topic "+shown(c.Topic), c)
		}
		for _, c.Topic = range noNames() {
			commandIsWrong(t, what+" with the topic "+shown(c.Topic), c)
		}
	})
}

func TestCommandGroup(t *testing.T) {
	eachPlain(func(what string, c impl.Command) {
		for _, c.Group = range goodNames() {
			name := what + " with the group " + shown(c.Group)
			if groupKind(c.Kind) {
				commandIsRight(t, name, c)
			} else {
				commandIsWrong(t, name, c)
			}
		}
		for _, c.Group = range noNames() {
			if c.Group != "" || groupKind(c.Kind) {
				commandIsWrong(t, what+" with the group "+shown(c.Group), c)
			}
		}
	})
}

func TestCommandText(t *testing.T) {
	right := []string{"x", "\x00", "\xff", " ", "two words", "é\n", repeated(39), repeated(40), strings.Repeat("\x80", 40)}
	eachPlain(func(what string, c impl.Command) {
		for _, c.Text = range right {
			name := what + " with the text " + shown(c.Text)
			if c.Kind == impl.CmPublish {
				commandIsRight(t, name, c)
			} else {
				commandIsWrong(t, name, c)
			}
		}
		for _, size := range []int{41, 42, 63, 64, 1000, impl.MaxBytes, impl.MaxBytes + 1} {
			c.Text = repeated(size)
			commandIsWrong(t, fmt.Sprint(what, " with a text of ", size, " bytes"), c)
		}
	})
	// The limit is one of bytes: these are 40 runes.
	c := plainCommand(impl.CmPublish)
	c.Text = strings.Repeat("é", 40)
	commandIsWrong(t, "with a text of 80 bytes", c)
	c.Text = ""
	commandIsWrong(t, "without a text", c)
}

// mostN is the greatest N of a kind.
func mostN(kind int64) int64 {
	if groupKind(kind) {
		return impl.MaxTime
	}
	if kind == impl.CmRetain {
		return 20
	}
	return 0
}

func TestCommandN(t *testing.T) {
	nums := []int64{0, 1, 19, 20, 21, 63, 64, impl.MaxTime - 1, impl.MaxTime, impl.MaxTime + 1, 1 << 32, math.MaxInt64,
		-1, -20, -impl.MaxTime, math.MinInt64}
	eachPlain(func(what string, c impl.Command) {
		for _, c.N = range nums {
			name := fmt.Sprint(what, " with N ", c.N)
			if c.N >= 0 && c.N <= mostN(c.Kind) {
				commandIsRight(t, name, c)
			} else {
				commandIsWrong(t, name, c)
			}
		}
	})
}

// rightByKind is the validity of chapter 7 in its own words.
func rightByKind(c impl.Command) bool {
	name := func(s string) bool { return len(s) >= 1 && len(s) <= 20 && strings.Trim(s, "x") == "" }
	if c.Client < 1 || c.Client > 9 || c.Number < 1 || c.Number > 1000000000 || !name(c.Topic) {
		return false
	}
	switch c.Kind {
	case 1, 2:
		return c.Group == "" && c.Text == "" && c.N == 0
	case 3:
		return len(c.Text) >= 1 && len(c.Text) <= 40 && c.Group == "" && c.N == 0
	case 4, 5, 6:
		return name(c.Group) && c.Text == "" && c.N >= 0 && c.N <= 1000000000
	case 7:
		return c.Group == "" && c.Text == "" && c.N >= 0 && c.N <= 20
	}
	return false
}

// Fields that are wrong together must not make up for each other.
func TestCommandsOfEdgeFields(t *testing.T) {
	nums := []int64{-1, 0, 1, 20, 21, impl.MaxTime, impl.MaxTime + 1}
	names := []string{"", "x", repeated(20), repeated(21)}
	texts := []string{"", "x", repeated(40), repeated(41)}
	right := 0
	for at := range 10 * 4 * len(nums) * 2 * len(names) * len(texts) * len(names) {
		pick := func(many int) int {
			i := at % many
			at /= many
			return i
		}
		c := impl.Command{Kind: int64(pick(10)) - 1, Client: []int64{0, 1, 9, 10}[pick(4)], N: nums[pick(len(nums))],
			Number: []int64{1, impl.MaxTime + 1}[pick(2)], Group: names[pick(len(names))], Text: texts[pick(len(texts))], Topic: names[pick(len(names))]}
		what := shown(c)
		if rightByKind(c) {
			right++
			commandIsRight(t, what, c)
		} else {
			commandIsWrong(t, what, c)
		}
	}
	same(t, "valid ones seen", right > 100, true)
}

func randomCommand(r *rand.Rand) impl.Command {
	letters := "abcxyz019_"
	name := func() string {
		out := "n"
		for range r.Intn(20) {
			out += string(letters[r.Intn(len(letters))])
		}
		return out
	}
	c := impl.Command{Client: 1 + r.Int63n(9), Number: 1 + r.Int63n(impl.MaxTime)>>r.Intn(30), Kind: 1 + r.Int63n(7), Topic: name()}
	if groupKind(c.Kind) {
		c.Group = name()
	}
	if c.Kind == impl.CmPublish {
		c.Text = randomText(r, 1+r.Intn(40))
	}
	c.N = r.Int63n(mostN(c.Kind) + 1)
	return c
}

func TestCommandIsDecoded(t *testing.T) {
	r := dice()
	for range 2000 {
		c := randomCommand(r)
		commandIsRight(t, shown(c), c)
	}
}

func TestDifferentCommandsHaveDifferentBytes(t *testing.T) {
	r := dice()
	seen := map[string]impl.Command{}
	for range 2000 {
		c := randomCommand(r)
		code := impl.CommandBytes(c)
		before, there := seen[code]
		if there {
			same(t, "commands of one encoding", c, before)
		}
		seen[code] = c
	}
}

func TestCutCommand(t *testing.T) {
	eachPlain(func(what string, c impl.Command) {
		for _, c.Number = range []int64{1, impl.MaxTime} {
			code := impl.CommandBytes(c)
			for cut := range len(code) {
				commandFails(t, fmt.Sprint(what, " cut at ", cut), code[:cut], impl.ErrSyntax)
				commandFails(t, fmt.Sprint(what, " from ", cut+1, " on"), code[cut+1:], impl.ErrSyntax)
			}
		}
	})
	commandFails(t, "of nothing", "", impl.ErrSyntax)
}

func TestBytesBehindCommand(t *testing.T) {
	eachPlain(func(what string, c impl.Command) {
		code := impl.CommandBytes(c)
		for b := range 256 {
			behind := string([]byte{byte(b)})
			commandFails(t, fmt.Sprint(what, " before byte ", b), code+behind, impl.ErrSyntax)
			if got := impl.CommandRead(behind + code); got.Code != impl.ErrSyntax {
				t.Errorf("CommandRead %s behind byte %d: got %s", what, b, shown(got))
			}
		}
		commandFails(t, what+" twice", code+code, impl.ErrSyntax)
		commandFails(t, what+" before zeros", code+"\x00\x00\x00", impl.ErrSyntax)
		commandFails(t, what+" before many bytes", code+repeated(300), impl.ErrSyntax)
	})
}

// longer writes the number in front of a field with more bytes than needed.
func longer(field string, more int) string {
	_, size := binary.Varint([]byte(field))
	return withByte(field[:size], size-1, field[size-1]|128) + strings.Repeat("\x80", more-1) + "\x00" + field[size:]
}

func TestLongerNumbersInCommand(t *testing.T) {
	eachPlain(func(what string, c impl.Command) {
		fields := commandFields(c)
		for i := range fields {
			for more := 1; more < 11; more++ {
				changed := append([]string{}, fields...)
				changed[i] = longer(fields[i], more)
				commandFails(t, fmt.Sprint(what, " with field ", i, " longer by ", more), strings.Join(changed, ""), impl.ErrSyntax)
			}
		}
	})
}

func TestWrongNumbersInCommand(t *testing.T) {
	ten := strings.Repeat("\x82", 9)
	wrong := []string{"\x80", "\xff", ten, ten + "\x02", ten + "\x7f", ten + "\x80\x00", ten + "\x82\x01"}
	for _, n := range []int64{-1, -2, math.MinInt64, impl.MaxTime + 1, math.MaxInt64} {
		wrong = append(wrong, numCode(n))
	}
	eachPlain(func(what string, c impl.Command) {
		fields := commandFields(c)
		for i := range fields {
			for _, number := range wrong {
				changed := append([]string{}, fields...)
				_, size := binary.Varint([]byte(fields[i]))
				changed[i] = number + fields[i][size:]
				commandFails(t, fmt.Sprint(what, " with field ", i, " as ", shown(number)), strings.Join(changed, ""), impl.ErrSyntax)
			}
		}
	})
}

func TestWrongLengthsInCommand(t *testing.T) {
	eachPlain(func(what string, c impl.Command) {
		fields := commandFields(c)
		for i := 3; i <= 5; i++ {
			size, head := binary.Varint([]byte(fields[i]))
			for _, length := range []int64{size + 100, 1000, impl.MaxBytes, impl.MaxBytes + 1, 1 << 40} {
				changed := append([]string{}, fields...)
				changed[i] = numCode(length) + fields[i][head:]
				commandFails(t, fmt.Sprint(what, " with length ", length, " in field ", i), strings.Join(changed, ""), impl.ErrSyntax)
			}
		}
	})
}

func TestFieldsOfCommandLeftOut(t *testing.T) {
	eachPlain(func(what string, c impl.Command) {
		c.Number = 100
		fields := commandFields(c)
		for i := range fields {
			left := append(append([]string{}, fields[:i]...), fields[i+1:]...)
			commandFails(t, fmt.Sprint(what, " without field ", i), strings.Join(left, ""), impl.ErrSyntax)
		}
	})
}

// readsExactly requires that a text that is read is the very encoding of what
// comes out of it; it tells whether the text was read.
func readsExactly(t *testing.T, text string) bool {
	t.Helper()
	got := impl.CommandRead(text)
	if got.Code != impl.OK {
		commandFails(t, shown(text), text, impl.ErrSyntax)
		return false
	}
	commandIsRight(t, "that was read", got.Command)
	same(t, "encoding of what was read", rightCommand(got.Command), text)
	return true
}

func TestChangedCommand(t *testing.T) {
	read, failed := 0, 0
	count := func(right bool) {
		if right {
			read++
		} else {
			failed++
		}
	}
	eachPlain(func(what string, c impl.Command) {
		code := impl.CommandBytes(c)
		for i := range len(code) {
			for b := range 256 {
				count(readsExactly(t, withByte(code, i, byte(b))))
			}
		}
	})
	r := dice()
	for range 5000 {
		code := []byte(impl.CommandBytes(randomCommand(r)))
		for range 1 + r.Intn(3) {
			code[r.Intn(len(code))] = byte(r.Intn(256) >> r.Intn(8))
		}
		count(readsExactly(t, string(code)))
		count(readsExactly(t, randomText(r, r.Intn(30))))
	}
	same(t, "both outcomes seen", read > 1000 && failed > 1000, true)
}

func TestCommandReadSize(t *testing.T) {
	code := impl.CommandBytes(plainCommand(impl.CmPublish))
	full := code + repeated(impl.MaxBytes-len(code))
	commandFails(t, "of MaxBytes bytes", full, impl.ErrSyntax)
	commandFails(t, "of MaxBytes other bytes", repeated(impl.MaxBytes), impl.ErrSyntax)
	commandFails(t, "of one byte more", full+"x", impl.ErrSize)
	commandFails(t, "of far more bytes", full+full, impl.ErrSize)
	commandFails(t, "of one byte more, no command", repeated(impl.MaxBytes+1), impl.ErrSize)
	c := plainCommand(impl.CmPublish)
	c.Text = repeated(impl.MaxBytes - 100)
	c.Text += repeated(impl.MaxBytes - len(rightCommand(c)))
	same(t, "bytes of a great command", len(rightCommand(c)), impl.MaxBytes)
	commandIsWrong(t, "of MaxBytes bytes", c)
	c.Text += "x"
	commandIsWrong(t, "of one byte more", c)
}

// The size limits are those of arguments; a field is only invalid.
func TestCommandWithGreatFields(t *testing.T) {
	great := repeated(impl.MaxBytes + 1)
	eachPlain(func(what string, c impl.Command) {
		topic, group, text := c, c, c
		topic.Topic, group.Group, text.Text = great, great, great
		commandIsWrong(t, what+" with a great topic", topic)
		commandIsWrong(t, what+" with a great group", group)
		commandIsWrong(t, what+" with a great text", text)
	})
}

func commandStrings(c impl.Command) []string {
	return []string{c.Topic, c.Group, c.Text}
}

func TestCommandSharesNothing(t *testing.T) {
	eachPlain(func(what string, c impl.Command) {
		c.Topic, c.Group, c.Text = strings.Clone(c.Topic), strings.Clone(c.Group), strings.Clone(c.Text)
		code := impl.CommandBytes(c)
		sharesNone(t, "CommandBytes "+what, []string{code}, commandStrings(c))
		sharesNone(t, "CommandBytes again "+what, []string{code}, []string{impl.CommandBytes(c)})
		got := commandStrings(impl.CommandRead(code).Command)
		sharesNone(t, "CommandRead "+what, got, []string{code})
		sharesNone(t, "CommandRead again "+what, got, commandStrings(impl.CommandRead(code).Command))
		for i := range got {
			sharesNone(t, "strings of CommandRead "+what, got[:i], got[i:])
		}
	})
}

func TestCommandLeavesArguments(t *testing.T) {
	eachPlain(func(what string, c impl.Command) {
		before := c
		before.Topic, before.Group, before.Text = strings.Clone(c.Topic), strings.Clone(c.Group), strings.Clone(c.Text)
		code := impl.CommandBytes(c)
		kept := strings.Clone(code)
		first := impl.CommandRead(code)
		impl.CommandRight(c)
		impl.CommandName(c.Kind)
		same(t, what+": command", c, before)
		same(t, what+": encoding", code, kept)
		same(t, what+": encoding again", impl.CommandBytes(c), kept)
		same(t, what+": read again", impl.CommandRead(code), first)
	})
}
