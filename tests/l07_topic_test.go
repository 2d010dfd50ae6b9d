package tests

import (
	"fmt"
	"math"
	"math/rand"
	"slices"
	"sort"
	"strings"
	"testing"

	"loop.example/g00386/impl"
)

// topicOf returns a topic t, also one that is invalid.
func topicOf(base int64, held []string, groups ...impl.Group) impl.Topic {
	return impl.Topic{Name: "t", Base: base, Held: held, Groups: groups}
}

// messages returns different messages of several lengths.
func messages(count int) []string {
	var out []string
	for i := range count {
		out = append(out, strings.Repeat(string(rune('a'+i%26)), 1+i*39/20))
	}
	return out
}

func group(name string, acked int64) impl.Group {
	return impl.Group{Name: name, Acked: acked}
}

// groupsAt returns groups b, d, f and so on, so that there is room between them.
func groupsAt(count int, acked int64) []impl.Group {
	var out []impl.Group
	for i := range count {
		out = append(out, group(string(rune('b'+2*i)), acked))
	}
	return out
}

func clonedTopic(t impl.Topic) impl.Topic {
	out := impl.Topic{Name: strings.Clone(t.Name), Base: t.Base}
	for _, text := range t.Held {
		out.Held = append(out.Held, strings.Clone(text))
	}
	for _, g := range t.Groups {
		out.Groups = append(out.Groups, group(strings.Clone(g.Name), g.Acked))
	}
	return out
}

// withGroup returns a copy in which a group has a position; the group is added
// if it is not there.
func withGroup(t impl.Topic, name string, acked int64) impl.Topic {
	t = clonedTopic(t)
	for i := range t.Groups {
		if t.Groups[i].Name == name {
			t.Groups[i].Acked = acked
			return t
		}
	}
	t.Groups = append(t.Groups, group(name, acked))
	sort.Slice(t.Groups, func(i, j int) bool { return t.Groups[i].Name < t.Groups[j].Name })
	return t
}

// sameTopic takes an empty list and nil for the same.
func sameTopic(a impl.Topic, b impl.Topic) bool {
	return a.Name == b.Name && a.Base == b.Base && slices.Equal(a.Held, b.Held) && slices.Equal(a.Groups, b.Groups)
}

func topicIs(t *testing.T, what string, got impl.Topic, want impl.Topic) {
	t.Helper()
	if !sameTopic(got, want) {
		t.Errorf("%s: got %s, want %s", what, shown(got), shown(want))
	}
}

// topicAnswer requires the topic, the code OK, the number and these strings.
func topicAnswer(t *testing.T, what string, got impl.TopicOut, want impl.Topic, n int64, texts ...string) {
	t.Helper()
	same(t, what+": code", got.Code, impl.OK)
	same(t, what+": N", got.N, n)
	topicIs(t, what, got.Topic, want)
	namesIs(t, what+": Texts", got.Texts, texts...)
	same(t, what+": valid", impl.TopicRight(got.Topic), true)
}

// topicFails requires the code and nothing beside it.
func topicFails(t *testing.T, what string, got impl.TopicOut, code int64) {
	t.Helper()
	same(t, what+": code", got.Code, code)
	same(t, what+": N", got.N, 0)
	topicIs(t, what, got.Topic, impl.Topic{})
	namesIs(t, what+": Texts", got.Texts)
}

func goodTopics() map[string]impl.Topic {
	full := messages(impl.MaxHeld)
	long := slices.Repeat([]string{repeated(40)}, impl.MaxHeld)
	topics := map[string]impl.Topic{
		"empty":                  topicOf(0, nil),
		"empty lists":            {Name: "t", Held: []string{}, Groups: []impl.Group{}},
		"empty at MaxTime":       topicOf(impl.MaxTime, nil),
		"empty, groups there":    topicOf(impl.MaxTime, nil, groupsAt(impl.MaxGroups, impl.MaxTime)...),
		"one up to MaxTime":      topicOf(impl.MaxTime-1, messages(1), group("b", impl.MaxTime-1), group("d", impl.MaxTime)),
		"MaxHeld":                topicOf(0, full),
		"MaxHeld up to MaxTime":  topicOf(impl.MaxTime-impl.MaxHeld, full, groupsAt(impl.MaxGroups, impl.MaxTime)...),
		"MaxHeld of 40 bytes":    topicOf(7, long, groupsAt(2, 9)...),
		"one less than MaxHeld":  topicOf(7, messages(impl.MaxHeld-1), group("b", 7)),
		"message of 1 byte":      topicOf(3, []string{"x"}),
		"message of 40 bytes":    topicOf(3, []string{repeated(40)}),
		"messages of any bytes":  topicOf(3, []string{"\x00", "\xff\n", " ", "é"}, group("b", 4)),
		"equal messages":         topicOf(3, []string{"x", "x", "x"}, group("b", 5)),
		"Acked at Base":          topicOf(3, messages(2), group("b", 3)),
		"Acked in between":       topicOf(3, messages(2), group("b", 4)),
		"Acked at the end":       topicOf(3, messages(2), group("b", 5)),
		"Acked of an empty one":  topicOf(3, nil, group("b", 3)),
		"MaxGroups":              topicOf(3, messages(4), groupsAt(impl.MaxGroups, 6)...),
		"a prefix first":         topicOf(3, nil, group("a", 3), group("a0", 3), group("a_", 3), group("aa", 3)),
		"positions out of order": topicOf(3, messages(3), group("a", 6), group("b", 3), group("c", 5)),
		"a group of its name":    topicOf(3, messages(3), group("t", 4)),
	}
	for count := range impl.MaxHeld + 1 {
		topics[fmt.Sprint(count, " messages")] = topicOf(50, messages(count), group("b", 50), group("d", 50+int64(count)))
	}
	for count := range impl.MaxGroups + 1 {
		topics[fmt.Sprint(count, " groups")] = topicOf(50, messages(5), groupsAt(count, 52)...)
	}
	return topics
}

func badTopics() map[string]impl.Topic {
	topics := map[string]impl.Topic{
		"nothing":                       {},
		"Base -1":                       topicOf(-1, nil),
		"Base -1, end in range":         topicOf(-1, messages(3)),
		"Base -1, groups in range":      topicOf(-1, messages(3), group("b", 1)),
		"Base far below 0":              topicOf(math.MinInt64, messages(1)),
		"Base above MaxTime":            topicOf(impl.MaxTime+1, nil),
		"Base far above MaxTime":        topicOf(math.MaxInt64, nil),
		"end beyond all numbers":        topicOf(math.MaxInt64, messages(1)),
		"end beyond, groups behind":     topicOf(math.MaxInt64, messages(2), group("b", math.MaxInt64)),
		"MaxHeld and one more":          topicOf(0, messages(impl.MaxHeld+1)),
		"more messages than MaxList":    topicOf(0, messages(impl.MaxList+1)),
		"end one beyond MaxTime":        topicOf(impl.MaxTime, messages(1)),
		"MaxHeld one beyond MaxTime":    topicOf(impl.MaxTime-impl.MaxHeld+1, messages(impl.MaxHeld)),
		"beyond, Acked at MaxTime":      topicOf(impl.MaxTime-1, messages(2), group("b", impl.MaxTime)),
		"empty message":                 topicOf(3, []string{""}),
		"empty first message":           topicOf(3, []string{"", "x", "y"}),
		"empty last message":            topicOf(3, []string{"x", "y", ""}),
		"message of 41 bytes":           topicOf(3, []string{repeated(41)}),
		"second message of 41 bytes":    topicOf(3, []string{"x", repeated(41), "y"}),
		"message of 40 runes":           topicOf(3, []string{strings.Repeat("é", 40)}),
		"message over MaxBytes":         topicOf(3, []string{repeated(impl.MaxBytes + 1)}),
		"MaxGroups and one more":        topicOf(3, messages(2), groupsAt(impl.MaxGroups+1, 4)...),
		"more groups than MaxList":      topicOf(3, nil, slices.Repeat(groupsAt(1, 3), impl.MaxList+1)...),
		"groups out of order":           topicOf(3, nil, group("b", 3), group("a", 3)),
		"last groups out of order":      topicOf(3, nil, group("a", 3), group("c", 3), group("b", 3)),
		"a prefix last":                 topicOf(3, nil, group("aa", 3), group("a", 3)),
		"a group twice":                 topicOf(3, nil, group("a", 3), group("a", 3)),
		"a group twice, not alike":      topicOf(3, messages(2), group("a", 3), group("a", 4)),
		"the last group twice":          topicOf(3, nil, group("a", 3), group("b", 3), group("b", 3)),
		"a group without a name":        topicOf(3, nil, impl.Group{Acked: 3}),
		"Acked below Base":              topicOf(3, messages(2), group("b", 2)),
		"Acked above the end":           topicOf(3, messages(2), group("b", 6)),
		"Acked above an empty one":      topicOf(3, nil, group("b", 4)),
		"Acked below an empty one":      topicOf(3, nil, group("b", 2)),
		"Acked below 0":                 topicOf(0, messages(2), group("b", -1)),
		"Acked far below":               topicOf(3, messages(2), group("b", math.MinInt64)),
		"Acked far above":               topicOf(3, messages(2), group("b", math.MaxInt64)),
		"Acked above MaxTime":           topicOf(impl.MaxTime, nil, group("b", impl.MaxTime+1)),
		"Acked below, last of them":     topicOf(3, messages(2), group("b", 4), group("d", 5), group("f", 2)),
		"Acked above, first of them":    topicOf(3, messages(2), group("b", 6), group("d", 5), group("f", 4)),
		"Acked below, end in between":   topicOf(3, messages(2), group("b", 2), group("d", 6)),
		"Acked 0 where Base is greater": topicOf(3, messages(2), impl.Group{Name: "b"}),
	}
	for _, name := range noNames() {
		topics["name "+shown(name)] = impl.Topic{Name: name, Base: 3, Held: messages(1), Groups: groupsAt(1, 3)}
		topics["group name "+shown(name)] = topicOf(3, messages(1), group(name, 3))
	}
	topics["second group name"] = topicOf(3, messages(1), group("a", 3), group("b-", 3), group("c", 3))
	return topics
}

func TestExampleOfChapter8(t *testing.T) {
	one := impl.TopicPublish(topicOf(5, nil), "x")
	topicAnswer(t, "publishing x", one, topicOf(5, []string{"x"}), 5)
	two := impl.TopicPublish(one.Topic, "y")
	topicAnswer(t, "publishing y", two, topicOf(5, []string{"x", "y"}), 6)
	fetched := impl.TopicFetch(two.Topic, "g", 1)
	topicAnswer(t, "a new group fetches", fetched, topicOf(5, []string{"x", "y"}, group("g", 5)), 5, "x")
	acked := impl.TopicAck(fetched.Topic, "g", 6)
	topicAnswer(t, "acknowledging 6", acked, topicOf(5, []string{"x", "y"}, group("g", 6)), 0)
	topicFails(t, "acknowledging 5", impl.TopicAck(acked.Topic, "g", 5), impl.ErrRange)
	sought := impl.TopicSeek(acked.Topic, "g", 5)
	topicAnswer(t, "seeking 5", sought, topicOf(5, []string{"x", "y"}, group("g", 5)), 0)
	topicAnswer(t, "retaining one", impl.TopicRetain(sought.Topic, 1), topicOf(6, []string{"y"}, group("g", 6)), 1)
}

func TestTopicConstants(t *testing.T) {
	same(t, "MaxGroups", impl.MaxGroups, 4)
	same(t, "MaxHeld", impl.MaxHeld, 20)
}

func TestTopicRight(t *testing.T) {
	for what, topic := range goodTopics() {
		same(t, what, impl.TopicRight(topic), true)
	}
	for what, topic := range badTopics() {
		same(t, what, impl.TopicRight(topic), false)
	}
	for _, name := range goodNames() {
		topic := impl.Topic{Name: name, Base: 3, Groups: []impl.Group{group(name, 3)}}
		same(t, "name "+name, impl.TopicRight(topic), true)
	}
}

// rightTopic is the validity of chapter 8 in its own words, for names of x only.
func rightTopic(t impl.Topic) bool {
	name := func(s string) bool { return len(s) >= 1 && len(s) <= 20 && strings.Trim(s, "x") == "" }
	end := t.Base + int64(len(t.Held))
	right := name(t.Name) && t.Base >= 0 && t.Base <= 1000000000 && end <= 1000000000 && len(t.Held) <= 20 && len(t.Groups) <= 4
	for _, text := range t.Held {
		right = right && len(text) >= 1 && len(text) <= 40
	}
	for i, g := range t.Groups {
		right = right && name(g.Name) && g.Acked >= t.Base && g.Acked <= end
		right = right && (i == 0 || t.Groups[i-1].Name < g.Name)
	}
	return right
}

// Fields that are wrong together must not make up for each other.
func TestTopicsOfEdgeFields(t *testing.T) {
	bases := []int64{-20, -1, 0, 5, impl.MaxTime - 20, impl.MaxTime - 1, impl.MaxTime, impl.MaxTime + 1}
	sizes := []int{0, 1, 20, 21}
	lengths := []int{0, 1, 40, 41}
	names := []int{0, 1, 20, 21}
	right := 0
	for at := range len(bases) * len(sizes) * len(lengths) * len(names) * 6 * 6 * 2 {
		pick := func(many int) int {
			i := at % many
			at /= many
			return i
		}
		topic := impl.Topic{Name: repeated(names[pick(len(names))]), Base: bases[pick(len(bases))], Held: messages(sizes[pick(len(sizes))])}
		if length := lengths[pick(len(lengths))]; len(topic.Held) > 0 {
			topic.Held[len(topic.Held)/2] = repeated(length)
		}
		end := topic.Base + int64(len(topic.Held))
		acked := []int64{topic.Base - 1, topic.Base, end, end + 1, 0, impl.MaxTime}[pick(6)]
		first := 1 + pick(2)
		for i := range pick(6) {
			topic.Groups = append(topic.Groups, group(repeated(first+i), min(acked, end+1)))
		}
		same(t, shown(topic), impl.TopicRight(topic), rightTopic(topic))
		if rightTopic(topic) {
			right++
			same(t, "end of "+shown(topic), impl.TopicEnd(topic), end)
		} else {
			same(t, "end of "+shown(topic), impl.TopicEnd(topic), 0)
		}
	}
	same(t, "valid ones seen", right > 100, true)
}

func TestTopicEnd(t *testing.T) {
	for what, topic := range goodTopics() {
		same(t, what, impl.TopicEnd(topic), topic.Base+int64(len(topic.Held)))
	}
	for what, topic := range badTopics() {
		same(t, what, impl.TopicEnd(topic), 0)
	}
	same(t, "at MaxTime", impl.TopicEnd(topicOf(impl.MaxTime-2, messages(2))), impl.MaxTime)
}

func TestTopicLag(t *testing.T) {
	topic := topicOf(10, messages(6), group("b", 10), group("d", 13), group("f", 16))
	same(t, "at Base", impl.TopicLag(topic, "b"), 6)
	same(t, "in between", impl.TopicLag(topic, "d"), 3)
	same(t, "at the end", impl.TopicLag(topic, "f"), 0)
	for _, name := range append(noNames(), "a", "c", "e", "g", "bb", "t") {
		same(t, "of "+shown(name), impl.TopicLag(topic, name), 0)
	}
	same(t, "of a group of the longest name", impl.TopicLag(topicOf(0, messages(2), group(repeated(20), 1)), repeated(20)), 1)
	for what, topic := range goodTopics() {
		for _, g := range topic.Groups {
			same(t, what+": "+g.Name, impl.TopicLag(topic, g.Name), topic.Base+int64(len(topic.Held))-g.Acked)
		}
	}
	for what, topic := range badTopics() {
		for _, name := range append(noNames(), "a", "b", "c", "d") {
			same(t, what+": "+shown(name), impl.TopicLag(topic, name), 0)
		}
	}
}

// topicCalls are the calls with a code and valid arguments beside the topic;
// where a call has a group, it is this one.
func topicCalls(name string) map[string]func(t impl.Topic) impl.TopicOut {
	return map[string]func(t impl.Topic) impl.TopicOut{
		"publish":   func(t impl.Topic) impl.TopicOut { return impl.TopicPublish(t, "x") },
		"fetch":     func(t impl.Topic) impl.TopicOut { return impl.TopicFetch(t, name, 2) },
		"fetch all": func(t impl.Topic) impl.TopicOut { return impl.TopicFetch(t, name, impl.MaxHeld) },
		"ack":       func(t impl.Topic) impl.TopicOut { return impl.TopicAck(t, name, t.Base) },
		"ack off":   func(t impl.Topic) impl.TopicOut { return impl.TopicAck(t, name, -1) },
		"seek":      func(t impl.Topic) impl.TopicOut { return impl.TopicSeek(t, name, t.Base) },
		"seek off":  func(t impl.Topic) impl.TopicOut { return impl.TopicSeek(t, name, -1) },
		"retain":    func(t impl.Topic) impl.TopicOut { return impl.TopicRetain(t, 1) },
		"keep all":  func(t impl.Topic) impl.TopicOut { return impl.TopicRetain(t, 20) },
		"keep none": func(t impl.Topic) impl.TopicOut { return impl.TopicRetain(t, 0) },
	}
}

// groupCalls are the calls for a group that succeed wherever it has its place.
func groupCalls(name string) map[string]func(t impl.Topic) impl.TopicOut {
	return map[string]func(t impl.Topic) impl.TopicOut{
		"fetch": func(t impl.Topic) impl.TopicOut { return impl.TopicFetch(t, name, impl.MaxHeld) },
		"ack":   func(t impl.Topic) impl.TopicOut { return impl.TopicAck(t, name, impl.TopicEnd(t)) },
		"seek":  func(t impl.Topic) impl.TopicOut { return impl.TopicSeek(t, name, impl.TopicEnd(t)) },
	}
}

func TestTopicForm(t *testing.T) {
	for what, topic := range badTopics() {
		for _, name := range []string{"b", "new_one", "A", ""} {
			for call, answer := range topicCalls(name) {
				topicFails(t, what+", "+call+" for "+name, answer(topic), impl.ErrForm)
			}
		}
		topicFails(t, what+", publish nothing", impl.TopicPublish(topic, ""), impl.ErrForm)
		topicFails(t, what+", publish MaxBytes", impl.TopicPublish(topic, repeated(impl.MaxBytes)), impl.ErrForm)
		topicFails(t, what+", fetch -1", impl.TopicFetch(topic, "b", -1), impl.ErrForm)
		topicFails(t, what+", retain -1", impl.TopicRetain(topic, -1), impl.ErrForm)
	}
}

func TestTopicNoNames(t *testing.T) {
	for what, topic := range goodTopics() {
		for _, name := range noNames() {
			code := int64(impl.ErrForm)
			if len(name) > impl.MaxBytes {
				code = impl.ErrSize
			}
			for call, answer := range groupCalls(name) {
				topicFails(t, what+", "+call+" for "+shown(name), answer(topic), code)
			}
			topicFails(t, what+", ack off the range", impl.TopicAck(topic, name, -1), code)
			topicFails(t, what+", seek off the range", impl.TopicSeek(topic, name, -1), code)
			topicFails(t, what+", fetch off the range", impl.TopicFetch(topic, name, -1), code)
		}
	}
}

// The size of an argument is checked ahead of the topic and of all others.
func TestTopicSize(t *testing.T) {
	great := repeated(impl.MaxBytes + 1)
	full := topicOf(impl.MaxTime-impl.MaxHeld, messages(impl.MaxHeld), groupsAt(impl.MaxGroups, impl.MaxTime)...)
	topics := badTopics()
	topics["a plain topic"] = topicOf(3, messages(2), group("b", 4))
	topics["a full topic"] = full
	for what, topic := range topics {
		topicFails(t, what+", publish", impl.TopicPublish(topic, great), impl.ErrSize)
		for _, n := range []int64{-1, 0, 3, 20, 21, math.MaxInt64} {
			topicFails(t, what+", fetch", impl.TopicFetch(topic, great, n), impl.ErrSize)
			topicFails(t, what+", ack", impl.TopicAck(topic, great, n), impl.ErrSize)
			topicFails(t, what+", seek", impl.TopicSeek(topic, great, n), impl.ErrSize)
		}
		same(t, what+", lag", impl.TopicLag(topic, great), 0)
	}
	exact := repeated(impl.MaxBytes)
	topicFails(t, "publish of MaxBytes", impl.TopicPublish(full, exact), impl.ErrForm)
	topicFails(t, "fetch of MaxBytes", impl.TopicFetch(full, exact, 1), impl.ErrForm)
	topicFails(t, "ack of MaxBytes", impl.TopicAck(full, exact, 1), impl.ErrForm)
	topicFails(t, "seek of MaxBytes", impl.TopicSeek(full, exact, 1), impl.ErrForm)
}

// Promise 11.

func TestPublish(t *testing.T) {
	for what, topic := range goodTopics() {
		end := topic.Base + int64(len(topic.Held))
		for _, text := range []string{"x", "\x00", "two words", repeated(40), strings.Repeat("\xff", 40)} {
			got := impl.TopicPublish(topic, text)
			if len(topic.Held) == impl.MaxHeld || end == impl.MaxTime {
				topicFails(t, what, got, impl.ErrFull)
				continue
			}
			want := clonedTopic(topic)
			want.Held = append(want.Held, text)
			topicAnswer(t, what, got, want, end)
			same(t, what+": end", impl.TopicEnd(got.Topic), end+1)
		}
	}
}

func TestPublishUpToMaxTime(t *testing.T) {
	topic := topicOf(impl.MaxTime-2, nil)
	one := impl.TopicPublish(topic, "x")
	topicAnswer(t, "one", one, topicOf(impl.MaxTime-2, []string{"x"}), impl.MaxTime-2)
	two := impl.TopicPublish(one.Topic, "y")
	topicAnswer(t, "two", two, topicOf(impl.MaxTime-2, []string{"x", "y"}), impl.MaxTime-1)
	topicFails(t, "three", impl.TopicPublish(two.Topic, "z"), impl.ErrFull)
	topicFails(t, "at MaxTime", impl.TopicPublish(topicOf(impl.MaxTime, nil), "z"), impl.ErrFull)
	last := topicOf(impl.MaxTime-impl.MaxHeld, messages(impl.MaxHeld-1))
	topicAnswer(t, "the last of MaxHeld", impl.TopicPublish(last, "z"),
		topicOf(last.Base, append(messages(impl.MaxHeld-1), "z")), impl.MaxTime-1)
}

func TestPublishMaxHeld(t *testing.T) {
	topic := topicOf(5, nil, group("b", 5))
	for i, text := range messages(impl.MaxHeld) {
		got := impl.TopicPublish(topic, text)
		topicAnswer(t, fmt.Sprint("message ", i), got, topicOf(5, messages(i+1), group("b", 5)), int64(5+i))
		topic = got.Topic
	}
	topicFails(t, "one more", impl.TopicPublish(topic, "x"), impl.ErrFull)
	room := impl.TopicRetain(topic, impl.MaxHeld-1).Topic
	topicAnswer(t, "one more after one is gone", impl.TopicPublish(room, "x"),
		topicOf(6, append(messages(impl.MaxHeld)[1:], "x"), group("b", 6)), 25)
}

func TestPublishTexts(t *testing.T) {
	full := topicOf(0, messages(impl.MaxHeld))
	late := topicOf(impl.MaxTime, nil)
	for _, text := range []string{"", repeated(41), repeated(42), repeated(1000), repeated(impl.MaxBytes), strings.Repeat("é", 21)} {
		topicFails(t, "text "+shown(text), impl.TopicPublish(topicOf(5, nil), text), impl.ErrForm)
		topicFails(t, "full, text "+shown(text), impl.TopicPublish(full, text), impl.ErrForm)
		topicFails(t, "at MaxTime, text "+shown(text), impl.TopicPublish(late, text), impl.ErrForm)
	}
	for _, text := range []string{"x", repeated(40), strings.Repeat("é", 20)} {
		topicAnswer(t, "text "+shown(text), impl.TopicPublish(topicOf(5, nil), text), topicOf(5, []string{text}), 5)
		topicFails(t, "full, text "+shown(text), impl.TopicPublish(full, text), impl.ErrFull)
		topicFails(t, "at MaxTime, text "+shown(text), impl.TopicPublish(late, text), impl.ErrFull)
	}
}

// Promise 12.

func TestFetch(t *testing.T) {
	for _, count := range []int{0, 1, 2, 7, impl.MaxHeld - 1, impl.MaxHeld} {
		for _, base := range []int64{0, 5, impl.MaxTime - int64(count)} {
			held := messages(count)
			for at := range count + 1 {
				topic := topicOf(base, held, group("a", base), group("g", base+int64(at)), group("z", base+int64(count)))
				for most := range impl.MaxHeld + 1 {
					what := fmt.Sprint(count, " messages from ", base, " on, position ", at, ", most ", most)
					topicAnswer(t, what, impl.TopicFetch(topic, "g", int64(most)), topic, base+int64(at), held[at:min(count, at+most)]...)
				}
			}
		}
	}
}

func TestFetchMost(t *testing.T) {
	topics := goodTopics()
	topics["full of groups"] = topicOf(3, messages(2), groupsAt(impl.MaxGroups, 3)...)
	for what, topic := range topics {
		for _, most := range []int64{-1, -20, math.MinInt64, impl.MaxHeld + 1, impl.MaxTime, math.MaxInt64} {
			topicFails(t, fmt.Sprint(what, ", most ", most), impl.TopicFetch(topic, "b", most), impl.ErrForm)
			topicFails(t, fmt.Sprint(what, ", new, most ", most), impl.TopicFetch(topic, "new_one", most), impl.ErrForm)
		}
	}
}

func TestNewGroupFetches(t *testing.T) {
	for what, topic := range goodTopics() {
		if len(topic.Groups) == impl.MaxGroups {
			topicFails(t, what, impl.TopicFetch(topic, "new_one", impl.MaxHeld), impl.ErrFull)
			topicFails(t, what+", none", impl.TopicFetch(topic, "new_one", 0), impl.ErrFull)
			continue
		}
		want := withGroup(topic, "new_one", topic.Base)
		topicAnswer(t, what, impl.TopicFetch(topic, "new_one", impl.MaxHeld), want, topic.Base, topic.Held...)
		topicAnswer(t, what+", none", impl.TopicFetch(topic, "new_one", 0), want, topic.Base)
	}
}

// A group that is added takes its place by name, wherever that is.
func TestPlaceOfNewGroup(t *testing.T) {
	for count := range impl.MaxGroups + 1 {
		topic := topicOf(9, messages(3), groupsAt(count, 10)...)
		for _, name := range []string{"a", "a_", "b0", "bb", "c", "cz", "d_", "e", "f0", "g", "h0", "i", "zz", repeated(20)} {
			what := fmt.Sprint(name, " beside ", count, " groups")
			if count == impl.MaxGroups {
				for call, answer := range groupCalls(name) {
					topicFails(t, call+" "+what, answer(topic), impl.ErrFull)
				}
				continue
			}
			topicAnswer(t, "fetch "+what, impl.TopicFetch(topic, name, 2), withGroup(topic, name, 9), 9, topic.Held[:2]...)
			topicAnswer(t, "ack "+what, impl.TopicAck(topic, name, 11), withGroup(topic, name, 11), 0)
			topicAnswer(t, "seek "+what, impl.TopicSeek(topic, name, 11), withGroup(topic, name, 11), 0)
		}
		for _, g := range topic.Groups {
			what := fmt.Sprint(g.Name, " among ", count, " groups")
			topicAnswer(t, "fetch "+what, impl.TopicFetch(topic, g.Name, 1), topic, 10, topic.Held[1])
			topicAnswer(t, "ack "+what, impl.TopicAck(topic, g.Name, 12), withGroup(topic, g.Name, 12), 0)
			topicAnswer(t, "seek "+what, impl.TopicSeek(topic, g.Name, 9), withGroup(topic, g.Name, 9), 0)
		}
	}
}

// Where there are MaxGroups, a new group has no position that could be checked.
func TestFullOfGroupsAheadOfRange(t *testing.T) {
	topic := topicOf(9, messages(3), groupsAt(impl.MaxGroups, 10)...)
	for _, n := range []int64{math.MinInt64, -1, 8, 9, 12, 13, math.MaxInt64} {
		for _, name := range []string{"a", "c", "zz"} {
			topicFails(t, fmt.Sprint("ack ", n), impl.TopicAck(topic, name, n), impl.ErrFull)
			topicFails(t, fmt.Sprint("seek ", n), impl.TopicSeek(topic, name, n), impl.ErrFull)
		}
		for _, name := range []string{"", "A", "_b"} {
			topicFails(t, fmt.Sprint("ack ", n), impl.TopicAck(topic, name, n), impl.ErrForm)
			topicFails(t, fmt.Sprint("seek ", n), impl.TopicSeek(topic, name, n), impl.ErrForm)
		}
	}
}

// Promise 13.

// moves requires that a move to each number around a topic goes where the
// numbers from least to the end are allowed, and fails elsewhere.
func moves(t *testing.T, what string, topic impl.Topic, name string, least int64, move func(t impl.Topic, group string, n int64) impl.TopicOut) {
	t.Helper()
	end := topic.Base + int64(len(topic.Held))
	numbers := []int64{math.MinInt64, -impl.MaxTime, -1, 0, impl.MaxTime, impl.MaxTime + 1, math.MaxInt64}
	for n := topic.Base - 2; n <= end+2; n++ {
		numbers = append(numbers, n)
	}
	for _, n := range numbers {
		got := move(topic, name, n)
		if n < least || n > end {
			topicFails(t, fmt.Sprint(what, " ", n), got, impl.ErrRange)
			continue
		}
		topicAnswer(t, fmt.Sprint(what, " ", n), got, withGroup(topic, name, n), 0)
		topicAnswer(t, fmt.Sprint(what, " ", n, ", then fetch"), impl.TopicFetch(got.Topic, name, impl.MaxHeld), got.Topic, n, topic.Held[n-topic.Base:]...)
		same(t, fmt.Sprint(what, " ", n, ", lag"), impl.TopicLag(got.Topic, name), end-n)
	}
}

func TestAckAndSeek(t *testing.T) {
	for _, count := range []int{0, 1, 2, 7, impl.MaxHeld} {
		for _, base := range []int64{0, 1, 50, impl.MaxTime - int64(count)} {
			end := base + int64(count)
			for acked := base; acked <= end; acked++ {
				topic := topicOf(base, messages(count), group("a", end), group("g", acked), group("z", base))
				what := fmt.Sprint(count, " messages from ", base, " on, acked ", acked)
				moves(t, what+", ack", topic, "g", acked, impl.TopicAck)
				moves(t, what+", seek", topic, "g", base, impl.TopicSeek)
			}
			topic := topicOf(base, messages(count), group("a", end), group("z", end))
			moves(t, fmt.Sprint(count, " messages from ", base, " on, new, ack"), topic, "g", base, impl.TopicAck)
			moves(t, fmt.Sprint(count, " messages from ", base, " on, new, seek"), topic, "g", base, impl.TopicSeek)
		}
	}
}

// positionOf is the position of a group, and -1 if it is not there.
func positionOf(t impl.Topic, name string) int64 {
	for _, g := range t.Groups {
		if g.Name == name {
			return g.Acked
		}
	}
	return -1
}

func TestPositionDecreasesOnlyBySeeking(t *testing.T) {
	r := dice()
	decreased := 0
	for range 200 {
		topic := randomTopic(r)
		for range 40 {
			name, n := randomGroup(r), topic.Base+r.Int63n(24)-2
			// Publishing is so frequent that there is room to move in.
			kind := []int{0, 0, 0, 0, 0, 1, 2, 2, 3, 4, 4, 4}[r.Intn(12)]
			got := []func() impl.TopicOut{
				func() impl.TopicOut { return impl.TopicPublish(topic, "x") },
				func() impl.TopicOut { return impl.TopicFetch(topic, name, r.Int63n(21)) },
				func() impl.TopicOut { return impl.TopicAck(topic, name, n) },
				func() impl.TopicOut { return impl.TopicRetain(topic, r.Int63n(21)) },
				func() impl.TopicOut { return impl.TopicSeek(topic, name, n) },
			}[kind]()
			if got.Code != impl.OK {
				continue
			}
			for _, g := range topic.Groups {
				if now := positionOf(got.Topic, g.Name); now < g.Acked {
					decreased++
					same(t, "kind of operation that decreased a position", kind, 4)
					same(t, "group that was moved", g.Name, name)
					same(t, "where it was moved", now, n)
				}
			}
			topic = got.Topic
		}
	}
	same(t, "decreases seen", decreased > 100, true)
}

// Promise 14.

// afterRetain is what is left of a topic, one message after the other.
func afterRetain(t impl.Topic, keep int) (impl.Topic, int64) {
	t = clonedTopic(t)
	gone := int64(0)
	for len(t.Held) > keep {
		t.Held = t.Held[1:]
		for i := range t.Groups {
			if t.Groups[i].Acked == t.Base {
				t.Groups[i].Acked++
			}
		}
		t.Base++
		gone++
	}
	return t, gone
}

func TestRetain(t *testing.T) {
	topics := goodTopics()
	for count := range impl.MaxHeld + 1 {
		for _, base := range []int64{0, 5, impl.MaxTime - int64(count)} {
			end := base + int64(count)
			topics[fmt.Sprint(count, " from ", base, " on")] = topicOf(base, messages(count),
				group("a", base), group("b", base+int64(count)/3), group("c", base+int64(count)/2), group("d", end))
		}
	}
	for what, topic := range topics {
		for keep := range 21 {
			want, gone := afterRetain(topic, keep)
			got := impl.TopicRetain(topic, int64(keep))
			topicAnswer(t, fmt.Sprint(what, ", keep ", keep), got, want, gone)
			same(t, what+": end", impl.TopicEnd(got.Topic), impl.TopicEnd(topic))
			topicAnswer(t, what+", again", impl.TopicRetain(got.Topic, int64(keep)), want, 0)
			for i, text := range want.Held {
				n := want.Base + int64(i)
				same(t, what+": message under its number", text, topic.Held[n-topic.Base])
			}
		}
	}
}

func TestRetainOutside(t *testing.T) {
	for what, topic := range goodTopics() {
		for _, keep := range []int64{-1, -20, math.MinInt64, 21, 22, impl.MaxTime, math.MaxInt64} {
			topicFails(t, fmt.Sprint(what, ", keep ", keep), impl.TopicRetain(topic, keep), impl.ErrForm)
		}
	}
}

func randomGroup(r *rand.Rand) string {
	return []string{"a", "b", "bb", "c", "d_1", "e"}[r.Intn(6)]
}

func randomTopic(r *rand.Rand) impl.Topic {
	topic := topicOf(r.Int63n(30), nil)
	if r.Intn(5) == 0 {
		topic.Base = impl.MaxTime - r.Int63n(30)
	}
	room := min(impl.MaxHeld, impl.MaxTime-topic.Base)
	for range r.Int63n(room + 1) {
		topic.Held = append(topic.Held, randomText(r, 1+r.Intn(40)))
	}
	for range r.Intn(impl.MaxGroups + 1) {
		topic = withGroup(topic, randomGroup(r), topic.Base+r.Int63n(int64(len(topic.Held))+1))
	}
	return topic
}

// modelTopic is a topic that is as simple as can be: all messages by number,
// also those that are gone, and the positions by group.
type modelTopic struct {
	texts  map[int64]string
	groups map[string]int64
	base   int64
	end    int64
}

func modelOf(t impl.Topic) *modelTopic {
	m := &modelTopic{texts: map[int64]string{}, groups: map[string]int64{}, base: t.Base, end: t.Base}
	for _, text := range t.Held {
		m.texts[m.end] = text
		m.end++
	}
	for _, g := range t.Groups {
		m.groups[g.Name] = g.Acked
	}
	return m
}

func (m *modelTopic) topic() impl.Topic {
	t := topicOf(m.base, m.between(m.base, m.end))
	for name, acked := range m.groups {
		t = withGroup(t, name, acked)
	}
	return t
}

func (m *modelTopic) between(from int64, to int64) []string {
	var out []string
	for n := from; n < to; n++ {
		out = append(out, m.texts[n])
	}
	return out
}

// position also tells whether the group has or can have one.
func (m *modelTopic) position(name string) (int64, bool) {
	acked, there := m.groups[name]
	if !there {
		return m.base, len(m.groups) < impl.MaxGroups
	}
	return acked, true
}

// move returns the code of a move to n where least is the least number.
func (m *modelTopic) move(name string, n int64, least int64, room bool) impl.TopicOut {
	if !room {
		return impl.TopicOut{Code: impl.ErrFull}
	}
	if n < least || n > m.end {
		return impl.TopicOut{Code: impl.ErrRange}
	}
	m.groups[name] = n
	return impl.TopicOut{}
}

// step makes one random change to both; the second answer, without its topic,
// is that of the model.
func (m *modelTopic) step(r *rand.Rand, t impl.Topic) (impl.TopicOut, impl.TopicOut) {
	name, n, most := randomGroup(r), m.base+r.Int63n(26)-3, r.Int63n(impl.MaxHeld+1)
	acked, room := m.position(name)
	switch kind := r.Intn(12); kind {
	case 0, 1:
		if !room {
			return impl.TopicFetch(t, name, most), impl.TopicOut{Code: impl.ErrFull}
		}
		m.groups[name] = acked
		return impl.TopicFetch(t, name, most), impl.TopicOut{N: acked, Texts: m.between(acked, min(m.end, acked+most))}
	case 2, 3:
		return impl.TopicAck(t, name, n), m.move(name, n, acked, room)
	case 4, 5:
		return impl.TopicSeek(t, name, n), m.move(name, n, m.base, room)
	case 6:
		gone := max(0, m.end-m.base-most)
		m.base += gone
		for other, at := range m.groups {
			m.groups[other] = max(at, m.base)
		}
		return impl.TopicRetain(t, most), impl.TopicOut{N: gone}
	}
	text := randomText(r, 1+r.Intn(40))
	if m.end-m.base == impl.MaxHeld || m.end == impl.MaxTime {
		return impl.TopicPublish(t, text), impl.TopicOut{Code: impl.ErrFull}
	}
	m.texts[m.end] = text
	m.end++
	return impl.TopicPublish(t, text), impl.TopicOut{N: m.end - 1}
}

// All of the promises 11 to 14: whatever is done, the messages that are there
// are those of the model under the same numbers.
func TestTopicLikeModel(t *testing.T) {
	r := dice()
	seen := map[int64]int{}
	for range 150 {
		topic := randomTopic(r)
		m := modelOf(topic)
		for range 100 {
			got, want := m.step(r, topic)
			seen[want.Code]++
			if want.Code != impl.OK {
				topicFails(t, "beside an error", got, want.Code)
				continue
			}
			topicAnswer(t, "topic", got, m.topic(), want.N, want.Texts...)
			topic = got.Topic
			same(t, "end", impl.TopicEnd(topic), m.end)
			for name, acked := range m.groups {
				same(t, "lag of "+name, impl.TopicLag(topic, name), m.end-acked)
			}
		}
	}
	for _, code := range []int64{impl.OK, impl.ErrRange, impl.ErrFull} {
		same(t, fmt.Sprint("code ", code, " seen"), seen[code] > 100, true)
	}
}

// A message is found under the number that publishing it returned.
func TestPublishedIsFetchedByNumber(t *testing.T) {
	r := dice()
	for range 300 {
		topic := randomTopic(r)
		end := impl.TopicEnd(topic)
		text := randomText(r, 1+r.Intn(40))
		got := impl.TopicPublish(topic, text)
		if got.Code != impl.OK || len(topic.Groups) == impl.MaxGroups {
			continue
		}
		same(t, "number", got.N, end)
		sought := impl.TopicSeek(got.Topic, "reader", got.N)
		fetched := impl.TopicFetch(sought.Topic, "reader", impl.MaxHeld)
		topicAnswer(t, "fetched by number", fetched, sought.Topic, got.N, text)
		kept := impl.TopicRetain(sought.Topic, 1)
		topicAnswer(t, "fetched after the others are gone", impl.TopicFetch(kept.Topic, "reader", 1), kept.Topic, got.N, text)
	}
}

func topicStrings(t impl.Topic) []string {
	out := append([]string{t.Name}, t.Held...)
	for _, g := range t.Groups {
		out = append(out, g.Name)
	}
	return out
}

// roomyTopic is a copy with room behind its lists, which is what an append to
// an argument would use.
func roomyTopic(t impl.Topic) impl.Topic {
	t = clonedTopic(t)
	t.Held = append(make([]string, 0, len(t.Held)+3), t.Held...)
	t.Groups = append(make([]impl.Group, 0, len(t.Groups)+3), t.Groups...)
	return t
}

// spoilTopic overwrites the lists, also the room behind them.
func spoilTopic(t impl.Topic) {
	held, groups := t.Held[:cap(t.Held)], t.Groups[:cap(t.Groups)]
	for i := range held {
		held[i] = "spoiled"
	}
	for i := range groups {
		groups[i] = group("spoiled", 7)
	}
}

func TestTopicSharesNothing(t *testing.T) {
	given := topicOf(3, messages(5), group("b", 3), group("d", 5))
	given.Name = "a_topic"
	for _, name := range []string{"b", "d", "a_new_one", "c", "new_one"} {
		for what, call := range topicCalls(name) {
			what += " for " + name
			topic := roomyTopic(given)
			got := call(topic)
			before := clonedTopic(got.Topic)
			texts := slices.Clone(got.Texts)
			topicIs(t, what+": argument", topic, given)
			same(t, what+": room behind the messages", topic.Held[:6][5], "")
			same(t, what+": room behind the groups", topic.Groups[:3][2], impl.Group{})
			answer := append(topicStrings(got.Topic), got.Texts...)
			sharesNone(t, what, answer, topicStrings(topic))
			for i := range answer {
				sharesNone(t, what+": strings of the answer", answer[:i], answer[i:])
			}
			spoilTopic(topic)
			topicIs(t, what+": answer after the argument is spoiled", got.Topic, before)
			spoilTopic(got.Topic)
			namesIs(t, what+": Texts after the topic is spoiled", got.Texts, texts...)
			topic = roomyTopic(given)
			got = call(topic)
			spoilTopic(got.Topic)
			for i := range got.Texts[:cap(got.Texts)] {
				got.Texts[:cap(got.Texts)][i] = "spoiled"
			}
			topicIs(t, what+": argument after the answer is spoiled", topic, given)
		}
	}
}

func TestTopicSharesNoString(t *testing.T) {
	text, name := strings.Clone("some text"), strings.Clone("new_one")
	topic := topicOf(3, messages(2))
	sharesNone(t, "publish", topicStrings(impl.TopicPublish(topic, text).Topic), []string{text})
	for what, call := range groupCalls(name) {
		sharesNone(t, what, topicStrings(call(topic).Topic), []string{name})
	}
	same(t, "text", text, "some text")
	same(t, "name", name, "new_one")
}

func TestTopicLeavesArguments(t *testing.T) {
	topics := badTopics()
	for what, topic := range goodTopics() {
		topics[what] = topic
	}
	for what, topic := range topics {
		before := clonedTopic(topic)
		for _, name := range []string{"a", "b", "d", "new_one", "A"} {
			for _, call := range topicCalls(name) {
				first := call(topic)
				topicIs(t, what, topic, before)
				again := call(topic)
				topicIs(t, what+", again", again.Topic, first.Topic)
				same(t, what+", again: N and code", [2]int64{again.N, again.Code}, [2]int64{first.N, first.Code})
				namesIs(t, what+", again: Texts", again.Texts, first.Texts...)
			}
			impl.TopicLag(topic, name)
		}
		impl.TopicRight(topic)
		impl.TopicEnd(topic)
		topicIs(t, what, topic, before)
	}
}
