package tests

import (
	"encoding/binary"
	"fmt"
	"math"
	"math/rand"
	"slices"
	"sort"
	"strings"
	"testing"

	"loop.example/g00386/impl"
)

// brokerOf returns a broker with these in this order, also an invalid one.
func brokerOf(topics []impl.Topic, replies ...impl.Reply) impl.Broker {
	return impl.Broker{Topics: topics, Replies: replies}
}

func called(name string, t impl.Topic) impl.Topic {
	t.Name = name
	return t
}

// topicsCalled returns a topic of each name, all alike and not empty.
func topicsCalled(names ...string) []impl.Topic {
	var out []impl.Topic
	for _, name := range names {
		out = append(out, called(name, topicOf(3, messages(2), group("b", 4))))
	}
	return out
}

func reply(client int64, number int64, text string) impl.Reply {
	return impl.Reply{Client: client, Number: number, Text: text}
}

func repliesTo(clients ...int64) []impl.Reply {
	var out []impl.Reply
	for _, client := range clients {
		out = append(out, reply(client, 100+client, fmt.Sprint("ok ", client)))
	}
	return out
}

func allClients() []int64 {
	return []int64{1, 2, 3, 4, 5, 6, 7, 8, 9}
}

func clonedBroker(b impl.Broker) impl.Broker {
	var out impl.Broker
	for _, topic := range b.Topics {
		out.Topics = append(out.Topics, clonedTopic(topic))
	}
	for _, r := range b.Replies {
		out.Replies = append(out.Replies, reply(r.Client, r.Number, strings.Clone(r.Text)))
	}
	return out
}

// withTopic returns a copy of the topics in which this one is added or stands
// for the one of its name.
func withTopic(topics []impl.Topic, topic impl.Topic) []impl.Topic {
	out := append(withoutTopic(topics, topic.Name), topic)
	sort.Slice(out, func(i, j int) bool { return out[i].Name < out[j].Name })
	return out
}

func withoutTopic(topics []impl.Topic, name string) []impl.Topic {
	var out []impl.Topic
	for _, topic := range topics {
		if topic.Name != name {
			out = append(out, clonedTopic(topic))
		}
	}
	return out
}

// withReply does for replies what withTopic does for topics.
func withReply(replies []impl.Reply, r impl.Reply) []impl.Reply {
	out := []impl.Reply{r}
	for _, other := range replies {
		if other.Client != r.Client {
			out = append(out, other)
		}
	}
	sort.Slice(out, func(i, j int) bool { return out[i].Client < out[j].Client })
	return out
}

// brokerIs takes an empty list and nil for the same.
func brokerIs(t *testing.T, what string, got impl.Broker, want impl.Broker) {
	t.Helper()
	if !slices.EqualFunc(got.Topics, want.Topics, sameTopic) || !slices.Equal(got.Replies, want.Replies) {
		t.Errorf("%s: got %s, want %s", what, shown(got), shown(want))
	}
}

// brokerAnswer requires the broker, the code OK and the text.
func brokerAnswer(t *testing.T, what string, got impl.BrokerOut, want impl.Broker, text string) {
	t.Helper()
	same(t, what+": code", got.Code, impl.OK)
	same(t, what+": Text", got.Text, text)
	brokerIs(t, what, got.Broker, want)
	same(t, what+": valid", impl.BrokerRight(got.Broker), true)
}

// brokerFails requires the code and nothing beside it.
func brokerFails(t *testing.T, what string, got impl.BrokerOut, code int64) {
	t.Helper()
	same(t, what+": code", got.Code, code)
	same(t, what+": Text", got.Text, "")
	brokerIs(t, what, got.Broker, impl.Broker{})
}

// The commands of client 3 with the number 7.

func order(kind int64, topic string) impl.Command {
	return impl.Command{Client: 3, Number: 7, Kind: kind, Topic: topic}
}

func toCreate(topic string) impl.Command { return order(impl.CmCreate, topic) }
func toDelete(topic string) impl.Command { return order(impl.CmDelete, topic) }

func toPublish(topic string, text string) impl.Command {
	c := order(impl.CmPublish, topic)
	c.Text = text
	return c
}

func groupOrder(kind int64, topic string, name string, n int64) impl.Command {
	c := order(kind, topic)
	c.Group, c.N = name, n
	return c
}

func toFetch(topic string, name string, n int64) impl.Command {
	return groupOrder(impl.CmFetch, topic, name, n)
}

func toAck(topic string, name string, n int64) impl.Command {
	return groupOrder(impl.CmAck, topic, name, n)
}

func toSeek(topic string, name string, n int64) impl.Command {
	return groupOrder(impl.CmSeek, topic, name, n)
}

func toRetain(topic string, n int64) impl.Command {
	c := order(impl.CmRetain, topic)
	c.N = n
	return c
}

// allOrders returns valid commands of every kind for a topic.
func allOrders(topic string) []impl.Command {
	return []impl.Command{toCreate(topic), toDelete(topic), toPublish(topic, "x"), toPublish(topic, repeated(40)),
		toFetch(topic, "b", 2), toFetch(topic, "new_one", impl.MaxTime), toAck(topic, "b", 4), toAck(topic, "b", 0),
		toSeek(topic, "new_one", 3), toSeek(topic, "b", impl.MaxTime), toRetain(topic, 0), toRetain(topic, 20)}
}

func from(client int64, number int64, c impl.Command) impl.Command {
	c.Client, c.Number = client, number
	return c
}

// does requires that a command changes the topics to these and has this result,
// and that whatever has its number is then only a repetition.
func does(t *testing.T, what string, b impl.Broker, c impl.Command, topics []impl.Topic, text string) impl.Broker {
	t.Helper()
	want := brokerOf(topics, withReply(b.Replies, reply(c.Client, c.Number, text))...)
	got := impl.BrokerDo(b, c)
	brokerAnswer(t, what, got, want, text)
	same(t, what+": reply", impl.BrokerReply(got.Broker, c.Client), reply(c.Client, c.Number, text))
	brokerAnswer(t, what+", again", impl.BrokerDo(got.Broker, c), want, text)
	for _, other := range allOrders("t") {
		brokerAnswer(t, what+", another with its number", impl.BrokerDo(got.Broker, from(c.Client, c.Number, other)), want, text)
		if c.Number > 1 {
			brokerFails(t, what+", another with a smaller one", impl.BrokerDo(got.Broker, from(c.Client, c.Number-1, other)), impl.ErrThere)
		}
	}
	return got.Broker
}

// goodBrokers are valid ones; none but the one that says so has many bytes.
func goodBrokers() map[string]impl.Broker {
	brokers := map[string]impl.Broker{
		"nothing":                {},
		"empty lists":            {Topics: []impl.Topic{}, Replies: []impl.Reply{}},
		"one topic":              brokerOf(topicsCalled("t")),
		"MaxTopics":              brokerOf(topicsCalled("a", "b", "c", "d")),
		"a prefix first":         brokerOf(topicsCalled("a", "a0", "a_", "aa")),
		"topics alike":           brokerOf(topicsCalled("t", "u"), repliesTo(4)...),
		"Client 1":               brokerOf(nil, reply(1, 5, "ok")),
		"Client 9":               brokerOf(nil, reply(9, 5, "ok")),
		"Clients 1 and 9":        brokerOf(nil, repliesTo(1, 9)...),
		"Number 1":               brokerOf(nil, reply(5, 1, "ok")),
		"Number MaxTime":         brokerOf(nil, reply(5, impl.MaxTime, "ok")),
		"numbers out of order":   brokerOf(nil, reply(1, 9, "ok"), reply(2, 1, "ok"), reply(3, 9, "ok")),
		"empty Text":             brokerOf(nil, reply(5, 6, "")),
		"Text of 900 bytes":      brokerOf(nil, reply(5, 6, repeated(900))),
		"Text of 899 bytes":      brokerOf(nil, reply(5, 6, repeated(899))),
		"Text of any bytes":      brokerOf(nil, reply(5, 6, "\x00\xff\n é")),
		"topics and replies":     brokerOf(topicsCalled("a", "t", "z"), repliesTo(1, 3, 8)...),
		"all that there can be":  greatBroker(),
		"a topic and no replies": brokerOf([]impl.Topic{topicOf(0, nil)}),
	}
	for _, name := range goodNames() {
		brokers["name "+name] = brokerOf(topicsCalled(name), repliesTo(2)...)
	}
	for count := range 10 {
		brokers[fmt.Sprint(count, " replies")] = brokerOf(nil, repliesTo(allClients()[:count]...)...)
	}
	for what, topic := range goodTopics() {
		brokers["topic: "+what] = brokerOf([]impl.Topic{topic})
		brokers["topic among others: "+what] = brokerOf(append(append(topicsCalled("a"), topic), topicsCalled("u")...), repliesTo(3, 4)...)
	}
	return brokers
}

// greatBroker has the longest encoding.
func greatBroker() impl.Broker {
	var b impl.Broker
	for i := range impl.MaxTopics {
		name := string(rune('a' + i))
		topic := impl.Topic{Name: name + repeated(19), Base: impl.MaxTime - impl.MaxHeld}
		topic.Held = slices.Repeat([]string{repeated(40)}, impl.MaxHeld)
		for j := range impl.MaxGroups {
			topic.Groups = append(topic.Groups, group(string(rune('a'+j))+repeated(19), impl.MaxTime))
		}
		b.Topics = append(b.Topics, topic)
	}
	for _, client := range allClients() {
		b.Replies = append(b.Replies, reply(client, impl.MaxTime, repeated(900)))
	}
	return b
}

func badBrokers() map[string]impl.Broker {
	brokers := map[string]impl.Broker{
		"MaxTopics and one more":      brokerOf(topicsCalled("a", "b", "c", "d", "e")),
		"more topics than MaxList":    brokerOf(slices.Repeat(topicsCalled("a"), impl.MaxList+1)),
		"topics out of order":         brokerOf(topicsCalled("b", "a")),
		"last topics out of order":    brokerOf(topicsCalled("a", "b", "d", "c")),
		"a prefix last":               brokerOf(topicsCalled("aa", "a")),
		"a topic twice":               brokerOf(topicsCalled("a", "a")),
		"the last topic twice":        brokerOf(topicsCalled("a", "b", "c", "c")),
		"a topic twice, not alike":    brokerOf([]impl.Topic{topicOf(3, nil), topicOf(4, nil)}),
		"9 replies and one more":      brokerOf(nil, repliesTo(1, 2, 3, 4, 5, 6, 7, 8, 9, 10)...),
		"one more, client 0":          brokerOf(nil, repliesTo(0, 1, 2, 3, 4, 5, 6, 7, 8, 9)...),
		"one more, client twice":      brokerOf(nil, repliesTo(1, 2, 3, 4, 5, 6, 7, 8, 9, 9)...),
		"more replies than MaxList":   brokerOf(nil, slices.Repeat(repliesTo(1), impl.MaxList+1)...),
		"replies out of order":        brokerOf(nil, repliesTo(2, 1)...),
		"last replies out of order":   brokerOf(nil, repliesTo(1, 2, 4, 3)...),
		"a client twice":              brokerOf(nil, repliesTo(4, 4)...),
		"a client twice, not alike":   brokerOf(nil, reply(4, 1, "ok"), reply(4, 2, "ok 1")),
		"the last client twice":       brokerOf(nil, repliesTo(1, 4, 4)...),
		"Text of 901 bytes":           brokerOf(nil, reply(5, 6, repeated(901))),
		"Text of 900 runes":           brokerOf(nil, reply(5, 6, strings.Repeat("é", 900))),
		"Text over MaxBytes":          brokerOf(nil, reply(5, 6, repeated(impl.MaxBytes+1))),
		"second Text of 901 bytes":    brokerOf(nil, reply(5, 6, "ok"), reply(6, 6, repeated(901)), reply(7, 6, "ok")),
		"zero reply":                  brokerOf(topicsCalled("t"), impl.Reply{}),
		"topics and replies twice":    brokerOf(topicsCalled("t", "t"), repliesTo(4, 4)...),
		"right topics, wrong replies": brokerOf(topicsCalled("t"), repliesTo(4, 3)...),
		"wrong topics, right replies": brokerOf(topicsCalled("t", "a"), repliesTo(3, 4)...),
	}
	for _, client := range []int64{0, 10, 11, 64, 257, 1<<32 + 1, math.MaxInt64, -1, -9, math.MinInt64} {
		brokers[fmt.Sprint("Client ", client)] = brokerOf(topicsCalled("t"), reply(client, 5, "ok"))
	}
	brokers["last Client 10"] = brokerOf(nil, repliesTo(1, 2, 10)...)
	brokers["first Client 0"] = brokerOf(nil, repliesTo(0, 2, 9)...)
	for _, number := range []int64{0, impl.MaxTime + 1, 1<<32 + 1, math.MaxInt64, -1, -impl.MaxTime, math.MinInt64} {
		brokers[fmt.Sprint("Number ", number)] = brokerOf(topicsCalled("t"), reply(3, number, "ok"))
		brokers[fmt.Sprint("second Number ", number)] = brokerOf(nil, reply(3, 1, "ok"), reply(4, number, "ok"), reply(5, 1, "ok"))
	}
	for what, topic := range badTopics() {
		brokers["topic: "+what] = brokerOf([]impl.Topic{topic})
		brokers["topic among others: "+what] = brokerOf(append(append(topicsCalled("a"), topic), topicsCalled("u")...), repliesTo(3, 4)...)
	}
	return brokers
}

func TestExampleOfChapter9(t *testing.T) {
	numbered := func(number int64, c impl.Command) impl.Command { return from(1, number, c) }
	got := impl.BrokerDo(impl.Broker{}, numbered(1, toPublish("t", "x")))
	brokerAnswer(t, "publishing to a missing topic", got, brokerOf(nil, reply(1, 1, "error 6")), "error 6")
	got = impl.BrokerDo(got.Broker, numbered(2, toCreate("t")))
	brokerAnswer(t, "creating", got, brokerOf([]impl.Topic{topicOf(0, nil)}, reply(1, 2, "ok")), "ok")
	got = impl.BrokerDo(got.Broker, numbered(3, toPublish("t", "x")))
	brokerAnswer(t, "publishing", got, brokerOf([]impl.Topic{topicOf(0, []string{"x"})}, reply(1, 3, "ok 0")), "ok 0")
	got = impl.BrokerDo(got.Broker, numbered(4, toFetch("t", "g", 5)))
	want := brokerOf([]impl.Topic{topicOf(0, []string{"x"}, group("g", 0))}, reply(1, 4, "ok 0 x"))
	brokerAnswer(t, "fetching", got, want, "ok 0 x")
	brokerAnswer(t, "the same number", impl.BrokerDo(got.Broker, numbered(4, toCreate("u"))), want, "ok 0 x")
	brokerFails(t, "a smaller number", impl.BrokerDo(got.Broker, numbered(3, toPublish("t", "x"))), impl.ErrThere)
}

func TestBrokerConstants(t *testing.T) {
	same(t, "MaxTopics", impl.MaxTopics, 4)
}

func TestBrokerRight(t *testing.T) {
	for what, b := range goodBrokers() {
		same(t, what, impl.BrokerRight(b), true)
	}
	for what, b := range badBrokers() {
		same(t, what, impl.BrokerRight(b), false)
	}
}

// rightBrokerWords is the validity of chapter 9 in its own words.
func rightBrokerWords(b impl.Broker) bool {
	right := len(b.Topics) <= 4 && len(b.Replies) <= 9
	for i, topic := range b.Topics {
		right = right && rightTopic(topic) && (i == 0 || b.Topics[i-1].Name < topic.Name)
	}
	for i, r := range b.Replies {
		right = right && r.Client >= 1 && r.Client <= 9 && r.Number >= 1 && r.Number <= 1000000000 && len(r.Text) <= 900
		right = right && (i == 0 || b.Replies[i-1].Client < r.Client)
	}
	return right
}

// Fields that are wrong together must not make up for each other.
func TestBrokersOfEdgeFields(t *testing.T) {
	sizes := []int{0, 1, 3, 4, 5}
	many := []int{0, 1, 8, 9, 10}
	numbers := []int64{0, 1, impl.MaxTime, impl.MaxTime + 1}
	lengths := []int{0, 900, 901}
	right, wrong := 0, 0
	for at := range len(sizes) * 3 * 2 * len(many) * 3 * 2 * len(numbers) * len(lengths) {
		pick := func(many int) int {
			i := at % many
			at /= many
			return i
		}
		var b impl.Broker
		first, twice := pick(3), pick(2)
		for i := range sizes[pick(len(sizes))] {
			// Names of 1 to 21 bytes, of which the last two may be the same.
			b.Topics = append(b.Topics, called(repeated(first*8+i-twice*(i/3)), topicOf(3, messages(1))))
		}
		client, again := int64(pick(3)), int64(pick(2))
		for i := range int64(many[pick(len(many))]) {
			b.Replies = append(b.Replies, reply(client+i-again*(i/7), 5, "ok"))
		}
		number, length := numbers[pick(len(numbers))], lengths[pick(len(lengths))]
		if len(b.Replies) > 0 {
			b.Replies[len(b.Replies)/2].Number = number
			b.Replies[len(b.Replies)-1].Text = repeated(length)
		}
		same(t, shown(b), impl.BrokerRight(b), rightBrokerWords(b))
		if rightBrokerWords(b) {
			right++
			brokerIsRight(t, shown(b), b)
		} else {
			wrong++
			brokerIsWrong(t, shown(b), b)
		}
	}
	same(t, "both outcomes seen", right > 100 && wrong > 100, true)
}

// Promise 15.

func TestDoCreate(t *testing.T) {
	b := brokerOf(topicsCalled("b", "d"), repliesTo(1, 8)...)
	for _, name := range append(goodNames(), "aa", "b0", "b_", "c", "d0", "e") {
		does(t, "beside two, "+name, b, toCreate(name), withTopic(b.Topics, impl.Topic{Name: name}), "ok")
		does(t, "alone, "+name, impl.Broker{}, toCreate(name), []impl.Topic{{Name: name}}, "ok")
	}
	for _, name := range []string{"b", "d"} {
		does(t, "that is there, "+name, b, toCreate(name), b.Topics, "error 7")
	}
}

func TestMaxTopics(t *testing.T) {
	for _, names := range [][]string{{"a", "b", "c", "d"}, {"d", "c", "b", "a"}, {"b", "d", "a", "c"}} {
		var b impl.Broker
		for i, name := range names {
			b = does(t, name+" is created", b, from(2, int64(i+1), toCreate(name)), withTopic(b.Topics, impl.Topic{Name: name}), "ok")
		}
		for _, name := range []string{"_", "0", "A"} {
			brokerFails(t, "no name "+name, impl.BrokerDo(b, toCreate(name)), impl.ErrForm)
		}
		for _, name := range []string{"a0", "bb", "e", repeated(20)} {
			does(t, "one more, "+name, b, toCreate(name), b.Topics, "error 8")
		}
		for _, name := range names {
			does(t, "one that is there, "+name, b, toCreate(name), b.Topics, "error 7")
			left := does(t, "deleting "+name, b, toDelete(name), withoutTopic(b.Topics, name), "ok")
			left = does(t, "one more, now "+name+" is gone", left, from(3, 8, toCreate("n")), withTopic(left.Topics, impl.Topic{Name: "n"}), "ok")
			does(t, "yet one more", left, from(3, 9, toCreate(name)), left.Topics, "error 8")
		}
	}
}

func TestDoDelete(t *testing.T) {
	names := []string{"a", "b", "c", "d"}
	for count := range len(names) + 1 {
		b := brokerOf(topicsCalled(names[:count]...), repliesTo(3, 4)...)
		b.Replies[0].Number = 6
		for _, name := range names[:count] {
			left := does(t, "deleting "+name, b, toDelete(name), withoutTopic(b.Topics, name), "ok")
			left = does(t, "deleting again "+name, left, from(3, 8, toDelete(name)), left.Topics, "error 6")
			does(t, "creating again "+name, left, from(3, 9, toCreate(name)), withTopic(left.Topics, impl.Topic{Name: name}), "ok")
		}
		for _, name := range []string{"a0", "bb", "e", repeated(20)} {
			does(t, "deleting none, "+name, b, toDelete(name), b.Topics, "error 6")
		}
	}
}

// Every kind but CmCreate needs the topic, whatever else is wrong.
func TestDoWithoutTopic(t *testing.T) {
	full := called("t", topicOf(impl.MaxTime-impl.MaxHeld, messages(impl.MaxHeld), groupsAt(impl.MaxGroups, impl.MaxTime)...))
	brokers := []impl.Broker{{}, brokerOf(topicsCalled("s", "u")), brokerOf([]impl.Topic{full}), brokerOf(topicsCalled("a", "b", "c", "d"), repliesTo(1, 2, 9)...)}
	for _, b := range brokers {
		for _, name := range []string{"n", "t0", "tt", "sz", "z", repeated(20)} {
			for _, c := range allOrders(name) {
				if c.Kind != impl.CmCreate {
					does(t, shown(c), b, c, b.Topics, "error 6")
				}
			}
		}
	}
}

// amongOthers calls for a topic t that stands first, last and in between.
func amongOthers(topic impl.Topic, check func(b impl.Broker)) {
	topic = called("t", topic)
	check(brokerOf([]impl.Topic{topic}))
	check(brokerOf(append([]impl.Topic{topic}, topicsCalled("u", "v")...), repliesTo(1, 2)...))
	check(brokerOf(append(topicsCalled("a", "b", "c"), topic), repliesTo(4, 9)...))
	check(brokerOf(append(append(topicsCalled("s"), topic), topicsCalled("tt")...), repliesTo(2, 5)...))
}

func TestDoPublish(t *testing.T) {
	for what, topic := range goodTopics() {
		end := topic.Base + int64(len(topic.Held))
		amongOthers(topic, func(b impl.Broker) {
			for _, text := range []string{"x", " ", "\x00\n", repeated(40)} {
				if len(topic.Held) == impl.MaxHeld || end == impl.MaxTime {
					does(t, what, b, toPublish("t", text), b.Topics, "error 9")
					continue
				}
				want := clonedTopic(topic)
				want.Held = append(want.Held, text)
				does(t, what, b, toPublish("t", text), withTopic(b.Topics, want), fmt.Sprint("ok ", end))
			}
		})
	}
}

// fetchText is the result of a fetch, put together without the program.
func fetchText(at int64, texts []string) string {
	out := fmt.Sprintf("ok %d", at)
	for _, text := range texts {
		out += " " + text
	}
	return out
}

func TestDoFetch(t *testing.T) {
	for what, topic := range goodTopics() {
		names := []string{"new_one"}
		for _, g := range topic.Groups {
			names = append(names, g.Name)
		}
		amongOthers(topic, func(b impl.Broker) {
			for _, name := range names {
				if name == "new_one" && len(topic.Groups) == impl.MaxGroups {
					does(t, what+", "+name, b, toFetch("t", name, 1), b.Topics, "error 9")
					does(t, what+", many, "+name, b, toFetch("t", name, impl.MaxHeld+1), b.Topics, "error 9")
					continue
				}
				at := topic.Base
				if name != "new_one" {
					at = positionOf(topic, name)
				}
				behind := topic.Held[at-topic.Base:]
				want := withTopic(b.Topics, withGroup(topic, name, at))
				for _, n := range []int64{0, 1, 2, impl.MaxHeld - 1, impl.MaxHeld, impl.MaxHeld + 1, 1000, impl.MaxTime} {
					text := fetchText(at, behind[:min(n, int64(len(behind)))])
					does(t, fmt.Sprint(what, ", ", name, ", N ", n), b, toFetch("t", name, n), want, text)
				}
			}
		})
	}
}

// The longest result has to fit into a reply.
func TestLongestReply(t *testing.T) {
	long := slices.Repeat([]string{repeated(40)}, impl.MaxHeld)
	topic := topicOf(impl.MaxTime-impl.MaxHeld, long)
	text := fetchText(topic.Base, long)
	want := []impl.Topic{withGroup(topic, "g", topic.Base)}
	does(t, "fetching", brokerOf([]impl.Topic{topic}), toFetch("t", "g", impl.MaxTime), want, text)
	same(t, "bytes", len(text), 12+impl.MaxHeld*41)
	same(t, "fits", len(text) <= 900, true)
}

// A message stands as it is behind its space, whatever is in it.
func TestFetchedSpaces(t *testing.T) {
	topic := topicOf(0, []string{" ", "  ", "x y", "\n"})
	want := []impl.Topic{withGroup(topic, "g", 0)}
	does(t, "fetching", brokerOf([]impl.Topic{topic}), toFetch("t", "g", 4), want, "ok 0"+"  "+"   "+" x y"+" \n")
}

// doesMove requires what an ack or a seek of a group does with each number
// around a topic; least is the least number that is allowed.
func doesMove(t *testing.T, what string, b impl.Broker, topic impl.Topic, least int64, kind int64, name string) {
	t.Helper()
	end := topic.Base + int64(len(topic.Held))
	for _, n := range []int64{0, topic.Base - 1, topic.Base, least - 1, least, least + 1, end - 1, end, end + 1, impl.MaxTime} {
		if n < 0 || n > impl.MaxTime {
			continue
		}
		c := groupOrder(kind, "t", name, n)
		if n < least || n > end {
			does(t, fmt.Sprint(what, " ", n), b, c, b.Topics, "error 8")
		} else {
			does(t, fmt.Sprint(what, " ", n), b, c, withTopic(b.Topics, withGroup(topic, name, n)), "ok")
		}
	}
}

func TestDoAckAndSeek(t *testing.T) {
	for what, topic := range goodTopics() {
		amongOthers(topic, func(b impl.Broker) {
			for _, g := range topic.Groups {
				doesMove(t, what+", ack of "+g.Name, b, topic, g.Acked, impl.CmAck, g.Name)
				doesMove(t, what+", seek of "+g.Name, b, topic, topic.Base, impl.CmSeek, g.Name)
			}
			if len(topic.Groups) < impl.MaxGroups {
				doesMove(t, what+", ack of a new one", b, topic, topic.Base, impl.CmAck, "new_one")
				doesMove(t, what+", seek of a new one", b, topic, topic.Base, impl.CmSeek, "new_one")
				return
			}
			for _, n := range []int64{0, topic.Base, impl.MaxTime} {
				does(t, what+", ack of one more", b, toAck("t", "new_one", n), b.Topics, "error 9")
				does(t, what+", seek of one more", b, toSeek("t", "new_one", n), b.Topics, "error 9")
			}
		})
	}
}

func TestDoRetain(t *testing.T) {
	for what, topic := range goodTopics() {
		amongOthers(topic, func(b impl.Broker) {
			for _, keep := range []int{0, 1, 2, 7, 19, 20} {
				want, gone := afterRetain(topic, keep)
				does(t, fmt.Sprint(what, ", keep ", keep), b, toRetain("t", int64(keep)), withTopic(b.Topics, want), fmt.Sprint("ok ", gone))
			}
		})
	}
}

// A reply takes its place by client, or that of the last one to this client.
func TestPlaceOfReply(t *testing.T) {
	lists := [][]int64{{}, {5}, {1, 9}, {2, 4, 6, 8}, {1, 3, 5, 7, 9}, {1, 2, 3, 4, 5, 6, 7, 8}, {2, 3, 4, 5, 6, 7, 8, 9}, allClients()}
	for _, clients := range lists {
		b := brokerOf(topicsCalled("t"), repliesTo(clients...)...)
		for _, client := range allClients() {
			for _, number := range []int64{101 + client, 500, impl.MaxTime} {
				does(t, fmt.Sprint(client, " beside ", clients), b, from(client, number, toDelete("t")), nil, "ok")
				does(t, fmt.Sprint(client, " beside ", clients), b, from(client, number, toDelete("none")), b.Topics, "error 6")
			}
		}
		for _, client := range []int64{0, 10, -1, math.MinInt64, math.MaxInt64} {
			brokerFails(t, fmt.Sprint("client ", client), impl.BrokerDo(b, from(client, 500, toDelete("t"))), impl.ErrForm)
		}
	}
}

// The reply that counts is that to the client itself.
func TestNumbersOfClients(t *testing.T) {
	b := brokerOf(topicsCalled("t"), reply(2, impl.MaxTime, "two"), reply(5, 1, "five"), reply(6, 10, ""), reply(8, 10, repeated(900)))
	for _, c := range allOrders("t") {
		for _, number := range []int64{1, 2, 9, impl.MaxTime - 1} {
			brokerFails(t, "smaller", impl.BrokerDo(b, from(2, number, c)), impl.ErrThere)
		}
		for _, number := range []int64{1, 9} {
			brokerFails(t, "smaller", impl.BrokerDo(b, from(6, number, c)), impl.ErrThere)
		}
		brokerAnswer(t, "MaxTime again", impl.BrokerDo(b, from(2, impl.MaxTime, c)), b, "two")
		brokerAnswer(t, "1 again", impl.BrokerDo(b, from(5, 1, c)), b, "five")
		brokerAnswer(t, "10 again, empty", impl.BrokerDo(b, from(6, 10, c)), b, "")
		brokerAnswer(t, "10 again, long", impl.BrokerDo(b, from(8, 10, c)), b, repeated(900))
	}
	for _, client := range []int64{1, 3, 4, 7, 9} {
		does(t, fmt.Sprint("the first of ", client), b, from(client, 1, toDelete("t")), nil, "ok")
	}
	does(t, "the next of 5", b, from(5, 2, toDelete("t")), nil, "ok")
	does(t, "the last of 5", b, from(5, impl.MaxTime, toDelete("t")), nil, "ok")
	does(t, "the next of 6", b, from(6, 11, toDelete("t")), nil, "ok")
}

// wrongCommands has an invalid command of each kind, beside others.
func wrongCommands() []impl.Command {
	out := []impl.Command{{}, {Client: 3, Number: 7, Topic: "t"}, {Client: 3, Number: 7, Kind: 8, Topic: "t"}, {Client: 3, Number: 7, Kind: -1, Topic: "t"}}
	for _, kind := range allKinds() {
		plain := plainCommand(kind)
		change := func(by func(c *impl.Command)) {
			c := plain
			by(&c)
			out = append(out, c)
		}
		for _, client := range []int64{0, 10, -1} {
			change(func(c *impl.Command) { c.Client = client })
		}
		for _, number := range []int64{0, -1, impl.MaxTime + 1} {
			change(func(c *impl.Command) { c.Number = number })
		}
		for _, name := range noNames() {
			change(func(c *impl.Command) { c.Topic = name })
			change(func(c *impl.Command) { c.Group = name + "-" })
		}
		change(func(c *impl.Command) { c.Text = repeated(41) })
		change(func(c *impl.Command) { c.N = -1 })
		change(func(c *impl.Command) { c.N = impl.MaxTime + 1 })
	}
	return append(out, toPublish("t", ""), toFetch("t", "", 1), toAck("t", "", 1), toSeek("t", "", 1), toRetain("t", 21), impl.Command{Client: 3, Number: 7, Kind: impl.CmCreate, Topic: "t", Text: "x"})
}

// ErrForm is ahead of ErrThere, and both are ahead of any result.
func TestBrokerForm(t *testing.T) {
	late := brokerOf(topicsCalled("a", "b", "c", "t"), reply(3, 200, "ok"))
	later := brokerOf(topicsCalled("t"), reply(3, impl.MaxTime, "ok"))
	for _, c := range wrongCommands() {
		for _, b := range []impl.Broker{{}, late, later, brokerOf(topicsCalled("t"))} {
			brokerFails(t, "invalid command "+shown(c), impl.BrokerDo(b, c), impl.ErrForm)
		}
	}
	for what, b := range badBrokers() {
		for _, c := range append(allOrders("t"), allOrders("a")...) {
			brokerFails(t, what, impl.BrokerDo(b, c), impl.ErrForm)
			brokerFails(t, what+", client 4", impl.BrokerDo(b, from(4, 1, c)), impl.ErrForm)
			brokerFails(t, what+", MaxTime", impl.BrokerDo(b, from(5, impl.MaxTime, c)), impl.ErrForm)
		}
		brokerFails(t, what+", invalid command", impl.BrokerDo(b, impl.Command{}), impl.ErrForm)
	}
}

func TestBrokerReply(t *testing.T) {
	for what, b := range goodBrokers() {
		for client := int64(-2); client < 13; client++ {
			want := impl.Reply{}
			for _, r := range b.Replies {
				if r.Client == client {
					want = r
				}
			}
			same(t, fmt.Sprint(what, ": ", client), impl.BrokerReply(b, client), want)
		}
		same(t, what+": far below", impl.BrokerReply(b, math.MinInt64), impl.Reply{})
		same(t, what+": far above", impl.BrokerReply(b, math.MaxInt64), impl.Reply{})
	}
	for what, b := range badBrokers() {
		for client := int64(-2); client < 13; client++ {
			same(t, fmt.Sprint(what, ": ", client), impl.BrokerReply(b, client), impl.Reply{})
		}
	}
}

func TestBrokerTopic(t *testing.T) {
	names := append(noNames(), "a", "a0", "b", "c", "d", "e", "s", "t", "tt", "u", "v")
	names = append(names, goodNames()...)
	for what, b := range goodBrokers() {
		for _, name := range names {
			want := impl.Topic{}
			for _, topic := range b.Topics {
				if topic.Name == name {
					want = topic
				}
			}
			topicIs(t, what+": "+shown(name), impl.BrokerTopic(b, name), want)
		}
	}
	for what, b := range badBrokers() {
		for _, name := range names {
			topicIs(t, what+": "+shown(name), impl.BrokerTopic(b, name), impl.Topic{})
		}
	}
}

// modelBroker is a broker that is as simple as can be.
type modelBroker struct {
	topics  map[string]*modelTopic
	replies map[int64]impl.Reply
}

func modelOfBroker(b impl.Broker) *modelBroker {
	m := &modelBroker{topics: map[string]*modelTopic{}, replies: map[int64]impl.Reply{}}
	for _, topic := range b.Topics {
		m.topics[topic.Name] = modelOf(topic)
	}
	for _, r := range b.Replies {
		m.replies[r.Client] = r
	}
	return m
}

func (m *modelBroker) broker() impl.Broker {
	var b impl.Broker
	for name, topic := range m.topics {
		b.Topics = withTopic(b.Topics, called(name, topic.topic()))
	}
	for _, r := range m.replies {
		b.Replies = withReply(b.Replies, r)
	}
	return b
}

// do returns the result and the code.
func (m *modelBroker) do(c impl.Command) (string, int64) {
	last := m.replies[c.Client]
	if last.Number > c.Number {
		return "", impl.ErrThere
	}
	if last.Number < c.Number {
		m.replies[c.Client] = reply(c.Client, c.Number, m.execute(c))
	}
	return m.replies[c.Client].Text, impl.OK
}

func (m *modelBroker) execute(c impl.Command) string {
	topic, there := m.topics[c.Topic]
	if c.Kind == impl.CmCreate {
		if there {
			return "error 7"
		}
		if len(m.topics) == 4 {
			return "error 8"
		}
		m.topics[c.Topic] = modelOf(impl.Topic{})
		return "ok"
	}
	if !there {
		return "error 6"
	}
	if c.Kind == impl.CmDelete {
		delete(m.topics, c.Topic)
		return "ok"
	}
	return topic.execute(c)
}

func (m *modelTopic) execute(c impl.Command) string {
	moved := func(least int64, room bool) string {
		if out := m.move(c.Group, c.N, least, room); out.Code != impl.OK {
			return fmt.Sprint("error ", out.Code)
		}
		return "ok"
	}
	acked, room := m.position(c.Group)
	switch c.Kind {
	case impl.CmPublish:
		if m.end-m.base == 20 || m.end == impl.MaxTime {
			return "error 9"
		}
		m.texts[m.end] = c.Text
		m.end++
		return fmt.Sprint("ok ", m.end-1)
	case impl.CmFetch:
		if !room {
			return "error 9"
		}
		m.groups[c.Group] = acked
		return fetchText(acked, m.between(acked, min(m.end, acked+c.N, acked+20)))
	case impl.CmAck:
		return moved(acked, room)
	case impl.CmSeek:
		return moved(m.base, room)
	}
	gone := max(0, m.end-m.base-c.N)
	m.base += gone
	for other, at := range m.groups {
		m.groups[other] = max(at, m.base)
	}
	return fmt.Sprint("ok ", gone)
}

func randomTopicName(r *rand.Rand) string {
	return []string{"a", "b", "bb", "c", "d_1", "e"}[r.Intn(6)]
}

func randomBroker(r *rand.Rand) impl.Broker {
	var b impl.Broker
	for range r.Intn(impl.MaxTopics + 1) {
		b.Topics = withTopic(b.Topics, called(randomTopicName(r), randomTopic(r)))
	}
	for range r.Intn(10) {
		b.Replies = withReply(b.Replies, reply(1+r.Int63n(9), 1+r.Int63n(50), randomText(r, r.Intn(901)>>r.Intn(10))))
	}
	return b
}

// randomOrder is a command whose number is near that of the last one of its
// client, and whose N is near the messages of its topic.
func randomOrder(r *rand.Rand, b impl.Broker) impl.Command {
	kinds := []int64{1, 1, 1, 2, 3, 3, 3, 3, 3, 3, 3, 3, 4, 4, 4, 5, 5, 6, 6, 7}
	c := order(kinds[r.Intn(len(kinds))], randomTopicName(r))
	c.Client = 1 + r.Int63n(9)
	last := int64(0)
	for _, before := range b.Replies {
		if before.Client == c.Client {
			last = before.Number
		}
	}
	c.Number = max(1, last+r.Int63n(6)-1)
	if c.Kind == impl.CmPublish {
		c.Text = randomText(r, 1+r.Intn(40))
	}
	if groupKind(c.Kind) {
		c.Group, c.N = randomGroup(r), r.Int63n(40)
		for _, topic := range b.Topics {
			if topic.Name == c.Topic {
				c.N = min(impl.MaxTime, max(0, topic.Base+r.Int63n(26)-3))
			}
		}
	}
	if c.Kind == impl.CmFetch {
		c.N = r.Int63n(30)
	}
	if c.Kind == impl.CmRetain {
		c.N = r.Int63n(21)
	}
	return c
}

// All of promise 15, and promise 17 for whatever state is reached.
func TestBrokerLikeModel(t *testing.T) {
	r := dice()
	seen := map[string]int{}
	for range 120 {
		b := randomBroker(r)
		m := modelOfBroker(b)
		for range 120 {
			c := randomOrder(r, b)
			before := b
			text, code := m.do(c)
			got := impl.BrokerDo(b, c)
			if code != impl.OK {
				seen["late"]++
				brokerFails(t, shown(c), got, code)
				continue
			}
			brokerAnswer(t, shown(c), got, m.broker(), text)
			b = got.Broker
			brokerAnswer(t, shown(c)+", again", impl.BrokerDo(b, c), b, text)
			brokerIs(t, shown(c)+" in a list", impl.BrokerRun(before, []string{rightCommand(c)}), b)
			brokerIsRight(t, shown(c), b)
			for _, start := range []string{"ok", "error 6", "error 7", "error 8", "error 9"} {
				if strings.HasPrefix(text, start) {
					seen[start]++
				}
			}
		}
	}
	for _, what := range []string{"late", "ok", "error 6", "error 7", "error 8", "error 9"} {
		same(t, what+" seen", seen[what] > 50, true)
	}
}

// Promise 16.

// noCommands are strings that are no encoding of a valid command.
func noCommands() []string {
	code := rightCommand(toCreate("t"))
	return []string{"", "x", "\x00", code + "x", code[:len(code)-1], code[1:], code + code, "x" + code,
		longer(code, 1), rightCommand(toPublish("t", "")), rightCommand(toRetain("t", 21)), rightCommand(from(10, 1, toCreate("t"))),
		rightCommand(from(1, 0, toCreate("t"))), rightCommand(toCreate("T")), repeated(impl.MaxBytes), repeated(impl.MaxBytes + 1),
		code + repeated(impl.MaxBytes)}
}

func TestRunSkipsOtherStrings(t *testing.T) {
	create, publish := rightCommand(from(1, 1, toCreate("t"))), rightCommand(from(1, 2, toPublish("t", "x")))
	want := brokerOf([]impl.Topic{topicOf(0, []string{"x"})}, reply(1, 2, "ok 0"))
	brokerIs(t, "without others", impl.BrokerRun(impl.Broker{}, []string{create, publish}), want)
	for _, other := range noCommands() {
		what := "with " + shown(other)
		brokerIs(t, what, impl.BrokerRun(impl.Broker{}, []string{other, create, other, publish, other, other}), want)
		brokerIs(t, what+" alone", impl.BrokerRun(want, []string{other}), want)
	}
	brokerIs(t, "with late ones", impl.BrokerRun(impl.Broker{}, []string{
		create, publish, rightCommand(from(1, 1, toDelete("t"))), create, publish, rightCommand(from(1, 2, toDelete("t")))}), want)
	for what, b := range goodBrokers() {
		brokerIs(t, what+": nothing", impl.BrokerRun(b, nil), b)
		brokerIs(t, what+": empty list", impl.BrokerRun(b, []string{}), b)
		brokerIs(t, what+": others only", impl.BrokerRun(b, noCommands()), b)
	}
}

func TestRunInOrder(t *testing.T) {
	list := []string{rightCommand(from(1, 1, toPublish("t", "lost"))), rightCommand(from(2, 1, toCreate("t"))),
		rightCommand(from(1, 2, toPublish("t", "x"))), rightCommand(from(2, 2, toPublish("t", "y"))), rightCommand(from(3, 1, toFetch("t", "g", 9)))}
	want := brokerOf([]impl.Topic{topicOf(0, []string{"x", "y"}, group("g", 0))}, reply(1, 2, "ok 0"), reply(2, 2, "ok 1"), reply(3, 1, "ok 0 x y"))
	brokerIs(t, "in order", impl.BrokerRun(impl.Broker{}, list), want)
	slices.Reverse(list)
	// The command that would create the topic is late then.
	want = brokerOf(nil, reply(1, 2, "error 6"), reply(2, 2, "error 6"), reply(3, 1, "error 6"))
	brokerIs(t, "in reverse order", impl.BrokerRun(impl.Broker{}, list), want)
}

func TestRunOfInvalidBroker(t *testing.T) {
	list := []string{rightCommand(from(9, 900, toCreate("n"))), "x", rightCommand(from(9, 901, toDelete("a")))}
	for what, b := range badBrokers() {
		brokerIs(t, what, impl.BrokerRun(b, list), b)
		brokerIs(t, what+", nothing", impl.BrokerRun(b, nil), b)
		brokerIs(t, what+", MaxList", impl.BrokerRun(b, slices.Repeat(list[:1], impl.MaxList)), b)
		brokerIs(t, what+", one more", impl.BrokerRun(b, slices.Repeat(list[:1], impl.MaxList+1)), impl.Broker{})
	}
}

func TestRunMaxList(t *testing.T) {
	var list []string
	for i := range impl.MaxList + 1 {
		list = append(list, rightCommand(from(1, int64(i+1), toDelete("t"))))
	}
	for what, b := range map[string]impl.Broker{"nothing": {}, "a topic": brokerOf(topicsCalled("t"))} {
		want := brokerOf(nil, reply(1, impl.MaxList, "error 6"))
		brokerIs(t, what+", MaxList", impl.BrokerRun(b, list[:impl.MaxList]), want)
		brokerIs(t, what+", one more", impl.BrokerRun(b, list), impl.Broker{})
		brokerIs(t, what+", empty strings", impl.BrokerRun(b, make([]string, impl.MaxList)), b)
		brokerIs(t, what+", one more empty string", impl.BrokerRun(b, make([]string, impl.MaxList+1)), impl.Broker{})
	}
}

// randomList has commands, some of them late or twice, and other strings.
func randomList(r *rand.Rand, b impl.Broker, size int) ([]string, []impl.Command) {
	var texts []string
	var commands []impl.Command
	for len(texts) < size {
		if r.Intn(8) == 0 {
			others := noCommands()
			texts = append(texts, others[r.Intn(len(others))])
			continue
		}
		c := randomOrder(r, b)
		if r.Intn(8) == 0 && len(commands) > 0 {
			c = commands[r.Intn(len(commands))]
		}
		c.Number = min(impl.MaxTime, c.Number+r.Int63n(int64(size)))
		texts, commands = append(texts, rightCommand(c)), append(commands, c)
	}
	return texts, commands
}

func TestRunInTwoParts(t *testing.T) {
	r := dice()
	late := 0
	for range 60 {
		b := randomBroker(r)
		list, commands := randomList(r, b, r.Intn(40))
		m := modelOfBroker(b)
		for _, c := range commands {
			if _, code := m.do(c); code != impl.OK {
				late++
			}
		}
		whole := impl.BrokerRun(b, list)
		brokerIs(t, "like the model", whole, m.broker())
		for i := range len(list) + 1 {
			first := impl.BrokerRun(b, list[:i])
			brokerIs(t, fmt.Sprint("cut at ", i), impl.BrokerRun(first, list[i:]), whole)
			brokerIs(t, "the first part again", impl.BrokerRun(first, list[:i]), first)
			brokerIs(t, "the first part at the end", impl.BrokerRun(whole, list[:i]), whole)
			brokerIs(t, "the last part at the end", impl.BrokerRun(whole, list[i:]), whole)
		}
		brokerIs(t, "all of them again", impl.BrokerRun(whole, list), whole)
		brokerIs(t, "all of them in one list twice", impl.BrokerRun(b, slices.Repeat(list, 2)), whole)
		slices.Reverse(list)
		brokerIs(t, "all of them in reverse order", impl.BrokerRun(whole, list), whole)
	}
	same(t, "late ones seen", late > 50, true)
}

// Promise 17.

// brokerFields makes the encoding of a broker field by field and without the
// program, also of one that is invalid. Each field begins with a number.
func brokerFields(b impl.Broker) []string {
	fields := []string{numCode(int64(len(b.Topics)))}
	for _, topic := range b.Topics {
		fields = append(fields, textCode(topic.Name), numCode(topic.Base), numCode(int64(len(topic.Held))))
		for _, text := range topic.Held {
			fields = append(fields, textCode(text))
		}
		fields = append(fields, numCode(int64(len(topic.Groups))))
		for _, g := range topic.Groups {
			fields = append(fields, textCode(g.Name), numCode(g.Acked))
		}
	}
	fields = append(fields, numCode(int64(len(b.Replies))))
	for _, r := range b.Replies {
		fields = append(fields, numCode(r.Client), numCode(r.Number), textCode(r.Text))
	}
	return fields
}

func rightBroker(b impl.Broker) string {
	return strings.Join(brokerFields(b), "")
}

func brokerIsRight(t *testing.T, what string, b impl.Broker) {
	t.Helper()
	code := impl.BrokerBytes(b)
	same(t, "BrokerRight "+what, impl.BrokerRight(b), true)
	same(t, "BrokerBytes "+what, code, rightBroker(b))
	brokerAnswer(t, "BrokerRead "+what, impl.BrokerRead(code), b, "")
}

func brokerIsWrong(t *testing.T, what string, b impl.Broker) {
	t.Helper()
	same(t, "BrokerRight "+what, impl.BrokerRight(b), false)
	same(t, "BrokerBytes "+what, impl.BrokerBytes(b), "")
	code := rightBroker(b)
	if len(code) > impl.MaxBytes {
		brokerFails(t, "BrokerRead "+what, impl.BrokerRead(code), impl.ErrSize)
	} else {
		unread(t, what, code)
	}
}

func unread(t *testing.T, what string, text string) {
	t.Helper()
	brokerFails(t, "BrokerRead "+what, impl.BrokerRead(text), impl.ErrSyntax)
}

func TestBrokerBytes(t *testing.T) {
	cases := []struct {
		b    impl.Broker
		want string
	}{
		{impl.Broker{}, "\x00\x00"},
		{brokerOf([]impl.Topic{topicOf(0, nil)}), "\x02\x02t\x00\x00\x00\x00"},
		{brokerOf(nil, reply(9, 64, "")), "\x00\x02\x12\x80\x01\x00"},
		{brokerOf([]impl.Topic{topicOf(5, []string{"x", "yz"}, group("g", 6))}, reply(1, 2, "ok 0")),
			"\x02\x02t\x0a\x04\x02x\x04yz\x02\x02g\x0c\x02\x02\x04\x08ok 0"},
		{brokerOf([]impl.Topic{called("a", topicOf(64, nil, group("g", 64), group("h", 64))), called("b_1", topicOf(0, []string{"\x00"}))}, reply(2, 1, "a"), reply(3, impl.MaxTime, "b")),
			"\x04\x02a\x80\x01\x00\x04\x02g\x80\x01\x02h\x80\x01\x06b_1\x00\x02\x02\x00\x00\x04\x04\x02\x02a\x06\x80\xa8\xd6\xb9\x07\x02b"},
	}
	for _, c := range cases {
		same(t, "BrokerBytes", impl.BrokerBytes(c.b), c.want)
		brokerAnswer(t, "BrokerRead", impl.BrokerRead(c.want), c.b, "")
	}
}

func TestBrokerIsDecoded(t *testing.T) {
	for what, b := range goodBrokers() {
		brokerIsRight(t, what, b)
	}
	for what, b := range badBrokers() {
		brokerIsWrong(t, what, b)
	}
	r := dice()
	seen := map[string]impl.Broker{}
	for range 500 {
		b := randomBroker(r)
		brokerIsRight(t, "random", b)
		before, there := seen[rightBroker(b)]
		if there {
			brokerIs(t, "brokers of one encoding", b, before)
		}
		seen[rightBroker(b)] = b
	}
	same(t, "the longest encoding fits", len(rightBroker(greatBroker())) < impl.MaxBytes, true)
}

// someBrokers are a few valid ones with every kind of field.
func someBrokers() map[string]impl.Broker {
	return map[string]impl.Broker{
		"nothing":            {},
		"an empty topic":     brokerOf([]impl.Topic{topicOf(0, nil)}),
		"a topic":            brokerOf([]impl.Topic{topicOf(3, []string{"x", "yz"}, group("g", 4), group("h", 5))}),
		"a reply":            brokerOf(nil, reply(4, 70, "ok")),
		"topics and replies": brokerOf(topicsCalled("a", "t"), repliesTo(3, 4)...),
		"empty texts":        brokerOf([]impl.Topic{topicOf(200, nil, group("g", 200))}, reply(1, 1, ""), reply(2, 1, "")),
	}
}

func TestCutBroker(t *testing.T) {
	brokers := someBrokers()
	brokers["all that there can be"] = greatBroker()
	for what, b := range brokers {
		code := impl.BrokerBytes(b)
		for cut := range len(code) {
			unread(t, fmt.Sprint(what, " cut at ", cut), code[:cut])
		}
	}
	unread(t, "of nothing", "")
}

func TestBytesBehindBroker(t *testing.T) {
	for what, b := range someBrokers() {
		code := impl.BrokerBytes(b)
		for more := range 256 {
			unread(t, fmt.Sprint(what, " before byte ", more), code+string([]byte{byte(more)}))
		}
		unread(t, what+" before zeros", code+"\x00\x00\x00")
		unread(t, what+" twice", code+code)
		unread(t, what+" before many bytes", code+repeated(300))
	}
}

func TestLongerNumbersInBroker(t *testing.T) {
	for what, b := range someBrokers() {
		fields := brokerFields(b)
		for i := range fields {
			for more := 1; more < 11; more++ {
				changed := slices.Clone(fields)
				changed[i] = longer(fields[i], more)
				unread(t, fmt.Sprint(what, " with field ", i, " longer by ", more), strings.Join(changed, ""))
			}
		}
	}
}

// A number that is none, is negative or is beyond every limit, in each field.
func TestWrongNumbersInBroker(t *testing.T) {
	ten := strings.Repeat("\x82", 9)
	wrong := []string{"\x80", "\xff", ten, ten + "\x02", ten + "\x80\x00"}
	for _, n := range []int64{-1, -2, -4, math.MinInt64, impl.MaxTime + 1, 1 << 40, math.MaxInt64} {
		wrong = append(wrong, numCode(n))
	}
	for what, b := range someBrokers() {
		fields := brokerFields(b)
		for i := range fields {
			_, size := binary.Varint([]byte(fields[i]))
			for _, number := range wrong {
				changed := slices.Clone(fields)
				changed[i] = number + fields[i][size:]
				unread(t, fmt.Sprint(what, " with field ", i, " as ", shown(number)), strings.Join(changed, ""))
			}
			left := append(slices.Clone(fields[:i]), fields[i+1:]...)
			brokerReadsExactly(t, strings.Join(left, ""))
		}
	}
}

// A negative number of elements must not pass for none.
func TestNegativeCountsInBroker(t *testing.T) {
	for _, n := range []int64{-1, -2, -100, math.MinInt64} {
		count := numCode(n)
		unread(t, fmt.Sprint(n, " topics"), count+"\x00")
		unread(t, fmt.Sprint(n, " replies"), "\x00"+count)
		unread(t, fmt.Sprint(n, " messages"), "\x02\x02t\x00"+count+"\x00\x00")
		unread(t, fmt.Sprint(n, " groups"), "\x02\x02t\x00\x00"+count+"\x00")
	}
}

// Each list of one element more than it may have, well encoded otherwise.
func TestCountsBeyondLimitsInBroker(t *testing.T) {
	brokerIsWrong(t, "with a topic more", brokerOf(topicsCalled("a", "b", "c", "d", "e")))
	brokerIsWrong(t, "with a message more", brokerOf([]impl.Topic{topicOf(0, messages(impl.MaxHeld+1))}))
	brokerIsWrong(t, "with a group more", brokerOf([]impl.Topic{topicOf(0, nil, groupsAt(impl.MaxGroups+1, 0)...)}))
	brokerIsWrong(t, "with a reply more", brokerOf(nil, repliesTo(1, 2, 3, 4, 5, 6, 7, 8, 9, 10)...))
	brokerIsRight(t, "with as many as there may be", greatBroker())
}

// brokerReadsExactly requires that a text that is read is the very encoding of
// what comes out of it; it tells whether the text was read.
func brokerReadsExactly(t *testing.T, text string) bool {
	t.Helper()
	got := impl.BrokerRead(text)
	if got.Code != impl.OK {
		unread(t, shown(text), text)
		return false
	}
	same(t, "Text", got.Text, "")
	brokerIsRight(t, "that was read", got.Broker)
	same(t, "encoding of what was read", rightBroker(got.Broker), text)
	return true
}

func TestChangedBroker(t *testing.T) {
	read, failed := 0, 0
	count := func(right bool) {
		if right {
			read++
		} else {
			failed++
		}
	}
	for _, b := range someBrokers() {
		code := impl.BrokerBytes(b)
		for i := range len(code) {
			for to := range 256 {
				count(brokerReadsExactly(t, withByte(code, i, byte(to))))
			}
			count(brokerReadsExactly(t, code[:i]+code[i+1:]))
			count(brokerReadsExactly(t, code[i:]))
		}
	}
	r := dice()
	for range 3000 {
		code := []byte(impl.BrokerBytes(randomBroker(r)))
		for range 1 + r.Intn(3) {
			code[r.Intn(len(code))] = byte(r.Intn(256) >> r.Intn(8))
		}
		count(brokerReadsExactly(t, string(code)))
		count(brokerReadsExactly(t, randomText(r, r.Intn(30))))
	}
	same(t, "both outcomes seen", read > 1000 && failed > 1000, true)
}

func TestBrokerReadSize(t *testing.T) {
	for what, b := range map[string]impl.Broker{"nothing": {}, "much": greatBroker()} {
		code := impl.BrokerBytes(b)
		full := code + repeated(impl.MaxBytes-len(code))
		unread(t, what+" and MaxBytes bytes", full)
		brokerFails(t, what+" and one byte more", impl.BrokerRead(full+"x"), impl.ErrSize)
		brokerFails(t, what+" and far more bytes", impl.BrokerRead(full+full), impl.ErrSize)
	}
	unread(t, "MaxBytes other bytes", repeated(impl.MaxBytes))
	unread(t, "MaxBytes zeros", strings.Repeat("\x00", impl.MaxBytes))
	brokerFails(t, "one byte more", impl.BrokerRead(repeated(impl.MaxBytes+1)), impl.ErrSize)
	long := brokerOf(nil, reply(1, 1, repeated(impl.MaxBytes-7)))
	same(t, "bytes with a long Text", len(rightBroker(long)), impl.MaxBytes)
	brokerIsWrong(t, "of MaxBytes bytes", long)
	long.Replies[0].Text += "x"
	brokerIsWrong(t, "of one byte more", long)
}

// Memory.

func brokerStrings(b impl.Broker) []string {
	var out []string
	for _, topic := range b.Topics {
		out = append(out, topicStrings(topic)...)
	}
	for _, r := range b.Replies {
		out = append(out, r.Text)
	}
	return out
}

// roomyBroker is a copy with room behind all its lists, which is what an append
// to an argument would use.
func roomyBroker(b impl.Broker) impl.Broker {
	out := impl.Broker{Topics: make([]impl.Topic, 0, len(b.Topics)+3), Replies: make([]impl.Reply, 0, len(b.Replies)+3)}
	for _, topic := range b.Topics {
		out.Topics = append(out.Topics, roomyTopic(topic))
	}
	out.Replies = append(out.Replies, clonedBroker(b).Replies...)
	return out
}

// spoilBroker overwrites the lists, also the room behind them.
func spoilBroker(b impl.Broker) {
	for _, topic := range b.Topics {
		spoilTopic(topic)
	}
	topics, replies := b.Topics[:cap(b.Topics)], b.Replies[:cap(b.Replies)]
	for i := range topics {
		topics[i] = called("spoiled", topicOf(7, nil))
	}
	for i := range replies {
		replies[i] = reply(7, 7, "spoiled")
	}
}

// brokerCalls are the calls that take a broker and return one. What they
// return beside it is in the strings.
func brokerCalls() map[string]func(b impl.Broker) (impl.Broker, []string) {
	calls := map[string]func(b impl.Broker) (impl.Broker, []string){}
	for _, number := range []int64{1, 103, 500} {
		for i, c := range append(allOrders("t"), allOrders("new_one")...) {
			c = from(3, number, c)
			c.Topic, c.Group, c.Text = strings.Clone(c.Topic), strings.Clone(c.Group), strings.Clone(c.Text)
			calls[fmt.Sprint("do ", number, " ", i)] = func(b impl.Broker) (impl.Broker, []string) {
				out := impl.BrokerDo(b, c)
				return out.Broker, []string{out.Text}
			}
			calls[fmt.Sprint("run ", number, " ", i)] = func(b impl.Broker) (impl.Broker, []string) {
				return impl.BrokerRun(b, []string{rightCommand(c), "x", rightCommand(from(4, 600, c))}), nil
			}
		}
	}
	calls["run nothing"] = func(b impl.Broker) (impl.Broker, []string) { return impl.BrokerRun(b, nil), nil }
	calls["topics and replies"] = func(b impl.Broker) (impl.Broker, []string) {
		var out impl.Broker
		for _, topic := range b.Topics {
			out.Topics = append(out.Topics, impl.BrokerTopic(b, topic.Name))
		}
		for _, r := range b.Replies {
			out.Replies = append(out.Replies, impl.BrokerReply(b, r.Client))
		}
		return out, []string{impl.BrokerBytes(b)}
	}
	calls["encoding and back"] = func(b impl.Broker) (impl.Broker, []string) {
		code := impl.BrokerBytes(b)
		return impl.BrokerRead(code).Broker, []string{code}
	}
	return calls
}

func TestBrokerSharesNothing(t *testing.T) {
	brokers := map[string]impl.Broker{
		"right": brokerOf(append(topicsCalled("a", "b"), topicsCalled("t")...), repliesTo(1, 3, 4)...),
		"full":  brokerOf(topicsCalled("a", "b", "c", "t"), repliesTo(allClients()...)...),
		"wrong": brokerOf(topicsCalled("t", "t", "b"), repliesTo(3, 4, 1)...),
	}
	for kind, given := range brokers {
		for what, call := range brokerCalls() {
			what = kind + ", " + what
			b := roomyBroker(given)
			got, texts := call(b)
			before := clonedBroker(got)
			brokerIs(t, what+": argument", b, given)
			same(t, what+": room behind the topics", b.Topics[:len(b.Topics)+1][len(b.Topics)].Name, "")
			same(t, what+": room behind the replies", b.Replies[:len(b.Replies)+1][len(b.Replies)], impl.Reply{})
			answer := append(brokerStrings(got), texts...)
			sharesNone(t, what, answer, brokerStrings(b))
			for i := range answer {
				sharesNone(t, what+": strings of the answer", answer[:i], answer[i:i+1])
			}
			spoilBroker(b)
			brokerIs(t, what+": answer after the argument is spoiled", got, before)
			for i := range got.Topics {
				spoilTopic(got.Topics[i])
				for j := i + 1; j < len(got.Topics); j++ {
					topicIs(t, what+": topic after another is spoiled", got.Topics[j], before.Topics[j])
				}
			}
			b = roomyBroker(given)
			got, _ = call(b)
			spoilBroker(got)
			brokerIs(t, what+": argument after the answer is spoiled", b, given)
		}
	}
}

func TestBrokerSharesNoString(t *testing.T) {
	b := brokerOf(topicsCalled("t"), repliesTo(3)...)
	for _, topic := range []string{"t", "new_one"} {
		for _, c := range allOrders(topic) {
			c = from(3, 500, c)
			c.Topic, c.Group, c.Text = strings.Clone(c.Topic), strings.Clone(c.Group), strings.Clone(c.Text)
			before := c
			got, again := impl.BrokerDo(b, c), impl.BrokerDo(b, c)
			answer := append(brokerStrings(got.Broker), got.Text)
			sharesNone(t, shown(c), answer, commandStrings(c))
			sharesNone(t, shown(c)+", again", answer, append(brokerStrings(again.Broker), again.Text))
			same(t, "command", c, before)
			code := rightCommand(c)
			sharesNone(t, shown(c)+" in a list", brokerStrings(impl.BrokerRun(b, []string{code})), []string{code})
		}
	}
	for what, b := range someBrokers() {
		code := impl.BrokerBytes(b)
		got := brokerStrings(impl.BrokerRead(code).Broker)
		sharesNone(t, "BrokerRead "+what, got, []string{code})
		sharesNone(t, "BrokerRead again "+what, got, brokerStrings(impl.BrokerRead(code).Broker))
		sharesNone(t, "BrokerBytes again "+what, []string{code}, []string{impl.BrokerBytes(b)})
	}
	name := strings.Clone("t")
	sharesNone(t, "BrokerTopic", topicStrings(impl.BrokerTopic(b, name)), append(brokerStrings(b), name))
	sharesNone(t, "BrokerReply", []string{impl.BrokerReply(b, 3).Text}, brokerStrings(b))
}

func TestBrokerLeavesArguments(t *testing.T) {
	brokers := badBrokers()
	for what, b := range goodBrokers() {
		brokers[what] = b
	}
	calls := brokerCalls()
	for what, b := range brokers {
		before := clonedBroker(b)
		for name, call := range calls {
			first, texts := call(b)
			brokerIs(t, what+", "+name, b, before)
			again, more := call(b)
			brokerIs(t, what+", "+name+", again", again, first)
			namesIs(t, what+", "+name+", again", more, texts...)
		}
		impl.BrokerRight(b)
		brokerIs(t, what, b, before)
	}
	list := []string{rightCommand(toCreate("t")), "x", rightCommand(from(1, 2, toPublish("t", "x")))}
	kept := slices.Clone(list)
	impl.BrokerRun(brokerOf(topicsCalled("a")), list)
	namesIs(t, "list", list, kept...)
}
