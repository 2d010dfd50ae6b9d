package tests

import (
	"encoding/binary"
	"fmt"
	"math"
	"math/rand"
	"slices"
	"strings"
	"testing"

	"loop.example/g00386/impl"
)

func proof(view int64, seq int64, op string, by ...int64) impl.Proof {
	return impl.Proof{View: view, Seq: seq, Op: op, By: by}
}

func change(from int64, view int64, proofs ...impl.Proof) impl.Change {
	return impl.Change{From: from, View: view, Proofs: proofs}
}

// about is a message about one sequence number.
func about(kind int64, from int64, view int64, seq int64, op string) impl.Say {
	return impl.Say{Kind: kind, From: from, View: view, Seq: seq, Op: op}
}

func sayChange(from int64, view int64, changes ...impl.Change) impl.Say {
	return impl.Say{Kind: impl.SayChange, From: from, View: view, Changes: changes}
}

// sayNew is from the leader of the view.
func sayNew(view int64, changes ...impl.Change) impl.Say {
	return impl.Say{Kind: impl.SayNew, From: view % 4, View: view, Changes: changes}
}

// ballots are changes to one view without proofs.
func ballots(view int64, voters ...int64) []impl.Change {
	var out []impl.Change
	for _, r := range voters {
		out = append(out, change(r, view))
	}
	return out
}

func clonedProof(p impl.Proof) impl.Proof {
	p.Op, p.By = strings.Clone(p.Op), slices.Clone(p.By)
	return p
}

func clonedChange(c impl.Change) impl.Change {
	c.Proofs = slices.Clone(c.Proofs)
	for i, p := range c.Proofs {
		c.Proofs[i] = clonedProof(p)
	}
	return c
}

func clonedSay(s impl.Say) impl.Say {
	s.Op, s.Changes = strings.Clone(s.Op), slices.Clone(s.Changes)
	for i, c := range s.Changes {
		s.Changes[i] = clonedChange(c)
	}
	return s
}

// Comparison: an empty list and nil are the same.

func sameProof(a impl.Proof, b impl.Proof) bool {
	return a.View == b.View && a.Seq == b.Seq && a.Op == b.Op && slices.Equal(a.By, b.By)
}

func sameChange(a impl.Change, b impl.Change) bool {
	return a.From == b.From && a.View == b.View && slices.EqualFunc(a.Proofs, b.Proofs, sameProof)
}

func sameSay(a impl.Say, b impl.Say) bool {
	return a.Kind == b.Kind && a.From == b.From && a.View == b.View && a.Seq == b.Seq && a.Op == b.Op &&
		slices.EqualFunc(a.Changes, b.Changes, sameChange)
}

func proofIs(t *testing.T, what string, got impl.Proof, want impl.Proof) {
	t.Helper()
	if !sameProof(got, want) {
		t.Errorf("%s: got %s, want %s", what, shown(got), shown(want))
	}
}

func changeIs(t *testing.T, what string, got impl.Change, want impl.Change) {
	t.Helper()
	if !sameChange(got, want) {
		t.Errorf("%s: got %s, want %s", what, shown(got), shown(want))
	}
}

func sayIs(t *testing.T, what string, got impl.Say, want impl.Say) {
	t.Helper()
	if !sameSay(got, want) {
		t.Errorf("%s: got %s, want %s", what, shown(got), shown(want))
	}
}

// The encoding, without the program and also of invalid messages. Each field
// begins with a number.

func proofFields(p impl.Proof) []string {
	fields := []string{numCode(p.View), numCode(p.Seq), textCode(p.Op), numCode(int64(len(p.By)))}
	for _, r := range p.By {
		fields = append(fields, numCode(r))
	}
	return fields
}

func sayFields(s impl.Say) []string {
	fields := []string{numCode(s.Kind), numCode(s.From), numCode(s.View), numCode(s.Seq), textCode(s.Op), numCode(int64(len(s.Changes)))}
	for _, c := range s.Changes {
		fields = append(fields, numCode(c.From), numCode(c.View), numCode(int64(len(c.Proofs))))
		for _, p := range c.Proofs {
			fields = append(fields, proofFields(p)...)
		}
	}
	return fields
}

func rightSay(s impl.Say) string {
	return strings.Join(sayFields(s), "")
}

func sayFails(t *testing.T, what string, text string, code int64) {
	t.Helper()
	got := impl.SayRead(text)
	same(t, "Code of SayRead "+what, got.Code, code)
	sayIs(t, "SayRead "+what, got.Say, impl.Say{})
}

func sayUnread(t *testing.T, what string, text string) {
	t.Helper()
	sayFails(t, what, text, impl.ErrSyntax)
}

func sayIsRight(t *testing.T, what string, s impl.Say) {
	t.Helper()
	code := impl.SayBytes(s)
	same(t, "SayRight "+what, impl.SayRight(s), true)
	same(t, "SayBytes "+what, code, rightSay(s))
	got := impl.SayRead(code)
	same(t, "Code of SayRead "+what, got.Code, impl.OK)
	sayIs(t, "SayRead "+what, got.Say, s)
}

func sayIsWrong(t *testing.T, what string, s impl.Say) {
	t.Helper()
	same(t, "SayRight "+what, impl.SayRight(s), false)
	same(t, "SayBytes "+what, impl.SayBytes(s), "")
	code := rightSay(s)
	if len(code) > impl.MaxBytes {
		sayFails(t, what, code, impl.ErrSize)
	} else {
		sayUnread(t, what, code)
	}
}

// sayReadsExactly requires that a text that is read is the very encoding of
// what comes out of it; it tells whether the text was read.
func sayReadsExactly(t *testing.T, text string) bool {
	t.Helper()
	got := impl.SayRead(text)
	if got.Code != impl.OK {
		sayUnread(t, shown(text), text)
		return false
	}
	sayIsRight(t, "that was read", got.Say)
	same(t, "validity of what was read", rightSayWords(got.Say), true)
	same(t, "encoding of what was read", rightSay(got.Say), text)
	return true
}

// The validity of chapter 11 in its own words.

func rightProofWords(p impl.Proof) bool {
	views, seqs := []int64{0, 1, 2, 3, 4, 5, 6, 7}, []int64{1, 2, 3, 4, 5, 6}
	return slices.Contains(views, p.View) && slices.Contains(seqs, p.Seq) && len(p.Op) < 121 && isQuorum(p.By)
}

func rightChangeWords(c impl.Change) bool {
	for i, p := range c.Proofs {
		for _, later := range c.Proofs[i+1:] {
			if later.Seq <= p.Seq {
				return false
			}
		}
		if !rightProofWords(p) || p.View >= c.View {
			return false
		}
	}
	return slices.Contains([]int64{0, 1, 2, 3}, c.From) && slices.Contains([]int64{1, 2, 3, 4, 5, 6, 7}, c.View)
}

func rightSayWords(s impl.Say) bool {
	voters := []int64{}
	for _, c := range s.Changes {
		if !rightChangeWords(c) || c.View != s.View {
			return false
		}
		voters = append(voters, c.From)
	}
	leaders := []int64{0, 1, 2, 3, 0, 1, 2, 3}
	if s.From < 0 || s.From > 3 || s.View < 0 || s.View > 7 {
		return false
	}
	numbered := s.Seq >= 1 && s.Seq <= 6 && len(s.Op) < 121 && len(voters) == 0
	changing := s.View > 0 && s.Seq == 0 && s.Op == ""
	return s.Kind == 1 && numbered && leaders[s.View] == s.From ||
		s.Kind == 2 && numbered ||
		s.Kind == 3 && numbered ||
		s.Kind == 4 && changing && slices.Equal(voters, []int64{s.From}) ||
		s.Kind == 5 && changing && leaders[s.View] == s.From && isQuorum(voters)
}

// Values.

func kindsOfSays() []int64 {
	return []int64{impl.SayPre, impl.SayPrepare, impl.SayCommit, impl.SayChange, impl.SayNew}
}

func noKindsOfSays() []int64 {
	return []int64{0, 6, 7, 8, 255, 1<<8 + 1, 1<<32 + 2, math.MaxInt64, -1, -2, -3, -4, -5, math.MinInt64, math.MinInt64 + 1}
}

func goodOps() []string {
	return []string{"", "x", "\x00", "\xff\xfe", "two words\n", repeated(63), repeated(64), repeated(119), repeated(120), strings.Repeat("\x80", 120)}
}

func badOps() []string {
	return []string{repeated(121), repeated(122), repeated(128), repeated(240), repeated(256), repeated(256 + 120), strings.Repeat("é", 61),
		repeated(impl.MaxBytes), repeated(impl.MaxBytes + 1)}
}

func noViews() []int64 {
	return []int64{-1, impl.MaxView + 1, impl.MaxView + 2, 12, -4, 1 << 8, 1<<8 + 1, 1 << 32, 1<<32 + 1, math.MaxInt64, math.MinInt64, math.MinInt64 + 1}
}

func noSeqs() []int64 {
	return []int64{0, -1, impl.MaxSeq + 1, impl.MaxSeq + 2, -6, 1<<8 + 1, 1<<32 + 1, math.MaxInt64, math.MinInt64, math.MinInt64 + 1}
}

// noQuorums are lists that are none of allQuorums.
func noQuorums() [][]int64 {
	return [][]int64{nil, {}, {0}, {3}, {0, 1}, {2, 3}, {0, 0, 1}, {0, 1, 1}, {1, 1, 1}, {2, 1, 0}, {0, 2, 1}, {1, 0, 2}, {3, 0, 1}, {-1, 0, 1}, {1, 2, 4}, {2, 3, 4},
		{0, 1, 2, 2}, {0, 1, 2, 4}, {-1, 0, 1, 2}, {3, 2, 1, 0}, {0, 1, 2, 3, 3}, {0, 1, 2, 3, 4}, {0, 0, 1, 2, 3}, {0, 1, 1<<32 + 2},
		{math.MinInt64, 0, 1}, {0, 1, math.MaxInt64}, make([]int64, impl.MaxList), make([]int64, impl.MaxList+1)}
}

// proofLists are valid proofs for changes to a view, as different as there are.
func proofLists(view int64) [][]impl.Proof {
	last := view - 1
	var all []impl.Proof
	for seq := range int64(6) {
		all = append(all, proof(seq%view, seq+1, repeated(20*int(seq)+20), allQuorums()[seq%5]...))
	}
	return [][]impl.Proof{
		nil, {},
		{proof(0, 1, "", 0, 1, 2)},
		{proof(last, 6, "last", 0, 1, 2, 3)},
		{proof(last, 2, repeated(120), 1, 2, 3), proof(0, 3, "", 0, 2, 3)},
		{proof(0, 1, "same", 0, 1, 3), proof(last, 4, "same", 0, 1, 3), proof(0, 6, "same", 0, 1, 3)},
		all,
	}
}

// badProofLists make any change to the view invalid.
func badProofLists(view int64) map[string][]impl.Proof {
	good := func(seq int64) impl.Proof { return proof(0, seq, "op", 0, 1, 2) }
	lists := map[string][]impl.Proof{
		"falling":               {good(2), good(1)},
		"one Seq twice":         {good(3), good(3)},
		"one Seq twice, at 1":   {good(1), good(1), good(2)},
		"one Seq twice, at 6":   {good(5), good(6), good(6)},
		"a last one that falls": {good(1), good(4), good(6), good(5)},
		"a first one too far":   {good(6), good(1), good(2)},
		"one more than MaxSeq":  {good(1), good(2), good(3), good(4), good(5), good(6), good(7)},
		"MaxSeq and one again":  {good(1), good(2), good(3), good(4), good(5), good(6), good(6)},
		"a zero proof":          {{}},
		"a zero proof behind":   {good(1), {}},
		"View of the Change":    {proof(view, 1, "op", 0, 1, 2)},
		"View of it, behind":    {good(1), proof(view, 2, "op", 0, 1, 2)},
		"View of it, in front":  {proof(view, 1, "op", 0, 1, 2), good(2)},
		"a later View":          {proof(view+1, 1, "op", 0, 1, 2)},
		"MaxView":               {proof(impl.MaxView, 1, "op", 0, 1, 2)},
		"View -1":               {proof(-1, 1, "op", 0, 1, 2)},
		"the least View":        {proof(math.MinInt64, 1, "op", 0, 1, 2)},
		"Seq 0":                 {proof(0, 0, "op", 0, 1, 2)},
		"Seq 7":                 {proof(0, 7, "op", 0, 1, 2)},
		"Seq -1 in front":       {proof(0, -1, "op", 0, 1, 2), good(1)},
		"an Op of 121 bytes":    {proof(0, 1, repeated(121), 0, 1, 2)},
		"no By":                 {proof(0, 1, "op")},
		"By two":                {proof(0, 1, "op", 0, 1)},
		"By two, behind":        {good(1), proof(0, 2, "op", 0, 1)},
		"By two, between":       {good(1), proof(0, 2, "op", 0, 1), good(3)},
		"By in other order":     {proof(0, 1, "op", 2, 1, 0)},
		"By replica 4":          {proof(0, 1, "op", 1, 2, 4)},
	}
	for _, size := range []int{impl.MaxList, impl.MaxList + 1} {
		lists[fmt.Sprint("proofs in number ", size)] = slices.Repeat([]impl.Proof{good(1)}, size)
	}
	return lists
}

// plainSay is a valid message of a kind with every field that it may have.
func plainSay(kind int64) impl.Say {
	proofs := []impl.Proof{proof(0, 2, "first", 0, 1, 2), proof(4, 3, "second", 0, 1, 2, 3)}
	switch kind {
	case impl.SayChange:
		return sayChange(2, 5, change(2, 5, proofs...))
	case impl.SayNew:
		return sayNew(5, change(0, 5), change(2, 5, proofs...), change(3, 5, proof(3, 6, "", 1, 2, 3)))
	}
	return about(kind, 1, 5, 4, "operation")
}

// eachPlainSay goes through a plain message of every kind.
func eachPlainSay(check func(what string, s impl.Say)) {
	for _, kind := range kindsOfSays() {
		check(fmt.Sprint("of kind ", kind), plainSay(kind))
	}
}

// numberedKind tells whether messages of the kind are about a sequence number.
func numberedKind(kind int64) bool {
	return kind == impl.SayPre || kind == impl.SayPrepare || kind == impl.SayCommit
}

// ledKind tells whether only the leader sends messages of the kind.
func ledKind(kind int64) bool {
	return kind == impl.SayPre || kind == impl.SayNew
}

func TestExamplesOfChapter11(t *testing.T) {
	sayIsWrong(t, "SayPre of replica 1 in view 0", about(impl.SayPre, 1, 0, 1, "op"))
	sayIsRight(t, "SayPre of replica 0 in view 0", about(impl.SayPre, 0, 0, 1, "op"))
	same(t, "121 bytes", impl.OpRight(repeated(121)), false)
	same(t, "120 bytes", impl.OpRight(repeated(120)), true)
	sayIsWrong(t, "SayPre of 121 bytes", about(impl.SayPre, 0, 0, 1, repeated(121)))
}

func TestConstantsOfChapter11(t *testing.T) {
	same(t, "MaxSeq", impl.MaxSeq, 6)
	same(t, "MaxView", impl.MaxView, 7)
	for i, kind := range kindsOfSays() {
		same(t, "kind", kind, int64(i+1))
	}
}

func TestOpRight(t *testing.T) {
	r := dice()
	for size := range 400 {
		same(t, fmt.Sprint("OpRight of ", size), impl.OpRight(randomText(r, size)), size <= 120)
	}
	for _, op := range goodOps() {
		same(t, "OpRight of "+shown(op), impl.OpRight(op), true)
	}
	for _, op := range badOps() {
		same(t, "OpRight of "+shown(op), impl.OpRight(op), false)
	}
}

func TestProofRight(t *testing.T) {
	for view := range int64(8) {
		for seq := int64(1); seq <= 6; seq++ {
			for _, op := range goodOps() {
				for _, by := range allQuorums() {
					p := proof(view, seq, op, by...)
					same(t, "ProofRight of "+shown(p), impl.ProofRight(p), true)
				}
			}
		}
	}
	right := proof(3, 2, "op", 0, 1, 3)
	fails := func(p impl.Proof) {
		t.Helper()
		same(t, "ProofRight of "+shown(p), impl.ProofRight(p), false)
	}
	for _, view := range noViews() {
		fails(proof(view, right.Seq, right.Op, right.By...))
	}
	for _, seq := range noSeqs() {
		fails(proof(right.View, seq, right.Op, right.By...))
	}
	for _, op := range badOps() {
		fails(proof(right.View, right.Seq, op, right.By...))
	}
	for _, by := range noQuorums() {
		fails(proof(right.View, right.Seq, right.Op, by...))
	}
	fails(impl.Proof{})
}

func TestProofByEveryList(t *testing.T) {
	eachList([]int64{-1, 0, 1, 2, 3, 4}, 5, func(l []int64) {
		p := proof(7, 6, "", l...)
		same(t, "ProofRight of "+shown(p), impl.ProofRight(p), isQuorum(l))
	})
}

// Fields that are wrong together must not make up for each other.
func TestProofsOfEdgeFields(t *testing.T) {
	right := 0
	for _, view := range []int64{-1, 0, 7, 8} {
		for _, seq := range []int64{0, 1, 6, 7} {
			for _, op := range []string{"", repeated(120), repeated(121)} {
				for _, by := range append(noQuorums(), allQuorums()...) {
					p := proof(view, seq, op, by...)
					want := rightProofWords(p)
					same(t, "ProofRight of "+shown(p), impl.ProofRight(p), want)
					if want {
						right++
					}
				}
			}
		}
	}
	same(t, "valid ones seen", right, 2*2*2*5)
}

// A change is looked at alone and in the messages that may have it.
func checkChange(t *testing.T, what string, c impl.Change, want bool) {
	t.Helper()
	same(t, "ChangeRight "+what, impl.ChangeRight(c), want)
	check := sayIsWrong
	if want {
		check = sayIsRight
	}
	check(t, "SayChange "+what, sayChange(c.From, c.View, c))
	if c.From < 0 || c.From > 3 || c.View < 1 {
		return
	}
	for _, voters := range allQuorums() {
		if at := slices.Index(voters, c.From); at >= 0 {
			changes := ballots(c.View, voters...)
			changes[at] = c
			check(t, fmt.Sprint("SayNew ", what, " at ", at, " of ", voters), sayNew(c.View, changes...))
		}
	}
}

func TestChangeRight(t *testing.T) {
	for from := range int64(4) {
		for view := int64(1); view <= 7; view++ {
			for _, proofs := range proofLists(view) {
				c := change(from, view, proofs...)
				checkChange(t, shown(c), c, true)
			}
		}
	}
}

func TestChangeWrong(t *testing.T) {
	for _, view := range []int64{1, 2, 5, 7} {
		for from := range int64(4) {
			for what, proofs := range badProofLists(view) {
				checkChange(t, fmt.Sprint(what, ", to view ", view), change(from, view, proofs...), false)
			}
		}
		for _, proofs := range proofLists(view) {
			for _, from := range noReplicas() {
				checkChange(t, fmt.Sprint("from ", from), change(from, view, proofs...), false)
			}
		}
	}
	for _, view := range append(noViews(), 0) {
		for _, proofs := range proofLists(1) {
			checkChange(t, fmt.Sprint("to view ", view), change(1, view, proofs...), false)
		}
	}
	same(t, "the zero Change", impl.ChangeRight(impl.Change{}), false)
}

// The View of a proof against that of its change.
func TestViewsOfProofs(t *testing.T) {
	for view := int64(1); view <= 7; view++ {
		for of := int64(-1); of <= 8; of++ {
			c := change(0, view, proof(0, 1, "", 0, 1, 2), proof(of, 3, "x", 1, 2, 3))
			checkChange(t, fmt.Sprint("proof of ", of, " to ", view), c, of >= 0 && of < view)
		}
	}
}

// All short lists of sequence numbers.
func TestSeqsOfProofs(t *testing.T) {
	right := 0
	eachList([]int64{0, 1, 2, 3, 6, 7}, 4, func(l []int64) {
		c := change(3, 4)
		for _, seq := range l {
			c.Proofs = append(c.Proofs, proof(3, seq, "op", 0, 2, 3))
		}
		want := rightChangeWords(c)
		same(t, fmt.Sprint("ChangeRight with ", l), impl.ChangeRight(c), want)
		if want {
			right++
		}
	})
	same(t, "subsets of 1, 2, 3 and 6", right, 16)
}

// Each proof that is wrong is found, wherever it is.
func TestOneWrongProofAmongMany(t *testing.T) {
	wrong := []func(p *impl.Proof){
		func(p *impl.Proof) { p.View = 7 },
		func(p *impl.Proof) { p.View = -1 },
		func(p *impl.Proof) { p.Seq = 7 },
		func(p *impl.Proof) { p.Seq-- },
		func(p *impl.Proof) { p.Op = repeated(121) },
		func(p *impl.Proof) { p.By = []int64{0, 1} },
		func(p *impl.Proof) { p.By = []int64{0, 1, 1} },
	}
	full := func() impl.Say {
		s := sayNew(7, ballots(7, 0, 1, 2, 3)...)
		for i := range s.Changes {
			s.Changes[i].Proofs = slices.Clone(proofLists(7)[6])
		}
		return s
	}
	sayIsRight(t, "with all proofs", full())
	for i := range 4 {
		for j := range 6 {
			for k, spoil := range wrong {
				s := full()
				spoil(&s.Changes[i].Proofs[j])
				what := fmt.Sprint("of change ", i, " and proof ", j, " by ", k)
				same(t, "ChangeRight "+what, impl.ChangeRight(s.Changes[i]), false)
				sayIsWrong(t, what, s)
			}
		}
	}
}

// Promise 19.

func TestNumberedSays(t *testing.T) {
	for _, kind := range []int64{impl.SayPre, impl.SayPrepare, impl.SayCommit} {
		for from := range int64(4) {
			for view := range int64(8) {
				for seq := int64(1); seq <= 6; seq++ {
					for _, op := range goodOps() {
						s := about(kind, from, view, seq, op)
						if kind == impl.SayPre && from != view%4 {
							sayIsWrong(t, shown(s), s)
						} else {
							sayIsRight(t, shown(s), s)
						}
					}
				}
			}
		}
	}
}

func TestSayBytes(t *testing.T) {
	cases := []struct {
		s    impl.Say
		want string
	}{
		{about(impl.SayPre, 0, 0, 1, ""), "\x02\x00\x00\x02\x00\x00"},
		{about(impl.SayPre, 3, 7, 6, "ab"), "\x02\x06\x0e\x0c\x04ab\x00"},
		{about(impl.SayPrepare, 3, 0, 2, "\x00\xff"), "\x04\x06\x00\x04\x04\x00\xff\x00"},
		{about(impl.SayCommit, 1, 2, 3, repeated(64)), "\x06\x02\x04\x06\x80\x01" + repeated(64) + "\x00"},
		{sayChange(2, 1, change(2, 1)), "\x08\x04\x02\x00\x00\x02\x04\x02\x00"},
		{sayChange(0, 7, change(0, 7, proof(6, 1, "a", 0, 1, 2), proof(0, 6, "", 0, 1, 2, 3))),
			"\x08\x00\x0e\x00\x00\x02\x00\x0e\x04\x0c\x02\x02a\x06\x00\x02\x04\x00\x0c\x00\x08\x00\x02\x04\x06"},
		{sayNew(1, ballots(1, 0, 1, 2)...), "\x0a\x02\x02\x00\x00\x06\x00\x02\x00\x02\x02\x00\x04\x02\x00"},
		{sayNew(4, change(0, 4), change(1, 4, proof(3, 2, "b", 1, 2, 3)), change(2, 4), change(3, 4)),
			"\x0a\x00\x08\x00\x00\x08\x00\x08\x00\x02\x08\x02\x06\x04\x02b\x06\x02\x04\x06\x04\x08\x00\x06\x08\x00"},
	}
	for _, c := range cases {
		same(t, "SayBytes", impl.SayBytes(c.s), c.want)
		got := impl.SayRead(c.want)
		same(t, "Code of SayRead", got.Code, impl.OK)
		sayIs(t, "SayRead", got.Say, c.s)
		sayIsRight(t, shown(c.s), c.s)
	}
	eachPlainSay(func(what string, s impl.Say) { sayIsRight(t, what, s) })
}

func TestSayKind(t *testing.T) {
	eachPlainSay(func(what string, s impl.Say) {
		for _, s.Kind = range noKindsOfSays() {
			sayIsWrong(t, fmt.Sprint(what, ", made kind ", s.Kind), s)
		}
		for _, s.Kind = range kindsOfSays() {
			if !rightSayWords(s) {
				sayIsWrong(t, fmt.Sprint(what, ", made kind ", s.Kind), s)
			}
		}
	})
	for _, kind := range append(noKindsOfSays(), kindsOfSays()...) {
		sayIsWrong(t, fmt.Sprint("bare, of kind ", kind), impl.Say{Kind: kind})
	}
	sayIsWrong(t, "zero", impl.Say{})
}

func TestSayFrom(t *testing.T) {
	eachPlainSay(func(what string, s impl.Say) {
		for _, s.From = range noReplicas() {
			sayIsWrong(t, fmt.Sprint(what, " from ", s.From), s)
			for _, view := range []int64{s.From, -1, 0, 4} {
				led := s
				led.View = view
				sayIsWrong(t, fmt.Sprint(what, " from ", s.From, " in view ", view), led)
			}
		}
		for from := range int64(4) {
			before := s
			before.From = from
			right := !ledKind(s.Kind) && s.Kind != impl.SayChange || from == plainSay(s.Kind).From
			if right {
				sayIsRight(t, fmt.Sprint(what, " from ", from), before)
			} else {
				sayIsWrong(t, fmt.Sprint(what, " from ", from), before)
			}
		}
	})
}

func TestSayView(t *testing.T) {
	eachPlainSay(func(what string, s impl.Say) {
		for _, s.View = range noViews() {
			sayIsWrong(t, fmt.Sprint(what, " in view ", s.View), s)
			for from := range int64(4) {
				moved := clonedSay(s)
				moved.From = from
				for i := range moved.Changes {
					moved.Changes[i].View = moved.View
				}
				if len(moved.Changes) == 1 {
					moved.Changes[0].From = from
				}
				sayIsWrong(t, fmt.Sprint(what, " in view ", s.View, " from ", from), moved)
			}
		}
	})
	for from := range int64(4) {
		sayIsWrong(t, "SayChange to view 0", sayChange(from, 0, change(from, 0)))
		sayIsWrong(t, "SayChange in view 0 to view 1", sayChange(from, 0, change(from, 1)))
	}
	sayIsWrong(t, "SayNew of view 0", sayNew(0, ballots(0, 0, 1, 2)...))
	sayIsWrong(t, "SayNew of view 0 with changes to view 1", sayNew(0, ballots(1, 0, 1, 2)...))
}

func TestSaySeq(t *testing.T) {
	eachPlainSay(func(what string, s impl.Say) {
		for _, s.Seq = range append(noSeqs(), 1, 2, 3, 4, 5, 6) {
			name := fmt.Sprint(what, " with Seq ", s.Seq)
			if s.Seq >= 1 && s.Seq <= 6 && numberedKind(s.Kind) || s.Seq == 0 && !numberedKind(s.Kind) {
				sayIsRight(t, name, s)
			} else {
				sayIsWrong(t, name, s)
			}
		}
	})
}

func TestSayOp(t *testing.T) {
	eachPlainSay(func(what string, s impl.Say) {
		for _, s.Op = range goodOps() {
			name := what + " with Op " + shown(s.Op)
			if numberedKind(s.Kind) || s.Op == "" {
				sayIsRight(t, name, s)
			} else {
				sayIsWrong(t, name, s)
			}
		}
		for _, s.Op = range badOps() {
			sayIsWrong(t, fmt.Sprint(what, " with an Op of ", len(s.Op), " bytes"), s)
		}
	})
}

// Messages about a sequence number have no Changes, not even valid ones.
func TestNumberedSayWithChanges(t *testing.T) {
	for _, kind := range []int64{impl.SayPre, impl.SayPrepare, impl.SayCommit} {
		s := plainSay(kind)
		lists := map[string][]impl.Change{
			"one valid Change": {change(s.From, s.View)}, "a zero Change": {{}}, "three": ballots(s.View, 0, 1, 2), "five": ballots(s.View, 0, 1, 2, 3, 4),
		}
		for what, changes := range lists {
			s.Changes = changes
			sayIsWrong(t, fmt.Sprint("of kind ", kind, " with ", what), s)
		}
		s.Changes = []impl.Change{}
		sayIsRight(t, fmt.Sprint("of kind ", kind, " with an empty list"), s)
	}
}

func TestSayChangeChanges(t *testing.T) {
	for from := range int64(4) {
		for view := int64(1); view <= 7; view++ {
			what := fmt.Sprint("from ", from, " to ", view)
			sayIsRight(t, what, sayChange(from, view, change(from, view)))
			sayIsWrong(t, what+" without a Change", sayChange(from, view))
			sayIsWrong(t, what+" with a zero Change", sayChange(from, view, impl.Change{}))
			sayIsWrong(t, what+" with it twice", sayChange(from, view, ballots(view, from, from)...))
			for other := range int64(4) {
				if other != from {
					sayIsWrong(t, what+" with another From", sayChange(from, view, change(other, view)))
					sayIsWrong(t, what+" with two", sayChange(from, view, ballots(view, from, other)...))
					sayIsWrong(t, what+" with two", sayChange(from, view, ballots(view, other, from)...))
				}
			}
			for other := int64(-1); other <= 8; other++ {
				if other != view {
					sayIsWrong(t, what+" with another View", sayChange(from, view, change(from, other)))
				}
			}
			for _, voters := range allQuorums() {
				sayIsWrong(t, what+" with the Changes of a SayNew", sayChange(from, view, ballots(view, voters...)...))
			}
		}
	}
}

// All lists of voters, also in wrong order and with one twice.
func TestSayNewVoters(t *testing.T) {
	right := 0
	for _, view := range []int64{1, 4, 7} {
		eachList([]int64{-1, 0, 1, 2, 3, 4}, 5, func(l []int64) {
			s := sayNew(view, ballots(view, l...)...)
			if isQuorum(l) {
				right++
				sayIsRight(t, shown(s), s)
			} else {
				sayIsWrong(t, shown(s), s)
			}
		})
	}
	same(t, "valid ones seen", right, 3*5)
}

func TestSayNewChanges(t *testing.T) {
	for view := int64(1); view <= 7; view++ {
		for _, voters := range allQuorums() {
			what := fmt.Sprint("of view ", view, " with ", voters)
			s := sayNew(view, ballots(view, voters...)...)
			sayIsRight(t, what, s)
			for from := range int64(4) {
				if from != view%4 {
					other := s
					other.From = from
					sayIsWrong(t, fmt.Sprint(what, " from ", from), other)
				}
			}
			for i := range voters {
				for _, of := range []int64{-1, 0, view - 1, view + 1, 8} {
					other := clonedSay(s)
					other.Changes[i].View = of
					sayIsWrong(t, fmt.Sprint(what, " with Change ", i, " to ", of), other)
				}
				other := clonedSay(s)
				other.Changes[i] = impl.Change{}
				sayIsWrong(t, fmt.Sprint(what, " with a zero Change at ", i), other)
				for _, size := range []int{5, impl.MaxList, impl.MaxList + 1} {
					many := append(clonedSay(s).Changes, slices.Repeat(s.Changes[i:i+1], size)...)
					sayIsWrong(t, fmt.Sprint(what, " and more of Change ", i), sayNew(view, many[:size]...))
				}
			}
			sayIsWrong(t, what+", turned round", sayNew(view, ballots(view, turned(voters)...)...))
		}
		sayIsWrong(t, "with five", sayNew(view, ballots(view, 0, 1, 2, 3, 4)...))
		sayIsWrong(t, "with two", sayNew(view, ballots(view, 0, 1)...))
		sayIsWrong(t, "with none", sayNew(view))
	}
}

func turned(l []int64) []int64 {
	out := slices.Clone(l)
	slices.Reverse(out)
	return out
}

// changeLists are Changes that are valid in some message from the replica in
// the view, and others that nearly are.
func changeLists(from int64, view int64) [][]impl.Change {
	wrong := change(from, view, proof(view, 1, "", 0, 1, 2))
	right := change(from, view, proof(0, 1, "op", 0, 1, 2))
	return [][]impl.Change{
		nil, {change(from, view)}, {right}, {wrong}, {change(from+1, view)}, {change(from, view+1)}, {right, right},
		ballots(view, 0, 1), ballots(view, 0, 2, 3), ballots(view, 0, 1, 2, 3), ballots(view, 0, 1, 1), ballots(view, 2, 1, 0),
		ballots(view, 0, 1, 2, 3, 4), {change(0, view), change(1, view), change(2, view+1)}, append(ballots(view, 0, 1, 2), wrong),
	}
}

// Fields that are wrong together must not make up for each other.
func TestSaysOfEdgeFields(t *testing.T) {
	right := map[int64]int{}
	for _, from := range []int64{-1, 0, 1, 3, 4} {
		for _, view := range []int64{-1, 0, 1, 4, 7, 8} {
			for _, changes := range changeLists(from, view) {
				for kind := int64(0); kind <= 6; kind++ {
					for _, seq := range []int64{-1, 0, 1, 6, 7} {
						for _, op := range []string{"", "x", repeated(121)} {
							s := about(kind, from, view, seq, op)
							s.Changes = changes
							if rightSayWords(s) {
								right[kind]++
								sayIsRight(t, shown(s), s)
							} else {
								sayIsWrong(t, shown(s), s)
							}
						}
					}
				}
			}
		}
	}
	for _, kind := range kindsOfSays() {
		same(t, fmt.Sprint("valid ones of kind ", kind, " seen"), right[kind] > 5, true)
	}
}

func randomProofs(r *rand.Rand, view int64) []impl.Proof {
	var out []impl.Proof
	for seq := int64(1); seq <= 6; seq++ {
		if r.Intn(2) == 0 {
			out = append(out, proof(r.Int63n(view), seq, randomText(r, r.Intn(121)), allQuorums()[r.Intn(5)]...))
		}
	}
	return out
}

func randomSay(r *rand.Rand) impl.Say {
	kind, view := kindsOfSays()[r.Intn(5)], 1+r.Int63n(7)
	if kind == impl.SayChange {
		from := r.Int63n(4)
		return sayChange(from, view, change(from, view, randomProofs(r, view)...))
	}
	if kind == impl.SayNew {
		s := sayNew(view, ballots(view, allQuorums()[r.Intn(5)]...)...)
		for i := range s.Changes {
			s.Changes[i].Proofs = randomProofs(r, view)
		}
		return s
	}
	s := about(kind, r.Int63n(4), view-r.Int63n(2), 1+r.Int63n(6), randomText(r, r.Intn(121)))
	if kind == impl.SayPre {
		s.From = s.View % 4
	}
	return s
}

func TestSayIsDecoded(t *testing.T) {
	r := dice()
	seen := map[string]impl.Say{}
	for range 3000 {
		s := randomSay(r)
		sayIsRight(t, shown(s), s)
		before, there := seen[impl.SayBytes(s)]
		if there {
			sayIs(t, "messages of one encoding", s, before)
		}
		seen[impl.SayBytes(s)] = s
	}
}

// greatSay has the longest encoding that there is.
func greatSay() impl.Say {
	s := sayNew(7, ballots(7, 0, 1, 2, 3)...)
	for i := range s.Changes {
		for seq := int64(1); seq <= 6; seq++ {
			s.Changes[i].Proofs = append(s.Changes[i].Proofs, proof(6, seq, repeated(120), 0, 1, 2, 3))
		}
	}
	return s
}

func TestGreatSay(t *testing.T) {
	s := greatSay()
	sayIsRight(t, "the longest one", s)
	same(t, "bytes of the longest one", len(impl.SayBytes(s)), 6+4*(3+6*(2+122+1+4)))
	for i := range s.Changes {
		more := greatSay()
		more.Changes[i].Proofs[3].Op += "x"
		sayIsWrong(t, "with a byte more", more)
	}
}

// someSays are a few valid ones with every kind of field.
func someSays() map[string]impl.Say {
	says := map[string]impl.Say{
		"least SayPre":      about(impl.SayPre, 0, 0, 1, ""),
		"least SayChange":   sayChange(2, 1, change(2, 1)),
		"least SayNew":      sayNew(1, ballots(1, 0, 1, 2)...),
		"SayNew of four":    sayNew(6, ballots(6, 0, 1, 2, 3)...),
		"an Op of 64 bytes": about(impl.SayCommit, 3, 7, 6, repeated(64)),
	}
	eachPlainSay(func(what string, s impl.Say) { says[what] = s })
	return says
}

func TestCutSay(t *testing.T) {
	says := someSays()
	says["the longest one"] = greatSay()
	for what, s := range says {
		code := impl.SayBytes(s)
		for cut := range len(code) {
			sayUnread(t, fmt.Sprint(what, " cut at ", cut), code[:cut])
			sayUnread(t, fmt.Sprint(what, " without byte ", cut), code[:cut]+code[cut+1:])
		}
	}
	sayUnread(t, "of nothing", "")
}

func TestBytesBehindSay(t *testing.T) {
	for what, s := range someSays() {
		code := impl.SayBytes(s)
		for more := range 256 {
			sayUnread(t, fmt.Sprint(what, " before byte ", more), code+string([]byte{byte(more)}))
		}
		sayUnread(t, what+" before zeros", code+"\x00\x00\x00")
		sayUnread(t, what+" twice", code+code)
		sayUnread(t, what+" before many bytes", code+repeated(300))
	}
}

func TestLongerNumbersInSay(t *testing.T) {
	for what, s := range someSays() {
		fields := sayFields(s)
		for i := range fields {
			for more := 1; more < 11; more++ {
				changed := slices.Clone(fields)
				changed[i] = longer(fields[i], more)
				sayUnread(t, fmt.Sprint(what, " with field ", i, " longer by ", more), strings.Join(changed, ""))
			}
		}
	}
}

// A number that is none, is negative or is beyond every limit, in each field,
// also in each count.
func TestWrongNumbersInSay(t *testing.T) {
	ten := strings.Repeat("\x82", 9)
	wrong := []string{"\x80", "\xff", ten, ten + "\x02", ten + "\x7f", ten + "\x80\x00", ten + "\x82\x01"}
	for _, n := range []int64{-1, -2, -4, math.MinInt64, impl.MaxList, impl.MaxBytes + 1, 1 << 40, 1<<62 + 1, math.MaxInt64} {
		wrong = append(wrong, numCode(n))
	}
	for what, s := range someSays() {
		fields := sayFields(s)
		for i := range fields {
			_, size := binary.Varint([]byte(fields[i]))
			for _, number := range wrong {
				changed := slices.Clone(fields)
				changed[i] = number + fields[i][size:]
				sayUnread(t, fmt.Sprint(what, " with field ", i, " as ", shown(number)), strings.Join(changed, ""))
			}
			left := append(slices.Clone(fields[:i]), fields[i+1:]...)
			sayReadsExactly(t, strings.Join(left, ""))
		}
	}
}

// A negative number of elements must not pass for none, nor a great one for
// those that are there.
func TestWrongCountsInSay(t *testing.T) {
	numbered, bare := "\x04\x06\x00\x04\x02x", "\x08\x04\x02\x00\x00\x02\x04\x02"
	sayIsRight(t, "without Changes", impl.SayRead(numbered+"\x00").Say)
	sayIsRight(t, "without proofs", impl.SayRead(bare+"\x00").Say)
	three := "\x0a\x02\x02\x00\x00"
	voters := "\x00\x02\x00\x02\x02\x00\x04\x02\x00"
	sayIsRight(t, "of three", impl.SayRead(three+"\x06"+voters).Say)
	proofed := bare + "\x02\x00\x02\x02x"
	sayIsRight(t, "with a proof", impl.SayRead(proofed+"\x06\x00\x02\x04").Say)
	for _, n := range []int64{-1, -2, -3, -100, math.MinInt64, 1, 2, 4, 5, 6, 7, 9, 100, impl.MaxList, impl.MaxBytes, 1 << 32, 1<<32 + 3, math.MaxInt64} {
		count := numCode(n)
		sayUnread(t, fmt.Sprint(n, " Changes, none there"), numbered+count)
		sayUnread(t, fmt.Sprint(n, " proofs, none there"), bare+count)
		sayUnread(t, fmt.Sprint(n, " Changes, three there"), three+count+voters)
		sayUnread(t, fmt.Sprint(n, " elements of By, three there"), proofed+count+"\x00\x02\x04")
	}
	for _, n := range []int64{0, 3} {
		count := numCode(n)
		sayUnread(t, fmt.Sprint(n, " elements of By, two there"), proofed+count+"\x00\x02")
		sayUnread(t, fmt.Sprint(n, " Changes, two there"), three+count+voters[:6])
	}
}

func TestChangedSay(t *testing.T) {
	read, failed := 0, 0
	count := func(right bool) {
		if right {
			read++
		} else {
			failed++
		}
	}
	for _, s := range someSays() {
		code := impl.SayBytes(s)
		for i := range len(code) {
			for to := range 256 {
				count(sayReadsExactly(t, withByte(code, i, byte(to))))
			}
			for _, more := range []string{"\x00", "\x01", "\x02", "x", "\x80", "\xff"} {
				count(sayReadsExactly(t, code[:i]+more+code[i:]))
			}
			count(sayReadsExactly(t, code[i:]))
		}
	}
	r := dice()
	for range 5000 {
		code := []byte(impl.SayBytes(randomSay(r)))
		for range 1 + r.Intn(3) {
			code[r.Intn(len(code))] = byte(r.Intn(256) >> r.Intn(8))
		}
		count(sayReadsExactly(t, string(code)))
		count(sayReadsExactly(t, randomText(r, r.Intn(30))))
	}
	same(t, "both outcomes seen", read > 1000 && failed > 1000, true)
}

// All short strings of a few bytes.
func TestShortSays(t *testing.T) {
	read := 0
	eachList([]int64{0, 1, 2, 4, 6}, 7, func(l []int64) {
		text := ""
		for _, b := range l {
			text += string([]byte{byte(b)})
		}
		if sayReadsExactly(t, text) {
			read++
		}
	})
	same(t, "some were read", read > 10, true)
}

func TestSayReadSize(t *testing.T) {
	for what, s := range map[string]impl.Say{"little": about(impl.SayPre, 0, 0, 1, ""), "much": greatSay()} {
		code := impl.SayBytes(s)
		full := code + repeated(impl.MaxBytes-len(code))
		sayUnread(t, what+" and MaxBytes bytes", full)
		sayFails(t, what+" and one byte more", full+"x", impl.ErrSize)
		sayFails(t, what+" and far more bytes", full+full, impl.ErrSize)
	}
	for _, fill := range []string{"x", "\x00", "\x02", "\x80", "\xff"} {
		full := strings.Repeat(fill, impl.MaxBytes)
		sayUnread(t, "MaxBytes other bytes", full)
		sayFails(t, "one byte more", full+fill, impl.ErrSize)
	}
	s := about(impl.SayPrepare, 2, 0, 1, repeated(impl.MaxBytes-8))
	same(t, "bytes with a long Op", len(rightSay(s)), impl.MaxBytes)
	sayIsWrong(t, "of MaxBytes bytes", s)
	s.Op += "x"
	sayIsWrong(t, "of one byte more", s)
}

// Memory.

func sayStrings(s impl.Say) []string {
	out := []string{s.Op}
	for _, c := range s.Changes {
		for _, p := range c.Proofs {
			out = append(out, p.Op)
		}
	}
	return out
}

// roomySay is a copy with room behind all its lists, which is what an append
// to an argument would use.
func roomySay(s impl.Say) impl.Say {
	out := clonedSay(s)
	out.Changes = append(make([]impl.Change, 0, len(s.Changes)+3), out.Changes...)
	for i, c := range out.Changes {
		proofs := append(make([]impl.Proof, 0, len(c.Proofs)+3), c.Proofs...)
		for j, p := range proofs {
			proofs[j].By = append(make([]int64, 0, len(p.By)+3), p.By...)
		}
		out.Changes[i].Proofs = proofs
	}
	return out
}

func spoilNumbers(l []int64) {
	l = l[:cap(l)]
	for i := range l {
		l[i] = 77
	}
}

// spoilProofs overwrites a list of proofs, also the room behind it.
func spoilProofs(l []impl.Proof) {
	for _, p := range l {
		spoilNumbers(p.By)
	}
	l = l[:cap(l)]
	for i := range l {
		l[i] = proof(77, 77, "spoiled", 77)
	}
}

// saysOfAllKinds are valid and invalid ones.
func saysOfAllKinds() []impl.Say {
	out := []impl.Say{{}, greatSay(), about(impl.SayPre, 1, 0, 1, "x"), sayNew(5, ballots(5, 2, 1, 0)...), sayChange(1, 2, change(2, 1))}
	for _, proofs := range badProofLists(4) {
		out = append(out, sayChange(1, 4, change(1, 4, proofs...)))
	}
	for _, s := range someSays() {
		out = append(out, s)
	}
	return out
}

func TestSayLeavesArguments(t *testing.T) {
	for _, given := range saysOfAllKinds() {
		s := roomySay(given)
		right, code := impl.SayRight(s), impl.SayBytes(s)
		for _, c := range s.Changes {
			impl.ChangeRight(c)
			for _, p := range c.Proofs {
				impl.ProofRight(p)
				impl.OpRight(p.Op)
			}
		}
		sayIs(t, "argument", s, given)
		for _, c := range s.Changes[:cap(s.Changes)][len(s.Changes):] {
			changeIs(t, "room behind the Changes", c, impl.Change{})
		}
		for _, c := range s.Changes {
			for _, p := range c.Proofs[:cap(c.Proofs)][len(c.Proofs):] {
				proofIs(t, "room behind the proofs", p, impl.Proof{})
			}
			for _, p := range c.Proofs {
				same(t, "room behind By", slices.Max(append(p.By[len(p.By):cap(p.By)], 0)), 0)
			}
		}
		same(t, "SayRight again", impl.SayRight(s), right)
		same(t, "SayBytes again", impl.SayBytes(s), code)
		kept := strings.Clone(code)
		impl.SayRead(code)
		same(t, "encoding", code, kept)
	}
}

func TestSaySharesNoString(t *testing.T) {
	for _, given := range saysOfAllKinds() {
		s := clonedSay(given)
		code := impl.SayBytes(s)
		sharesNone(t, "SayBytes", []string{code}, append(sayStrings(s), impl.SayBytes(s)))
		got := sayStrings(impl.SayRead(code).Say)
		sharesNone(t, "SayRead", got, append(sayStrings(impl.SayRead(code).Say), code))
		for i := range got {
			sharesNone(t, "strings of SayRead", got[:i], got[i:])
		}
	}
}

// Each list of an answer is overwritten, and all others must stay.
func TestSaySharesNoList(t *testing.T) {
	s := greatSay()
	code := impl.SayBytes(s)
	for i := range s.Changes {
		got, other := impl.SayRead(code).Say, impl.SayRead(code).Say
		spoilProofs(got.Changes[i].Proofs)
		for j := range s.Changes {
			if j != i {
				changeIs(t, fmt.Sprint("Change ", j, " after ", i, " is spoiled"), got.Changes[j], s.Changes[j])
			}
		}
		sayIs(t, "another answer", other, s)
		for j := range s.Changes[i].Proofs {
			got = impl.SayRead(code).Say
			spoilNumbers(got.Changes[i].Proofs[j].By)
			got.Changes[i].Proofs[j].By = s.Changes[i].Proofs[j].By
			sayIs(t, fmt.Sprint("after By of ", i, ", ", j, " is spoiled"), got, s)
		}
	}
	got := impl.SayRead(code).Say
	clear(got.Changes[:cap(got.Changes)])
	sayIs(t, "a later answer", impl.SayRead(code).Say, s)
}
