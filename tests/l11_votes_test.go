package tests

import (
	"fmt"
	"math/rand"
	"slices"
	"strings"
	"testing"

	"loop.example/g00386/impl"
)

func vote(kind int64, view int64, seq int64, op string, from int64) impl.Vote {
	return impl.Vote{Kind: kind, View: view, Seq: seq, Op: op, From: from}
}

// votesBy are votes that only differ in their voters.
func votesBy(kind int64, view int64, seq int64, op string, voters ...int64) []impl.Vote {
	var out []impl.Vote
	for _, r := range voters {
		out = append(out, vote(kind, view, seq, op, r))
	}
	return out
}

func prepares(view int64, seq int64, op string, voters ...int64) []impl.Vote {
	return votesBy(impl.SayPrepare, view, seq, op, voters...)
}

func commits(view int64, seq int64, op string, voters ...int64) []impl.Vote {
	return votesBy(impl.SayCommit, view, seq, op, voters...)
}

func kindsOfVotes() []int64 {
	return []int64{impl.SayPrepare, impl.SayCommit}
}

func noKindsOfVotes() []int64 {
	return append(noKindsOfSays(), impl.SayPre, impl.SayChange, impl.SayNew)
}

// allVotes are as many as there can be: 2 kinds, 8 views, 6 numbers and 4
// voters make 384, which is less than MaxVotes.
func allVotes(op func(view int64, seq int64) string) []impl.Vote {
	var out []impl.Vote
	for _, kind := range kindsOfVotes() {
		for view := range int64(8) {
			for seq := int64(1); seq <= 6; seq++ {
				out = append(out, votesBy(kind, view, seq, op(view, seq), 0, 1, 2, 3)...)
			}
		}
	}
	return out
}

func numberedOp(view int64, seq int64) string {
	return fmt.Sprint("op ", view, " ", seq)
}

// sizedVotes are as many votes as wanted, of which none is wrong by itself.
func sizedVotes(size int) []impl.Vote {
	all := allVotes(numberedOp)
	return slices.Concat(all, all, all)[:size]
}

// Chapter 12 in its own words.

func rightVoteWords(v impl.Vote) bool {
	views, seqs := []int64{0, 1, 2, 3, 4, 5, 6, 7}, []int64{1, 2, 3, 4, 5, 6}
	return slices.Contains([]int64{2, 3}, v.Kind) && slices.Contains(views, v.View) && slices.Contains(seqs, v.Seq) &&
		len(v.Op) < 121 && slices.Contains([]int64{0, 1, 2, 3}, v.From)
}

// sameFour tells whether two votes have the same Kind, View, Seq and From.
func sameFour(a impl.Vote, b impl.Vote) bool {
	a.Op, b.Op = "", ""
	return a == b
}

func hasFour(l []impl.Vote, v impl.Vote) bool {
	return slices.ContainsFunc(l, func(of impl.Vote) bool { return sameFour(of, v) })
}

func rightVotesWords(l []impl.Vote) bool {
	for i, v := range l {
		if !rightVoteWords(v) || hasFour(l[:i], v) {
			return false
		}
	}
	return len(l) < 401
}

// The following take valid votes only.

func votersWords(l []impl.Vote, kind int64, view int64, seq int64, op string) []int64 {
	var out []int64
	for _, v := range l {
		if v == vote(kind, view, seq, op, v.From) {
			out = append(out, v.From)
		}
	}
	slices.Sort(out)
	return out
}

func proofWords(l []impl.Vote, view int64, seq int64, op string) impl.Proof {
	voters := votersWords(l, impl.SayPrepare, view, seq, op)
	if len(voters) < 3 {
		return impl.Proof{}
	}
	return proof(view, seq, op, voters...)
}

func opsOf(l []impl.Vote) []string {
	var out []string
	for _, v := range l {
		out = append(out, v.Op)
	}
	slices.Sort(out)
	return slices.Compact(out)
}

func preparedWords(l []impl.Vote, seq int64) impl.Proof {
	for view := int64(7); view >= 0; view-- {
		for _, op := range opsOf(l) {
			if p := proofWords(l, view, seq, op); p.By != nil {
				return p
			}
		}
	}
	return impl.Proof{}
}

func decidedWords(l []impl.Vote, seq int64) (string, bool) {
	for view := range int64(8) {
		for _, op := range opsOf(l) {
			if len(votersWords(l, impl.SayCommit, view, seq, op)) >= 3 {
				return op, true
			}
		}
	}
	return "", false
}

// Comparison.

func votesAre(t *testing.T, what string, got []impl.Vote, want []impl.Vote) {
	t.Helper()
	if !slices.Equal(got, want) {
		t.Errorf("%s: got %s, want %s", what, shown(got), shown(want))
	}
}

func votersAre(t *testing.T, what string, got []int64, want ...int64) {
	t.Helper()
	if !slices.Equal(got, want) {
		t.Errorf("%s: got %v, want %v", what, got, want)
	}
}

func addsNew(t *testing.T, what string, l []impl.Vote, v impl.Vote) {
	t.Helper()
	got := impl.VoteAdd(l, v)
	same(t, "Code "+what, got.Code, impl.OK)
	same(t, "New "+what, got.New, true)
	votesAre(t, "Votes "+what, got.Votes, append(slices.Clone(l), v))
}

func addsNothing(t *testing.T, what string, l []impl.Vote, v impl.Vote) {
	t.Helper()
	got := impl.VoteAdd(l, v)
	same(t, "Code "+what, got.Code, impl.OK)
	same(t, "New "+what, got.New, false)
	votesAre(t, "Votes "+what, got.Votes, l)
}

func addFails(t *testing.T, what string, l []impl.Vote, v impl.Vote, code int64) {
	t.Helper()
	got := impl.VoteAdd(l, v)
	same(t, "Code "+what, got.Code, code)
	same(t, "New "+what, got.New, false)
	same(t, "number of Votes "+what, len(got.Votes), 0)
}

// addIs requires of VoteAdd what the model says.
func addIs(t *testing.T, what string, l []impl.Vote, v impl.Vote) {
	t.Helper()
	switch {
	case len(l) > 400:
		addFails(t, what, l, v, impl.ErrSize)
	case !rightVotesWords(l) || !rightVoteWords(v):
		addFails(t, what, l, v, impl.ErrForm)
	case hasFour(l, v):
		addsNothing(t, what, l, v)
	default:
		addsNew(t, what, l, v)
	}
}

// answersAre requires of valid votes, for a number, what the model says.
func answersAre(t *testing.T, what string, l []impl.Vote, seq int64) {
	t.Helper()
	what = fmt.Sprint(what, " for ", seq)
	proofIs(t, "Prepared "+what, impl.Prepared(l, seq), preparedWords(l, seq))
	op, decided := decidedWords(l, seq)
	same(t, "Decided "+what, impl.Decided(l, seq), decided)
	same(t, "OpOf "+what, impl.OpOf(l, seq), op)
	for view := range int64(8) {
		for _, op := range append(opsOf(l), "another") {
			at := fmt.Sprint(what, " and ", view, ", ", op)
			for _, kind := range kindsOfVotes() {
				votersAre(t, fmt.Sprint("Voters of kind ", kind, " ", at), impl.Voters(l, kind, view, seq, op), votersWords(l, kind, view, seq, op)...)
			}
			proofIs(t, "ProofOf "+at, impl.ProofOf(l, view, seq, op), proofWords(l, view, seq, op))
		}
	}
}

// answersNothing requires the zero results for each number.
func answersNothing(t *testing.T, what string, l []impl.Vote, kind int64, view int64, seq int64, op string) {
	t.Helper()
	votersAre(t, "Voters "+what, impl.Voters(l, kind, view, seq, op))
	proofIs(t, "ProofOf "+what, impl.ProofOf(l, view, seq, op), impl.Proof{})
	for of := int64(-1); of <= 8; of++ {
		proofIs(t, fmt.Sprint("Prepared ", what, " for ", of), impl.Prepared(l, of), impl.Proof{})
		same(t, fmt.Sprint("Decided ", what, " for ", of), impl.Decided(l, of), false)
		same(t, fmt.Sprint("OpOf ", what, " for ", of), impl.OpOf(l, of), "")
	}
}

// votesAreWrong requires that nothing is made of invalid votes. By their Op
// they should be votes for "op" in view 2 under number 3, of both kinds.
func votesAreWrong(t *testing.T, what string, l []impl.Vote) {
	t.Helper()
	same(t, "VotesRight "+what, impl.VotesRight(l), false)
	for _, kind := range kindsOfVotes() {
		answersNothing(t, what, l, kind, 2, 3, "op")
		addIs(t, what+" and a vote that is there", l, vote(kind, 2, 3, "op", 0))
		addIs(t, what+" and a vote with another Op", l, vote(kind, 2, 3, "other", 0))
		addIs(t, what+" and a vote that is not there", l, vote(kind, 7, 6, "op", 3))
	}
	addIs(t, what+" and the zero vote", l, impl.Vote{})
}

// twoQuorums are six votes for "op" in view 2 under number 3.
func twoQuorums() []impl.Vote {
	return append(prepares(2, 3, "op", 0, 1, 2), commits(2, 3, "op", 0, 1, 2)...)
}

func TestExamplesOfChapter12(t *testing.T) {
	l := prepares(1, 1, "a", 0, 1, 2)
	addsNothing(t, "of replica 0 for b", l, vote(impl.SayPrepare, 1, 1, "b", 0))
	same(t, "View of Prepared", impl.Prepared(l, 1).View, 1)
	same(t, "Decided before", impl.Decided(l, 1), false)
	for from := int64(1); from < 4; from++ {
		l = impl.VoteAdd(l, vote(impl.SayCommit, 1, 1, "a", from)).Votes
	}
	same(t, "Decided", impl.Decided(l, 1), true)
	same(t, "OpOf", impl.OpOf(l, 1), "a")
}

func TestConstantsOfChapter12(t *testing.T) {
	same(t, "MaxVotes", impl.MaxVotes, 400)
}

// Validity.

func TestRightVotes(t *testing.T) {
	for _, l := range [][]impl.Vote{nil, {}, twoQuorums(), allVotes(numberedOp)} {
		same(t, fmt.Sprint("VotesRight of ", len(l)), impl.VotesRight(l), true)
	}
	for _, v := range allVotes(numberedOp) {
		for _, v.Op = range goodOps() {
			same(t, "VotesRight of "+shown(v), impl.VotesRight([]impl.Vote{v}), true)
			addsNew(t, shown(v), nil, v)
		}
	}
}

// wrongVotes have one field each that is wrong.
func wrongVotes() []impl.Vote {
	var out []impl.Vote
	for _, kind := range noKindsOfVotes() {
		out = append(out, vote(kind, 3, 2, "op", 1))
	}
	for _, kind := range kindsOfVotes() {
		for _, view := range noViews() {
			out = append(out, vote(kind, view, 2, "op", 1))
		}
		for _, seq := range noSeqs() {
			out = append(out, vote(kind, 3, seq, "op", 1))
		}
		for _, op := range badOps() {
			out = append(out, vote(kind, 3, 2, op, 1))
		}
		for _, from := range noReplicas() {
			out = append(out, vote(kind, 3, 2, "op", from))
		}
	}
	return append(out, impl.Vote{})
}

func TestWrongVotes(t *testing.T) {
	for _, v := range wrongVotes() {
		what := shown(v)
		same(t, "model of "+what, rightVoteWords(v), false)
		addFails(t, "to no votes "+what, nil, v, impl.ErrForm)
		addFails(t, "to some votes "+what, twoQuorums(), v, impl.ErrForm)
		addFails(t, "to all votes "+what, allVotes(numberedOp), v, impl.ErrForm)
		votesAreWrong(t, "alone "+what, []impl.Vote{v})
		for _, at := range []int{0, 1, 3, 5, 6} {
			votesAreWrong(t, fmt.Sprint("at ", at, " ", what), slices.Insert(twoQuorums(), at, v))
		}
	}
}

// Fields that are wrong together must not make up for each other.
func TestVotesOfEdgeFields(t *testing.T) {
	right := 0
	for kind := int64(0); kind <= 6; kind++ {
		for _, view := range []int64{-1, 0, 1, impl.MaxView, impl.MaxView + 1} {
			for _, seq := range []int64{-1, 0, 1, impl.MaxSeq, impl.MaxSeq + 1} {
				for _, op := range []string{"", "x", repeated(120), repeated(121)} {
					for _, from := range []int64{-1, 0, 3, 4} {
						v := vote(kind, view, seq, op, from)
						want := rightVoteWords(v)
						same(t, "VotesRight of "+shown(v), impl.VotesRight([]impl.Vote{v}), want)
						addIs(t, shown(v), nil, v)
						addIs(t, "to some votes "+shown(v), twoQuorums(), v)
						if want {
							right++
						}
					}
				}
			}
		}
	}
	same(t, "valid ones seen", right, 2*3*2*3*2)
}

// Two votes may have three of Kind, View, Seq and From in common, but not four,
// whatever is between them and whatever their operations are.
func TestTwoVotes(t *testing.T) {
	first := vote(impl.SayPrepare, 2, 3, "op", 1)
	for _, kind := range kindsOfVotes() {
		for _, view := range []int64{2, 3} {
			for _, seq := range []int64{3, 2} {
				for _, from := range []int64{1, 0} {
					for _, op := range []string{"op", "other", "", "op\x00", repeated(120)} {
						second := vote(kind, view, seq, op, from)
						far := slices.Concat([]impl.Vote{first}, prepares(5, 5, "op", 0, 1, 2, 3), []impl.Vote{second})
						want := !sameFour(first, second)
						same(t, "VotesRight with "+shown(second), impl.VotesRight([]impl.Vote{first, second}), want)
						same(t, "VotesRight with it in front "+shown(second), impl.VotesRight([]impl.Vote{second, first}), want)
						same(t, "VotesRight with it far behind "+shown(second), impl.VotesRight(far), want)
						addIs(t, "behind one "+shown(second), far[:1], second)
						addIs(t, "behind others "+shown(second), far[:5], second)
					}
				}
			}
		}
	}
}

func TestOneVoteTwice(t *testing.T) {
	for i, v := range twoQuorums() {
		for _, v.Op = range []string{"op", "other", ""} {
			for at := range 7 {
				votesAreWrong(t, fmt.Sprint("with vote ", i, " again at ", at, " for ", v.Op), slices.Insert(twoQuorums(), at, v))
			}
		}
	}
}

// Limits. There are only 384 votes that can be together, so no valid votes are
// as many as MaxVotes.

func TestAllVotes(t *testing.T) {
	all := allVotes(numberedOp)
	same(t, "number of them", len(all), 384)
	same(t, "VotesRight", impl.VotesRight(all), true)
	for i, v := range all {
		addsNothing(t, "again "+shown(v), all, v)
		less := slices.Delete(slices.Clone(all), i, i+1)
		addsNew(t, "to all others "+shown(v), less, v)
		v.Op = "other"
		addsNothing(t, "with another Op "+shown(v), all, v)
		addsNew(t, "with another Op to all others "+shown(v), less, v)
	}
	for seq := int64(1); seq <= 6; seq++ {
		answersAre(t, "of all", all, seq)
		proofIs(t, "Prepared of all", impl.Prepared(all, seq), proof(7, seq, numberedOp(7, seq), 0, 1, 2, 3))
		same(t, "OpOf of all", impl.OpOf(all, seq), numberedOp(0, seq))
	}
}

func TestAllVotesOneByOne(t *testing.T) {
	all := allVotes(numberedOp)
	dice().Shuffle(len(all), func(i int, j int) { all[i], all[j] = all[j], all[i] })
	var l []impl.Vote
	for i, v := range all {
		addsNew(t, fmt.Sprint("vote ", i), l, v)
		l = impl.VoteAdd(l, v).Votes
	}
	votesAre(t, "all of them", l, all)
}

func TestVotesBeyondAll(t *testing.T) {
	for _, size := range []int{385, 386, impl.MaxVotes - 1, impl.MaxVotes} {
		l := sizedVotes(size)
		votesAreWrong(t, fmt.Sprint(size, " votes"), l)
		addFails(t, fmt.Sprint("that is there to ", size), l, l[0], impl.ErrForm)
		addFails(t, fmt.Sprint("that is twice there to ", size), l, l[size-1], impl.ErrForm)
		addFails(t, fmt.Sprint("that is wrong to ", size), l, impl.Vote{}, impl.ErrForm)
		// One operation more for a number makes no room.
		l[size-1].Op = "other"
		votesAreWrong(t, fmt.Sprint(size, " votes, one with another Op"), l)
	}
}

func TestVotesBeyondLimit(t *testing.T) {
	for _, size := range []int{impl.MaxVotes + 1, impl.MaxVotes + 2, 2*impl.MaxVotes + 1, 1000} {
		lists := map[string][]impl.Vote{
			"of all":      sizedVotes(size),
			"zero":        make([]impl.Vote, size),
			"of one":      slices.Repeat(prepares(2, 3, "op", 0), size),
			"quorum then": append(twoQuorums(), make([]impl.Vote, size-6)...),
		}
		for what, l := range lists {
			what = fmt.Sprint(size, " votes, ", what)
			votesAreWrong(t, what, l)
			addFails(t, "the first again, "+what, l, l[0], impl.ErrSize)
			addFails(t, "another, "+what, l, vote(impl.SayCommit, 6, 6, "other", 3), impl.ErrSize)
			for _, v := range wrongVotes() {
				addFails(t, shown(v)+", "+what, l, v, impl.ErrSize)
			}
		}
	}
	many := slices.Repeat(twoQuorums(), 100_000)
	votesAreWrong(t, "far too many votes", many)
	answersNothing(t, "of far too many votes", many, impl.SayCommit, 2, 3, repeated(impl.MaxBytes+1))
}

// The size comes first, then the form, then the room.
func TestVoteAddOrderOfChecks(t *testing.T) {
	right, wrong := vote(impl.SayCommit, 2, 3, "op", 1), vote(impl.SayPre, 2, 3, "op", 1)
	long := vote(impl.SayCommit, 2, 3, repeated(impl.MaxBytes+1), 1)
	invalid := append(twoQuorums(), impl.Vote{})
	addFails(t, "wrong to valid votes", twoQuorums(), wrong, impl.ErrForm)
	addFails(t, "with a long Op to valid votes", twoQuorums(), long, impl.ErrForm)
	addFails(t, "right to invalid votes", invalid, right, impl.ErrForm)
	addFails(t, "wrong to invalid votes", invalid, wrong, impl.ErrForm)
	addFails(t, "wrong to MaxVotes", sizedVotes(impl.MaxVotes), wrong, impl.ErrForm)
	addFails(t, "right to MaxVotes", sizedVotes(impl.MaxVotes), right, impl.ErrForm)
	addFails(t, "with a long Op to MaxVotes", sizedVotes(impl.MaxVotes), long, impl.ErrForm)
	addFails(t, "right to more", sizedVotes(impl.MaxVotes+1), right, impl.ErrSize)
	addFails(t, "wrong to more", sizedVotes(impl.MaxVotes+1), wrong, impl.ErrSize)
	addFails(t, "with a long Op to more", sizedVotes(impl.MaxVotes+1), long, impl.ErrSize)
	// A vote with the four of another one is not looked at before its own form.
	for _, v := range twoQuorums() {
		v.Op = repeated(121)
		addFails(t, "that is there, with an Op of 121 bytes", twoQuorums(), v, impl.ErrForm)
	}
}

// Voters.

// All orders in which votes can come, and lists with one of them twice.
func TestVotersInAnyOrder(t *testing.T) {
	for _, kind := range kindsOfVotes() {
		eachList([]int64{0, 1, 2, 3}, 5, func(l []int64) {
			votes := append(votesBy(kind, 4, 5, "op", l...), votesBy(kind, 4, 6, "op", 3, 2, 1, 0)...)
			want := slices.Compact(slices.Sorted(slices.Values(l)))
			if len(want) < len(l) {
				want = nil
			}
			votersAre(t, fmt.Sprint("Voters of kind ", kind, " in order ", l), impl.Voters(votes, kind, 4, 5, "op"), want...)
		})
	}
}

// Only a vote that has everything counts.
func TestVotersTellApart(t *testing.T) {
	l := slices.Concat(
		prepares(2, 3, "op", 1, 0), commits(2, 3, "op", 3, 2), prepares(1, 3, "op", 2), prepares(3, 3, "op", 3),
		prepares(2, 2, "op", 2), prepares(2, 4, "op", 3), prepares(2, 3, "other", 2), prepares(2, 3, "o", 3))
	votersAre(t, "prepares", impl.Voters(l, impl.SayPrepare, 2, 3, "op"), 0, 1)
	votersAre(t, "commits", impl.Voters(l, impl.SayCommit, 2, 3, "op"), 2, 3)
	votersAre(t, "view 1", impl.Voters(l, impl.SayPrepare, 1, 3, "op"), 2)
	votersAre(t, "view 3", impl.Voters(l, impl.SayPrepare, 3, 3, "op"), 3)
	votersAre(t, "number 2", impl.Voters(l, impl.SayPrepare, 2, 2, "op"), 2)
	votersAre(t, "number 4", impl.Voters(l, impl.SayPrepare, 2, 4, "op"), 3)
	votersAre(t, "other", impl.Voters(l, impl.SayPrepare, 2, 3, "other"), 2)
	votersAre(t, "o", impl.Voters(l, impl.SayPrepare, 2, 3, "o"), 3)
	for _, op := range []string{"", "OP", "op ", "op\x00", "p", "oth"} {
		votersAre(t, "no such op", impl.Voters(l, impl.SayPrepare, 2, 3, op))
	}
	for seq := range int64(8) {
		answersAre(t, "of mixed votes", l, seq)
		same(t, "Decided", impl.Decided(l, seq), false)
		proofIs(t, "Prepared", impl.Prepared(l, seq), impl.Proof{})
	}
}

// Nobody votes for what no vote can have, even if everybody has voted for all.
func TestWhatNoVoteCanHave(t *testing.T) {
	for _, op := range []string{"op", ""} {
		all := allVotes(func(int64, int64) string { return op })
		for _, kind := range noKindsOfVotes() {
			votersAre(t, fmt.Sprint("Voters of kind ", kind), impl.Voters(all, kind, 1, 1, op))
		}
		for _, view := range noViews() {
			votersAre(t, fmt.Sprint("Voters of view ", view), impl.Voters(all, impl.SayPrepare, view, 1, op))
			votersAre(t, fmt.Sprint("Voters of view ", view), impl.Voters(all, impl.SayCommit, view, 1, op))
			proofIs(t, fmt.Sprint("ProofOf view ", view), impl.ProofOf(all, view, 1, op), impl.Proof{})
		}
		for _, seq := range noSeqs() {
			votersAre(t, fmt.Sprint("Voters for ", seq), impl.Voters(all, impl.SayPrepare, 1, seq, op))
			votersAre(t, fmt.Sprint("Voters for ", seq), impl.Voters(all, impl.SayCommit, 1, seq, op))
			proofIs(t, fmt.Sprint("ProofOf ", seq), impl.ProofOf(all, 1, seq, op), impl.Proof{})
			proofIs(t, fmt.Sprint("Prepared for ", seq), impl.Prepared(all, seq), impl.Proof{})
			same(t, fmt.Sprint("Decided for ", seq), impl.Decided(all, seq), false)
			same(t, fmt.Sprint("OpOf ", seq), impl.OpOf(all, seq), "")
		}
		for _, bad := range append(badOps(), repeated(2*impl.MaxBytes), "other") {
			votersAre(t, fmt.Sprint("Voters of ", len(bad), " bytes"), impl.Voters(all, impl.SayPrepare, 1, 1, bad))
			votersAre(t, fmt.Sprint("Voters of ", len(bad), " bytes"), impl.Voters(all, impl.SayCommit, 1, 1, bad))
			proofIs(t, fmt.Sprint("ProofOf ", len(bad), " bytes"), impl.ProofOf(all, 1, 1, bad), impl.Proof{})
		}
	}
	for seq := range int64(8) {
		answersAre(t, "of no votes", nil, seq)
	}
	answersNothing(t, "of no votes", nil, impl.SayPrepare, 0, 1, "")
	answersNothing(t, "of no votes, with fields of the zero vote", nil, 0, 0, 0, "")
}

// Proofs and decisions.

// All sets of voters, in rising and falling order.
func TestQuorumsOfVotes(t *testing.T) {
	for some := range 16 {
		var voters []int64
		for r := range int64(4) {
			if some>>r&1 == 1 {
				voters = append(voters, r)
			}
		}
		enough := len(voters) > 2
		for _, op := range goodOps() {
			for _, l := range [][]int64{voters, turned(voters)} {
				what := fmt.Sprint(shown(op), " by ", l)
				prepared, decided := prepares(6, 4, op, l...), commits(6, 4, op, l...)
				want, told := impl.Proof{}, ""
				if enough {
					want, told = proof(6, 4, op, voters...), op
				}
				proofIs(t, "ProofOf "+what, impl.ProofOf(prepared, 6, 4, op), want)
				proofIs(t, "Prepared "+what, impl.Prepared(prepared, 4), want)
				same(t, "Decided "+what, impl.Decided(decided, 4), enough)
				same(t, "OpOf "+what, impl.OpOf(decided, 4), told)
				// The votes of one kind do nothing for the other.
				proofIs(t, "ProofOf commits "+what, impl.ProofOf(decided, 6, 4, op), impl.Proof{})
				proofIs(t, "Prepared of commits "+what, impl.Prepared(decided, 4), impl.Proof{})
				same(t, "Decided by prepares "+what, impl.Decided(prepared, 4), false)
				same(t, "OpOf prepares "+what, impl.OpOf(prepared, 4), "")
			}
		}
	}
}

// Three votes are no quorum if they are of different kinds, views, numbers or
// operations.
func TestVotesDoNotAddUp(t *testing.T) {
	lists := map[string][]impl.Vote{
		"two kinds":        append(prepares(2, 3, "op", 0, 1), commits(2, 3, "op", 2, 3)...),
		"two and two":      append(prepares(2, 3, "op", 0, 1), commits(2, 3, "op", 0, 1)...),
		"two views":        append(prepares(2, 3, "op", 0, 1), prepares(1, 3, "op", 2, 3)...),
		"two numbers":      append(prepares(2, 3, "op", 0, 1), prepares(2, 2, "op", 2, 3)...),
		"two operations":   append(prepares(2, 3, "op", 0, 1), prepares(2, 3, "", 2, 3)...),
		"commits of views": append(commits(2, 3, "op", 0, 1), commits(3, 3, "op", 2, 3)...),
		"commits of ops":   append(commits(2, 3, "op", 0, 1), commits(2, 3, "", 2, 3)...),
		"commits for":      append(commits(2, 3, "op", 0, 1), commits(2, 4, "op", 2, 3)...),
		"in every view":    nil,
	}
	for view := range int64(8) {
		for _, kind := range kindsOfVotes() {
			lists["in every view"] = append(lists["in every view"], votesBy(kind, view, 3, "op", view%4, (view+1)%4)...)
		}
	}
	for what, l := range lists {
		same(t, "VotesRight of "+what, impl.VotesRight(l), true)
		answersNothing(t, "of "+what, l, impl.SayPre, 2, 3, "op")
		for seq := range int64(8) {
			answersAre(t, "of "+what, l, seq)
		}
	}
}

// The greatest View counts for a proof, the least one for a decision, in any
// order of the votes and whatever the operations are.
func TestWhichViewCounts(t *testing.T) {
	r := dice()
	opLists := [][]string{{"b", "b", "b"}, {"a", "b", "c"}, {"c", "b", "a"}, {"b", "", "a"}, {"", "a", ""}, {"a", "", ""}}
	for _, views := range [][]int64{{0, 1, 2}, {1, 4, 6}, {0, 3, 7}, {5, 6, 7}} {
		for _, ops := range opLists {
			for some := range 8 {
				var l []impl.Vote
				last, first := impl.Proof{}, ""
				for i, view := range views {
					if some>>i&1 == 0 {
						// Two votes in a view are no quorum.
						l = slices.Concat(l, prepares(view, 2, ops[i], 1, 3), commits(view, 2, ops[i], 0, 2))
						continue
					}
					l = slices.Concat(l, prepares(view, 2, ops[i], 0, 1, 3), commits(view, 2, ops[i], 1, 2, 3))
					last = proof(view, 2, ops[i], 0, 1, 3)
				}
				for i := range views {
					if at := 2 - i; some>>at&1 == 1 {
						first = ops[at]
					}
				}
				for range 4 {
					r.Shuffle(len(l), func(i int, j int) { l[i], l[j] = l[j], l[i] })
					what := fmt.Sprint("with ", some, " of views ", views, " for ", ops)
					proofIs(t, "Prepared "+what, impl.Prepared(l, 2), last)
					same(t, "Decided "+what, impl.Decided(l, 2), some > 0)
					same(t, "OpOf "+what, impl.OpOf(l, 2), first)
				}
			}
		}
	}
}

// Each number has its own proof and decision.
func TestNumbersApart(t *testing.T) {
	var l []impl.Vote
	for seq := int64(1); seq <= 6; seq++ {
		l = slices.Concat(l, prepares(seq, seq, numberedOp(0, seq), 3, 2, 1), commits(7-seq, seq, numberedOp(1, seq), 0, 1, 2))
	}
	for seq := int64(1); seq <= 6; seq++ {
		answersAre(t, "of all numbers", l, seq)
		proofIs(t, "Prepared", impl.Prepared(l, seq), proof(seq, seq, numberedOp(0, seq), 1, 2, 3))
		same(t, "OpOf", impl.OpOf(l, seq), numberedOp(1, seq))
		var less []impl.Vote
		for _, v := range l {
			if v.Seq != seq {
				less = append(less, v)
			}
		}
		proofIs(t, "Prepared without its votes", impl.Prepared(less, seq), impl.Proof{})
		same(t, "Decided without its votes", impl.Decided(less, seq), false)
		same(t, "OpOf without its votes", impl.OpOf(less, seq), "")
	}
}

func TestEmptyOperation(t *testing.T) {
	l := append(prepares(0, 1, "", 0, 1, 2), commits(0, 1, "", 1, 2, 3)...)
	votersAre(t, "Voters", impl.Voters(l, impl.SayPrepare, 0, 1, ""), 0, 1, 2)
	proofIs(t, "ProofOf", impl.ProofOf(l, 0, 1, ""), proof(0, 1, "", 0, 1, 2))
	proofIs(t, "Prepared", impl.Prepared(l, 1), proof(0, 1, "", 0, 1, 2))
	same(t, "Decided", impl.Decided(l, 1), true)
	same(t, "OpOf", impl.OpOf(l, 1), "")
	// It is decided all the same, so a later view does not count.
	l = append(l, commits(1, 1, "op", 0, 1, 2)...)
	same(t, "OpOf beside a later one", impl.OpOf(l, 1), "")
	l = append(l, prepares(1, 1, "", 0, 1)...)
	proofIs(t, "Prepared beside two later votes", impl.Prepared(l, 1), proof(0, 1, "", 0, 1, 2))
}

// All ways in which four replicas can vote in two views.
func TestAllVotesOfTwoViews(t *testing.T) {
	ops := []string{"", "a", "b"}
	for way := range 4 * 4 * 4 * 4 * 4 * 4 * 4 * 4 {
		kind := kindsOfVotes()[way%2]
		var l []impl.Vote
		for i := range int64(8) {
			pick := way >> (2 * i) & 3
			if pick < 3 {
				l = append(l, vote(kind, 3+i/4, 5, ops[pick], i%4))
			}
		}
		what := fmt.Sprint("way ", way)
		proofIs(t, "Prepared "+what, impl.Prepared(l, 5), preparedWords(l, 5))
		op, decided := decidedWords(l, 5)
		same(t, "Decided "+what, impl.Decided(l, 5), decided)
		same(t, "OpOf "+what, impl.OpOf(l, 5), op)
	}
}

// Promises 20 and 21.

// randomVotes have few views, numbers and operations, so that there are
// quorums, and for some voters more than one operation to choose from.
func randomVotes(r *rand.Rand, many int) []impl.Vote {
	views, seqs, ops := 1+r.Int63n(8), 1+r.Int63n(6), 1+r.Intn(3)
	var out []impl.Vote
	for range many {
		out = append(out, vote(2+r.Int63n(2), r.Int63n(views), 1+r.Int63n(seqs), []string{"a", "", repeated(120)}[r.Intn(ops)], r.Int63n(4)))
	}
	return out
}

func TestAddedIsAmongVotes(t *testing.T) {
	r := dice()
	added, old := 0, 0
	for range 300 {
		var l []impl.Vote
		for i, v := range randomVotes(r, 1+r.Intn(100)) {
			what := fmt.Sprint("vote ", i, ": ", shown(v))
			before := hasFour(l, v)
			addIs(t, what, l, v)
			out := impl.VoteAdd(l, v)
			same(t, "New of "+what, out.New, !before)
			same(t, "there is one with these four, "+what, hasFour(out.Votes, v), true)
			if before {
				old++
			} else {
				added++
				votersNow := impl.Voters(out.Votes, v.Kind, v.View, v.Seq, v.Op)
				same(t, "it is among the votes, "+what, slices.Contains(out.Votes, v), true)
				same(t, "its voter is among the voters, "+what, slices.Contains(votersNow, v.From), true)
			}
			addsNothing(t, "again "+what, out.Votes, v)
			l = out.Votes
			same(t, "VotesRight after "+what, impl.VotesRight(l), true)
		}
	}
	same(t, "both outcomes seen", added > 1000 && old > 1000, true)
}

func TestVotesOfReplicaStay(t *testing.T) {
	for _, voted := range twoQuorums() {
		for _, op := range goodOps() {
			again := voted
			again.Op = op
			addsNothing(t, shown(again), twoQuorums(), again)
		}
		for from := range int64(4) {
			v := voted
			v.From, v.Op = from, "other"
			addIs(t, shown(v), twoQuorums(), v)
		}
	}
	addsNew(t, "of the last replica", twoQuorums(), vote(impl.SayPrepare, 2, 3, "other", 3))
}

// proofsFor are all proofs for one view and number of the votes of a list.
func proofsFor(l []impl.Vote, view int64, seq int64) []impl.Proof {
	var out []impl.Proof
	for _, op := range append(opsOf(l), "another") {
		if p := impl.ProofOf(l, view, seq, op); len(p.By) > 0 {
			out = append(out, p)
		}
	}
	return out
}

// proofsAgree requires that there is at most one proof, by exactly those who
// voted for it; it returns their number.
func proofsAgree(t *testing.T, l []impl.Vote, view int64, seq int64) int {
	t.Helper()
	proofs := proofsFor(l, view, seq)
	if len(proofs) > 1 {
		t.Errorf("proofs for view %d and number %d: %s", view, seq, shown(proofs))
	}
	for _, p := range proofs {
		same(t, "ProofRight of "+shown(p), impl.ProofRight(p), true)
		votersAre(t, "By of "+shown(p), p.By, impl.Voters(l, impl.SayPrepare, view, seq, p.Op)...)
		votersAre(t, "By of the model of "+shown(p), p.By, votersWords(l, impl.SayPrepare, view, seq, p.Op)...)
		same(t, "View, Seq of "+shown(p), p.View == view && p.Seq == seq, true)
	}
	return len(proofs)
}

// All ways in which four replicas can try to vote twice each, for one of two
// operations or not at all.
func TestNoProofsOfTwoOperations(t *testing.T) {
	proofs := 0
	for way := range 3 * 3 * 3 * 3 * 3 * 3 * 3 * 3 {
		var l []impl.Vote
		rest := way
		for i := range int64(8) {
			if pick := rest % 3; pick < 2 {
				l = impl.VoteAdd(l, vote(impl.SayPrepare, 2, 3, []string{"a", "b"}[pick], i%4)).Votes
			}
			rest /= 3
		}
		proofs += proofsAgree(t, l, 2, 3)
	}
	same(t, "some have a proof", proofs > 100, true)
}

func TestVotesLikeModel(t *testing.T) {
	r := dice()
	proofs := 0
	for range 300 {
		var l []impl.Vote
		for _, v := range randomVotes(r, r.Intn(130)) {
			l = impl.VoteAdd(l, v).Votes
		}
		same(t, "VotesRight", impl.VotesRight(l), true)
		answersAre(t, "of random votes", l, r.Int63n(8))
		for range 20 {
			proofs += proofsAgree(t, l, r.Int63n(8), 1+r.Int63n(6))
		}
	}
	same(t, "some have proofs", proofs > 100, true)
}

// Votes that were put together without VoteAdd.
func TestRandomListsLikeModel(t *testing.T) {
	r := dice()
	right, wrong := 0, 0
	for range 1000 {
		l := randomVotes(r, r.Intn(12))
		want := rightVotesWords(l)
		same(t, "VotesRight of "+shown(l), impl.VotesRight(l), want)
		if want {
			right++
			answersAre(t, "of "+shown(l), l, 1+r.Int63n(3))
		} else {
			wrong++
			answersNothing(t, "of "+shown(l), l, l[0].Kind, l[0].View, l[0].Seq, l[0].Op)
			addFails(t, shown(l), l, l[0], impl.ErrForm)
		}
	}
	same(t, "both outcomes seen", right > 100 && wrong > 100, true)
}

// Memory.

func clonedVotes(l []impl.Vote) []impl.Vote {
	out := slices.Clone(l)
	for i := range out {
		out[i].Op = strings.Clone(out[i].Op)
	}
	return out
}

// roomyVotes is a copy with room behind, which is what an append to an argument
// would use.
func roomyVotes(l []impl.Vote) []impl.Vote {
	return append(make([]impl.Vote, 0, len(l)+3), clonedVotes(l)...)
}

// spoilVotes overwrites the votes, also the room behind them.
func spoilVotes(l []impl.Vote) {
	l = l[:cap(l)]
	for i := range l {
		l[i] = vote(77, 77, 77, "spoiled", 77)
	}
}

func voteStrings(l []impl.Vote) []string {
	var out []string
	for _, v := range l {
		out = append(out, v.Op)
	}
	return out
}

// memoryVotes are a list and votes that are new to it, are there, are there
// with another operation, and are wrong.
func memoryVotes() ([]impl.Vote, []impl.Vote) {
	l := append(twoQuorums(), prepares(1, 2, repeated(120), 2, 0, 3)...)
	v := []impl.Vote{vote(impl.SayCommit, 5, 6, "new one", 3), l[0], vote(impl.SayCommit, 2, 3, "other", 1), vote(impl.SayPre, 2, 3, "op", 3)}
	return l, v
}

func TestVoteAddSharesNothing(t *testing.T) {
	list, votes := memoryVotes()
	for _, v := range votes {
		l := roomyVotes(list)
		v.Op = strings.Clone(v.Op)
		got := impl.VoteAdd(l, v).Votes
		before := clonedVotes(got)
		ops := voteStrings(got)
		sharesNone(t, "VoteAdd of "+shown(v), ops, append(voteStrings(l), v.Op))
		for i := range ops {
			sharesNone(t, "operations of VoteAdd of "+shown(v), ops[:i], ops[i:])
		}
		votesAre(t, "argument", l, list)
		votesAre(t, "room behind the argument", l[:cap(l)][len(l):], make([]impl.Vote, 3))
		spoilVotes(l)
		votesAre(t, "answer after the argument is spoiled", got, before)
		l = roomyVotes(list)
		got = impl.VoteAdd(l, v).Votes
		spoilVotes(got)
		votesAre(t, "argument after the answer is spoiled", l, list)
		votesAre(t, "another answer", impl.VoteAdd(l, v).Votes, before)
	}
}

func TestProofsShareNothing(t *testing.T) {
	list, _ := memoryVotes()
	op := strings.Clone("op")
	calls := map[string]func(l []impl.Vote) impl.Proof{
		"ProofOf":  func(l []impl.Vote) impl.Proof { return impl.ProofOf(l, 2, 3, op) },
		"Prepared": func(l []impl.Vote) impl.Proof { return impl.Prepared(l, 3) },
	}
	for what, call := range calls {
		l := roomyVotes(list)
		got, other := call(l), call(l)
		want := proof(2, 3, "op", 0, 1, 2)
		proofIs(t, what, got, want)
		sharesNone(t, what, []string{got.Op}, append(voteStrings(l), op, other.Op))
		spoilNumbers(got.By)
		proofIs(t, what+" after another By is spoiled", other, want)
		spoilVotes(l)
		proofIs(t, what+" after the argument is spoiled", other, want)
		proofIs(t, what+" of votes that are spoiled", call(l), impl.Proof{})
	}
	l := roomyVotes(list)
	got, other := impl.OpOf(l, 3), impl.OpOf(l, 3)
	same(t, "OpOf", got, "op")
	sharesNone(t, "OpOf", []string{got}, append(voteStrings(l), other))
	voters := impl.Voters(l, impl.SayCommit, 2, 3, op)
	spoilNumbers(voters)
	votersAre(t, "Voters after others are spoiled", impl.Voters(l, impl.SayCommit, 2, 3, op), 0, 1, 2)
	votesAre(t, "argument after voters are spoiled", l, list)
}

func TestVotesLeaveArguments(t *testing.T) {
	list, votes := memoryVotes()
	lists := [][]impl.Vote{nil, list, allVotes(numberedOp), append(twoQuorums(), twoQuorums()...), slices.Insert(twoQuorums(), 2, impl.Vote{}),
		sizedVotes(impl.MaxVotes), sizedVotes(impl.MaxVotes + 1)}
	for _, given := range lists {
		l := roomyVotes(given)
		for _, v := range votes {
			before := v
			impl.VoteAdd(l, v)
			impl.Voters(l, v.Kind, v.View, v.Seq, v.Op)
			impl.ProofOf(l, v.View, v.Seq, v.Op)
			same(t, "vote", v, before)
		}
		impl.VotesRight(l)
		for seq := range int64(8) {
			impl.Prepared(l, seq)
			impl.Decided(l, seq)
			impl.OpOf(l, seq)
		}
		votesAre(t, "argument", l, given)
		votesAre(t, "room behind the argument", l[:cap(l)][len(l):], make([]impl.Vote, 3))
	}
}

func TestVotesKeepNothing(t *testing.T) {
	spoilVotes(impl.VoteAdd(nil, vote(impl.SayPrepare, 0, 1, "a", 0)).Votes)
	addsNew(t, "to no votes afterwards", nil, vote(impl.SayPrepare, 0, 1, "b", 0))
	l := prepares(0, 1, "a", 0, 1, 2)
	impl.VoteAdd(l, vote(impl.SayPrepare, 0, 1, "a", 3))
	votersAre(t, "Voters afterwards", impl.Voters(l, impl.SayPrepare, 0, 1, "a"), 0, 1, 2)
	addsNew(t, "once more", l, vote(impl.SayPrepare, 0, 1, "b", 3))
	answersNothing(t, "of no votes afterwards", nil, impl.SayPrepare, 0, 1, "a")
}
