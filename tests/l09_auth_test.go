package tests

import (
	"fmt"
	"math"
	"slices"
	"strings"
	"testing"

	"loop.example/g00386/impl"
)

// rightKey, rightVector and allQuorums are independent of the program.

func rightKey(secret string, a int64, b int64) string {
	return rightDigest(secret + fmt.Sprintf("%d%d", min(a, b), max(a, b)))
}

func rightVector(secret string, from int64, text string) []string {
	out := make([]string, 4)
	for to := range int64(4) {
		if to != from {
			out[to] = rightMac(rightKey(secret, from, to), text)[:8]
		}
	}
	return out
}

func allQuorums() [][]int64 {
	return [][]int64{{0, 1, 2}, {0, 1, 3}, {0, 2, 3}, {1, 2, 3}, {0, 1, 2, 3}}
}

func goodSecrets() []string {
	return []string{"s", "\x00", "\xff\xfe", "0", "secret01", "a secret of words", repeated(59), repeated(60)}
}

func badSecrets() []string {
	return []string{"", repeated(61), repeated(62), repeated(256 + 60), repeated(impl.MaxBytes), repeated(impl.MaxBytes + 1)}
}

// noReplicas would be replicas in fewer bits, some of them.
func noReplicas() []int64 {
	return []int64{-1, 4, 5, -4, 1 << 8, 1 << 32, 1<<32 + 1, 1<<32 + 2, math.MinInt64, math.MinInt64 + 1, math.MaxInt64}
}

// authTexts are those that can be authenticated.
func authTexts() []string {
	return []string{"", "x", "text", "\x00", repeated(55), repeated(64), repeated(impl.MaxBytes - 1), repeated(impl.MaxBytes)}
}

func called9(what string, secret string, numbers ...int64) string {
	return fmt.Sprintf("%s of a secret of %d bytes and %v", what, len(secret), numbers)
}

// eachPair calls do with each pair of different replicas, in both orders.
func eachPair(do func(a int64, b int64)) {
	for a := range int64(4) {
		for b := range int64(4) {
			if a != b {
				do(a, b)
			}
		}
	}
}

func TestExamplesOfChapter10(t *testing.T) {
	same(t, "Leader(6)", impl.Leader(6), 2)
	same(t, "0, 2, 3", impl.QuorumRight([]int64{0, 2, 3}), true)
	same(t, "0, 2", impl.QuorumRight([]int64{0, 2}), false)
}

func TestConstantsOfChapter10(t *testing.T) {
	same(t, "Replicas", impl.Replicas, 4)
	same(t, "Quorum", impl.Quorum, 3)
}

func TestPairKey(t *testing.T) {
	for _, secret := range goodSecrets() {
		eachPair(func(a int64, b int64) {
			same(t, called9("PairKey", secret, a, b), impl.PairKey(secret, a, b), rightKey(secret, a, b))
		})
	}
	// SHA-256 of "s01" and of "s23", worked out by sha256sum.
	hexIs(t, "s, 1, 0", impl.PairKey("s", 1, 0), "fb173a948cf4a99ace8aa40268ff7087a975aaca133ef2ed0012ee64feeb5dd7")
	hexIs(t, "s, 2, 3", impl.PairKey("s", 2, 3), "10166c04ba9c4b64370abfaa0f6074df0308289b5089b4b589248e1918c09789")
}

func TestPairKeyIsOfThePair(t *testing.T) {
	for _, secret := range goodSecrets() {
		pairOf := map[string]string{}
		eachPair(func(a int64, b int64) {
			key := impl.PairKey(secret, a, b)
			same(t, called9("length of PairKey", secret, a, b), len(key), 32)
			same(t, called9("other order of PairKey", secret, a, b), impl.PairKey(secret, b, a), key)
			pair := fmt.Sprint(min(a, b), max(a, b))
			if other, ok := pairOf[key]; ok && other != pair {
				t.Errorf("secret of %d bytes: the pairs %s and %s have the same key", len(secret), pair, other)
			}
			pairOf[key] = pair
		})
		same(t, called9("number of keys", secret), len(pairOf), 6)
	}
	if impl.PairKey("s", 0, 1) == impl.PairKey("t", 0, 1) {
		t.Error("two secrets have the same key")
	}
}

func TestPairKeySecretSizes(t *testing.T) {
	r := dice()
	for size := range 70 {
		secret, want := randomText(r, size), ""
		if size >= 1 && size <= 60 {
			want = rightKey(secret, 1, 3)
		}
		same(t, called9("PairKey", secret, 3, 1), impl.PairKey(secret, 3, 1), want)
	}
}

func TestPairKeyInvalid(t *testing.T) {
	for _, secret := range badSecrets() {
		eachPair(func(a int64, b int64) {
			same(t, called9("PairKey", secret, a, b), impl.PairKey(secret, a, b), "")
		})
		same(t, called9("PairKey", secret, 1, 1), impl.PairKey(secret, 1, 1), "")
		same(t, called9("PairKey", secret, -1, 4), impl.PairKey(secret, -1, 4), "")
	}
	for a := range int64(4) {
		same(t, called9("PairKey", "s", a, a), impl.PairKey("s", a, a), "")
		for _, b := range noReplicas() {
			same(t, called9("PairKey", "s", a, b), impl.PairKey("s", a, b), "")
			same(t, called9("PairKey", "s", b, a), impl.PairKey("s", b, a), "")
			same(t, called9("PairKey", "s", b, b), impl.PairKey("s", b, b), "")
		}
	}
	same(t, "PairKey of -1 and 4", impl.PairKey("s", -1, 4), "")
}

func TestVector(t *testing.T) {
	for _, secret := range goodSecrets() {
		for _, text := range authTexts() {
			for from := range int64(4) {
				what := called9(fmt.Sprintf("Vector of %d bytes", len(text)), secret, from)
				namesIs(t, what, impl.Vector(secret, from, text), rightVector(secret, from, text)...)
			}
		}
	}
}

func TestVectorElements(t *testing.T) {
	for from := range int64(4) {
		l := impl.Vector("s", from, "text")
		same(t, "number of elements", len(l), 4)
		for to, code := range l {
			want := 8
			if int64(to) == from {
				want = 0
			}
			same(t, fmt.Sprintf("bytes of the code from %d for %d", from, to), len(code), want)
		}
	}
	eachPair(func(a int64, b int64) {
		// Both of a pair have one key, so the codes of one text are alike.
		same(t, fmt.Sprint("codes between ", a, b), impl.Vector("s", a, "text")[b], impl.Vector("s", b, "text")[a])
	})
}

func TestVectorInvalid(t *testing.T) {
	full := repeated(impl.MaxBytes + 1)
	for _, secret := range badSecrets() {
		for from := range int64(4) {
			namesIs(t, called9("Vector", secret, from), impl.Vector(secret, from, "text"))
		}
		namesIs(t, called9("Vector", secret, 4), impl.Vector(secret, 4, "text"))
		namesIs(t, called9("Vector of a long text", secret, 4), impl.Vector(secret, 4, full))
	}
	for _, from := range noReplicas() {
		namesIs(t, called9("Vector", "s", from), impl.Vector("s", from, "text"))
		namesIs(t, called9("Vector of a long text", "s", from), impl.Vector("s", from, full))
	}
	for from := range int64(4) {
		namesIs(t, called9("Vector of a long text", "s", from), impl.Vector("s", from, full))
		namesIs(t, called9("Vector of a text twice as long", "s", from), impl.Vector("s", from, full+full))
	}
}

// Promise 18, the first half.

func TestVectorIsAccepted(t *testing.T) {
	for _, secret := range goodSecrets() {
		for _, text := range authTexts() {
			eachPair(func(from int64, to int64) {
				what := called9(fmt.Sprintf("VectorGood of %d bytes", len(text)), secret, from, to)
				same(t, what, impl.VectorGood(secret, from, to, text, impl.Vector(secret, from, text)), true)
				same(t, what, impl.VectorGood(secret, from, to, text, rightVector(secret, from, text)), true)
			})
		}
	}
}

func TestVectorIsAcceptedRandom(t *testing.T) {
	r := dice()
	for range 300 {
		secret, text := randomText(r, 1+r.Intn(60)), randomText(r, r.Intn(300))
		from, to := r.Int63n(4), r.Int63n(4)
		what := called9(fmt.Sprintf("VectorGood of %x", text), secret, from, to)
		macs := impl.Vector(secret, from, text)
		same(t, what, impl.VectorGood(secret, from, to, text, macs), from != to)
		same(t, what+", other secret", impl.VectorGood(withByte(secret, 0, secret[0]^1), from, to, text, macs), false)
		same(t, what+", longer text", impl.VectorGood(secret, from, to, text+"x", macs), false)
	}
}

func TestVectorGoodTellsApart(t *testing.T) {
	eachPair(func(from int64, to int64) {
		macs := impl.Vector("s", from, "text")
		what := fmt.Sprintf("from %d to %d: ", from, to)
		for _, text := range []string{"", "tex", "text ", "Text", "texu", "other", "text\x00"} {
			same(t, what+"text "+text, impl.VectorGood("s", from, to, text, macs), false)
		}
		for _, secret := range []string{"t", "ss", "S", "s\x00", "s0"} {
			same(t, what+"secret "+secret, impl.VectorGood(secret, from, to, "text", macs), false)
		}
		for other := range int64(4) {
			if other != from && other != to {
				same(t, what+"other sender", impl.VectorGood("s", other, to, "text", macs), false)
			}
		}
		// The sender has no code for itself in its vector.
		same(t, what+"back to the sender", impl.VectorGood("s", to, from, "text", macs), false)
	})
}

func TestVectorGoodElementOnly(t *testing.T) {
	eachPair(func(from int64, to int64) {
		right := impl.Vector("s", from, "text")
		macs := []string{"", "wrong", repeated(8), repeated(impl.MaxBytes + 1)}
		macs[to] = right[to]
		same(t, fmt.Sprintf("from %d to %d: others wrong", from, to), impl.VectorGood("s", from, to, "text", macs), true)
		macs = slices.Clone(right)
		macs[from] = "not empty"
		same(t, fmt.Sprintf("from %d to %d: own element", from, to), impl.VectorGood("s", from, to, "text", macs), true)
	})
}

func TestVectorGoodWrongElement(t *testing.T) {
	eachPair(func(from int64, to int64) {
		right := impl.Vector("s", from, "text")
		code := right[to]
		wrong := []string{"", code[1:], code[:7], code + "x", code + "\x00", "\x00" + code, "x" + code, code + code,
			rightMac(rightKey("s", from, to), "text"), rightMac(rightKey("s", from, to), "text")[24:], repeated(8), rightDigest("text")[:8]}
		for i := range code {
			for bit := range 8 {
				wrong = append(wrong, withByte(code, i, code[i]^1<<bit))
			}
			wrong = append(wrong, code[:i]+code[i+1:])
		}
		for _, w := range wrong {
			macs := slices.Clone(right)
			macs[to] = w
			same(t, fmt.Sprintf("from %d to %d: %x", from, to, w), impl.VectorGood("s", from, to, "text", macs), false)
		}
	})
}

func TestVectorGoodWrongPlace(t *testing.T) {
	eachPair(func(from int64, to int64) {
		right := impl.Vector("s", from, "text")
		for place := range int64(4) {
			macs := make([]string, 4)
			macs[place] = right[to]
			what := fmt.Sprintf("from %d to %d: only at %d", from, to, place)
			same(t, what, impl.VectorGood("s", from, to, "text", macs), place == to)
		}
		for by := 1; by < 4; by++ {
			macs := slices.Concat(right[by:], right[:by])
			what := fmt.Sprintf("from %d to %d: moved by %d", from, to, by)
			same(t, what, impl.VectorGood("s", from, to, "text", macs), false)
		}
	})
}

func TestVectorGoodSizes(t *testing.T) {
	eachPair(func(from int64, to int64) {
		right := impl.Vector("s", from, "text")
		many := right
		for len(many) <= impl.MaxList {
			many = slices.Concat(many, right)
		}
		for _, size := range []int{0, 1, 2, 3, 4, 5, 6, 8, impl.MaxList - 1, impl.MaxList, impl.MaxList + 1} {
			what := fmt.Sprintf("from %d to %d: %d elements", from, to, size)
			same(t, what, impl.VectorGood("s", from, to, "text", many[:size]), size == 4)
		}
		same(t, "nil", impl.VectorGood("s", from, to, "text", nil), false)
	})
}

// emptyMacs would be what a code made without a key is compared with.
func emptyMacs() []string {
	return make([]string, 4)
}

func TestVectorGoodInvalid(t *testing.T) {
	right := impl.Vector("s", 1, "text")
	for _, secret := range badSecrets() {
		eachPair(func(from int64, to int64) {
			what := called9("VectorGood", secret, from, to)
			same(t, what, impl.VectorGood(secret, from, to, "text", rightVector(secret, from, "text")), false)
			same(t, what+", empty", impl.VectorGood(secret, from, to, "text", emptyMacs()), false)
		})
		same(t, called9("VectorGood", secret, 4, -1), impl.VectorGood(secret, 4, -1, "text", nil), false)
	}
	for a := range int64(4) {
		for _, macs := range [][]string{right, emptyMacs(), rightVector("s", a, "text"), nil} {
			same(t, called9("VectorGood", "s", a, a), impl.VectorGood("s", a, a, "text", macs), false)
			for _, b := range noReplicas() {
				same(t, called9("VectorGood", "s", a, b), impl.VectorGood("s", a, b, "text", macs), false)
				same(t, called9("VectorGood", "s", b, a), impl.VectorGood("s", b, a, "text", macs), false)
				same(t, called9("VectorGood", "s", b, b), impl.VectorGood("s", b, b, "text", macs), false)
			}
		}
	}
	// What it would be if a replica were a pair with itself.
	macs := emptyMacs()
	macs[1] = rightMac(rightKey("s", 1, 1), "text")[:8]
	same(t, "code of a replica for itself", impl.VectorGood("s", 1, 1, "text", macs), false)
}

func TestVectorGoodLongText(t *testing.T) {
	full := repeated(impl.MaxBytes)
	for _, text := range []string{full + "x", full + full} {
		eachPair(func(from int64, to int64) {
			what := fmt.Sprintf("from %d to %d: %d bytes", from, to, len(text))
			same(t, what, impl.VectorGood("s", from, to, text, rightVector("s", from, text)), false)
			same(t, what+", empty", impl.VectorGood("s", from, to, text, emptyMacs()), false)
			same(t, what+", of less", impl.VectorGood("s", from, to, text, rightVector("s", from, full)), false)
		})
		same(t, "nothing right", impl.VectorGood("", 4, 4, text, nil), false)
	}
}

func TestLeader(t *testing.T) {
	for view := range int64(40) {
		same(t, fmt.Sprint("Leader of ", view), impl.Leader(view), []int64{0, 1, 2, 3}[view%4])
	}
	for view := int64(-9); view < 0; view++ {
		same(t, fmt.Sprint("Leader of ", view), impl.Leader(view), 0)
	}
	edges := []struct{ view, leader int64 }{
		{impl.MaxTime - 1, 3}, {impl.MaxTime, 0}, {impl.MaxTime + 1, 1}, {1<<31 - 1, 3}, {1 << 31, 0}, {1<<32 + 2, 2},
		{math.MaxInt64, 3}, {math.MaxInt64 - 1, 2}, {math.MinInt64, 0}, {math.MinInt64 + 1, 0}, {math.MinInt64 + 3, 0}, {-1 << 32, 0},
	}
	for _, e := range edges {
		same(t, fmt.Sprint("Leader of ", e.view), impl.Leader(e.view), e.leader)
	}
}

// eachList calls do with each list of at most most elements, all of them among
// the values.
func eachList(values []int64, most int, do func(l []int64)) {
	var more func(l []int64)
	more = func(l []int64) {
		do(l)
		if len(l) < most {
			for _, v := range values {
				more(append(slices.Clone(l), v))
			}
		}
	}
	more(nil)
}

func isQuorum(l []int64) bool {
	return slices.ContainsFunc(allQuorums(), func(q []int64) bool { return slices.Equal(l, q) })
}

func TestQuorumRight(t *testing.T) {
	eachList([]int64{-1, 0, 1, 2, 3, 4}, 5, func(l []int64) {
		same(t, fmt.Sprint("QuorumRight of ", l), impl.QuorumRight(l), isQuorum(l))
	})
	for _, wrong := range noReplicas() {
		eachList([]int64{0, 2, 3, wrong}, 4, func(l []int64) {
			same(t, fmt.Sprint("QuorumRight of ", l), impl.QuorumRight(l), isQuorum(l))
		})
	}
	same(t, "an empty list", impl.QuorumRight([]int64{}), false)
}

func TestQuorumRightLongLists(t *testing.T) {
	for _, size := range []int{5, 100, impl.MaxList - 1, impl.MaxList, impl.MaxList + 1, 3 * impl.MaxList} {
		increasing, around := make([]int64, size), make([]int64, size)
		for i := range increasing {
			increasing[i] = int64(i)
			around[i] = int64(i % 4)
		}
		same(t, fmt.Sprint("increasing of ", size), impl.QuorumRight(increasing), false)
		same(t, fmt.Sprint("the replicas again and again of ", size), impl.QuorumRight(around), false)
		same(t, fmt.Sprint("zeros of ", size), impl.QuorumRight(make([]int64, size)), false)
		same(t, fmt.Sprint("a quorum in front, of ", size), impl.QuorumRight(append([]int64{0, 1, 2, 3}, make([]int64, size)...)), false)
	}
}

// Promise 18, the second half.

func TestQuorumsShareTwoReplicas(t *testing.T) {
	var quorums [][]int64
	eachList([]int64{-1, 0, 1, 2, 3, 4}, 4, func(l []int64) {
		if impl.QuorumRight(l) {
			quorums = append(quorums, l)
		}
	})
	same(t, "number of quorums", len(quorums), len(allQuorums()))
	for _, a := range quorums {
		for _, b := range quorums {
			shared := map[int64]int{}
			for _, r := range a {
				if slices.Contains(b, r) {
					shared[r]++
				}
			}
			if len(shared) < 2 {
				t.Errorf("%v and %v share only %v", a, b, shared)
			}
		}
	}
}

func TestAuthChangesNoArgument(t *testing.T) {
	for size := range 7 {
		macs := append(impl.Vector("s", 2, "text"), "a", "b")[:size]
		before := slices.Clone(macs)
		impl.VectorGood("s", 2, 1, "text", macs)
		namesIs(t, "macs afterwards", macs, before...)
	}
	for _, l := range [][]int64{{3, 2, 1}, {0, 0, 1, 2}, {2, 1, 0, -1, 9}, {0, 1, 2}} {
		before := slices.Clone(l)
		impl.QuorumRight(l)
		if !slices.Equal(l, before) {
			t.Errorf("%v has become %v", before, l)
		}
	}
}

func TestAuthSharesNoMemory(t *testing.T) {
	for _, size := range []int{1, 8, 32, 60} {
		secret, text := randomText(dice(), size), strings.Clone(repeated(size))
		given := []string{secret, text}
		key := impl.PairKey(secret, 0, 1)
		sharesNone(t, "PairKey", []string{key}, append(given, impl.PairKey(secret, 0, 1)))
		l := impl.Vector(secret, 2, text)
		sharesNone(t, "Vector", l, append(given, impl.Vector(secret, 2, text)...))
		for i, a := range l {
			sharesNone(t, "an element of Vector", []string{a}, append(slices.Clone(l[:i]), l[i+1:]...))
		}
	}
}

func TestAuthKeepsNothing(t *testing.T) {
	l := impl.Vector("s", 1, "text")
	clear(l)
	l = append(l[:0], "spoilt", "spoilt")
	namesIs(t, "Vector afterwards", impl.Vector("s", 1, "text"), rightVector("s", 1, "text")...)
	impl.VectorGood("other", 1, 2, "other", l)
	impl.PairKey("other", 1, 2)
	same(t, "PairKey afterwards", impl.PairKey("s", 1, 2), rightKey("s", 1, 2))
	same(t, "VectorGood afterwards", impl.VectorGood("s", 1, 2, "text", rightVector("s", 1, "text")), true)
}
