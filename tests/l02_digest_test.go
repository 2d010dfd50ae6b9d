package tests

import (
	"crypto/hmac"
	"crypto/sha256"
	"encoding/hex"
	"fmt"
	"math"
	"strings"
	"testing"

	"loop.example/g00386/impl"
)

// rightDigest and rightMac are independent of the program.

func rightDigest(text string) string {
	sum := sha256.Sum256([]byte(text))
	return string(sum[:])
}

func rightMac(key string, text string) string {
	h := hmac.New(sha256.New, []byte(key))
	h.Write([]byte(text))
	return string(h.Sum(nil))
}

func rightStretch(pass string, rounds int64) string {
	out := "salt"
	for range rounds {
		out = rightMac(pass, out)
	}
	return out
}

func hexIs(t *testing.T, what string, got string, want string) {
	t.Helper()
	same(t, what, hex.EncodeToString([]byte(got)), want)
}

// exored returns key, filled with zero bytes to 64 bytes, with each byte
// exclusive-ored with pad.
func exored(key string, pad byte) string {
	out := []byte(key + strings.Repeat("\x00", 64-len(key)))
	for i := range out {
		out[i] ^= pad
	}
	return string(out)
}

// composedMac is the definition in chapter 3, written with Digest.
func composedMac(key string, text string) string {
	if len(key) > 64 {
		key = impl.Digest(key)
	}
	return impl.Digest(exored(key, 92) + impl.Digest(exored(key, 54)+text))
}

func TestExamplesOfChapter3(t *testing.T) {
	hexIs(t, "Digest(abc)", impl.Digest("abc"), "ba7816bf8f01cfea414140de5dae2223b00361a396177a9cb410ff61f20015ad")
	same(t, "Stretch(p, 2)", impl.Stretch("p", 2), impl.Mac("p", impl.Mac("p", "salt")))
	same(t, "Stretch(p, 0)", impl.Stretch("p", 0), "")
}

func TestDigestKnown(t *testing.T) {
	hexIs(t, "empty", impl.Digest(""), "e3b0c44298fc1c149afbf4c8996fb92427ae41e4649b934ca495991b7852b855")
	two := "abcdbcdecdefdefgefghfghighijhijkijkljklmklmnlmnomnopnopq"
	hexIs(t, "two blocks", impl.Digest(two), "248d6a61d20638b8e5c026930c3e6039a33ce45964ff2167f6ecedd419db06c1")
}

func TestDigestSizes(t *testing.T) {
	r := dice()
	for size := range 260 {
		text := randomText(r, size)
		same(t, fmt.Sprint("Digest of bytes: ", size), impl.Digest(text), rightDigest(text))
	}
	for _, size := range []int{55, 56, 57, 63, 64, 65, 119, 120, 127, 128, 129} {
		for _, b := range []string{"\x00", "\x80", "\xff"} {
			text := strings.Repeat(b, size)
			same(t, fmt.Sprintf("Digest of %d bytes %x", size, b), impl.Digest(text), rightDigest(text))
		}
	}
}

func TestDigestLimits(t *testing.T) {
	full := randomText(dice(), impl.MaxBytes)
	same(t, "one byte less", impl.Digest(full[1:]), rightDigest(full[1:]))
	same(t, "full", impl.Digest(full), rightDigest(full))
	same(t, "too long", impl.Digest(full+"x"), "")
	same(t, "far too long", impl.Digest(full+full), "")
}

// Promise 3.

func TestMacKnown(t *testing.T) {
	// RFC 4231, test cases 1, 2, 3 and 6.
	hexIs(t, "1", impl.Mac(strings.Repeat("\x0b", 20), "Hi There"), "b0344c61d8db38535ca8afceaf0bf12b881dc200c9833da726e9376c2e32cff7")
	hexIs(t, "2", impl.Mac("Jefe", "what do ya want for nothing?"), "5bdcc146bf60754e6a042426089575c75a003f089d2739839dec58b964ec3843")
	hexIs(t, "3", impl.Mac(strings.Repeat("\xaa", 20), strings.Repeat("\xdd", 50)), "773ea91e36800e46854db8ebd09181a72959098b3ef8c122d9635514ced565fe")
	long := "Test Using Larger Than Block-Size Key - Hash Key First"
	hexIs(t, "6", impl.Mac(strings.Repeat("\xaa", 131), long), "60e431591ee0b67f0d8a26aacbf5b77f8e0bc6213728c5140546040f0ee37f54")
	hexIs(t, "of nothing", impl.Mac("", ""), "b613679a0814d9ec772f95d778c35fc5ff1697c493715653c6c712144292c5ad")
}

func TestMacIsComposedOfDigests(t *testing.T) {
	r := dice()
	keySizes := []int{0, 1, 20, 32, 63, 64, 65, 66, 128, 1000, impl.MaxBytes}
	textSizes := []int{0, 1, 54, 55, 56, 63, 64, 65, 500, impl.MaxBytes - 64}
	for _, keySize := range keySizes {
		for _, textSize := range textSizes {
			key, text := randomText(r, keySize), randomText(r, textSize)
			what := fmt.Sprintf("Mac of a key of %d bytes and a text of %d", keySize, textSize)
			same(t, what, impl.Mac(key, text), composedMac(key, text))
			same(t, what, impl.Mac(key, text), rightMac(key, text))
		}
	}
}

func TestMacKeyOfABlock(t *testing.T) {
	key := repeated(64)
	if impl.Mac(key, "a") == impl.Mac(impl.Digest(key), "a") {
		t.Error("a key of 64 bytes is used as it is")
	}
	long := repeated(65)
	same(t, "65 bytes", impl.Mac(long, "a"), impl.Mac(impl.Digest(long), "a"))
	same(t, "zero bytes at the end", impl.Mac("k\x00\x00", "a"), impl.Mac("k", "a"))
}

func TestMacLimits(t *testing.T) {
	r := dice()
	key, text := randomText(r, impl.MaxBytes), randomText(r, impl.MaxBytes)
	same(t, "full key", impl.Mac(key, "a"), rightMac(key, "a"))
	same(t, "full text", impl.Mac("k", text), rightMac("k", text))
	same(t, "full text, key of a block", impl.Mac(key[:64], text), rightMac(key[:64], text))
	same(t, "both full", impl.Mac(key, text), rightMac(key, text))
	same(t, "key too long", impl.Mac(key+"x", "a"), "")
	same(t, "text too long", impl.Mac("k", text+"x"), "")
	same(t, "both too long", impl.Mac(key+"x", text+"x"), "")
}

func TestStretchRounds(t *testing.T) {
	for _, pass := range []string{"", "p", "a longer pass", repeated(64), repeated(65)} {
		for _, rounds := range []int64{1, 2, 3, 50, 99, 100} {
			what := fmt.Sprintf("Stretch of %d bytes, rounds %d", len(pass), rounds)
			same(t, what, impl.Stretch(pass, rounds), rightStretch(pass, rounds))
		}
	}
	same(t, "one round", impl.Stretch("p", 1), impl.Mac("p", "salt"))
}

func TestStretchLimits(t *testing.T) {
	for _, rounds := range []int64{0, 101, 102, -1, -100, 1 << 32, 1<<32 + 1, math.MinInt64, math.MaxInt64} {
		same(t, fmt.Sprint("rounds ", rounds), impl.Stretch("p", rounds), "")
	}
	full := randomText(dice(), impl.MaxBytes)
	same(t, "full pass", impl.Stretch(full, 2), rightStretch(full, 2))
	same(t, "pass too long", impl.Stretch(full+"x", 1), "")
	same(t, "pass too long, rounds 0", impl.Stretch(full+"x", 0), "")
}
