package tests

import (
	"fmt"
	"math/rand"
	"strings"
	"testing"
)

func same[T comparable](t *testing.T, what string, got T, want T) {
	t.Helper()
	if got != want {
		t.Errorf("%s: got %s, want %s", what, shown(got), shown(want))
	}
}

// shown keeps a failure with a string of MaxBytes bytes readable.
func shown(v any) string {
	s := fmt.Sprintf("%#v", v)
	if len(s) > 200 {
		return s[:200] + fmt.Sprintf("... (%d characters)", len(s))
	}
	return s
}

// dice has a fixed seed, so that a failure can be repeated.
func dice() *rand.Rand {
	return rand.New(rand.NewSource(1))
}

func randomText(r *rand.Rand, size int) string {
	b := make([]byte, size)
	r.Read(b)
	return string(b)
}

func repeated(size int) string {
	return strings.Repeat("x", size)
}

func withByte(text string, i int, b byte) string {
	return text[:i] + string([]byte{b}) + text[i+1:]
}
