package digest_test

import (
	"crypto/sha256"
	"encoding/hex"
	"math/rand"
	"strconv"
	"strings"
	"testing"

	"sortes/api"
	"sortes/digest"
)

// The tests hold the package against crypto/sha256 and encoding/hex, through its exported functions only.

// some returns n bytes of all sorts.
func some(r *rand.Rand, n int) string {
	b := make([]byte, n)
	r.Read(b)
	return string(b)
}

// fill returns n bytes b.
func fill(b byte, n int) string {
	return strings.Repeat(string([]byte{b}), n)
}

// short returns a message for an error text.
func short(s string) string {
	if len(s) <= 80 {
		return strconv.Quote(s)
	}
	return strconv.Quote(s[:80]) + ".. of " + strconv.Itoa(len(s)) + " bytes"
}

// summed fails unless Sum returns the hash of s.
func summed(t *testing.T, s string) {
	t.Helper()
	if got, want := digest.Sum(s), api.Hash(sha256.Sum256([]byte(s))); got != want {
		t.Fatalf("Sum(%s) = %x, not %x", short(s), got, want)
	}
}

// stream returns by the words of the chapter the first n bytes of the blocks of a seed.
func stream(seed string, n int) string {
	var text []byte
	for k := 0; len(text) < n; k++ {
		block := sha256.Sum256([]byte(seed + "/" + strconv.Itoa(k)))
		text = append(text, block[:]...)
	}
	return string(text[:n])
}

// streamed fails unless Stream returns as many bytes of the seed as there are in want, and these.
func streamed(t *testing.T, seed, want string) {
	t.Helper()
	got := digest.Stream(seed, len(want))
	if got == want {
		return
	}
	at := 0
	for at < min(len(got), len(want)) && got[at] == want[at] {
		at++
	}
	t.Fatalf("Stream(%s, %d) has %d bytes, and is wrong from the byte %d on", short(seed), len(want), len(got), at)
}

// unread fails unless Read finds no hash in s.
func unread(t *testing.T, s string) {
	t.Helper()
	if h, ok := digest.Read(s); ok || h != (api.Hash{}) {
		t.Fatalf("Read(%s) = %x, %t, not the zero hash and false", short(s), h, ok)
	}
}

// read fails unless Read finds h in its text.
func read(t *testing.T, h api.Hash) {
	t.Helper()
	text := hex.EncodeToString(h[:])
	if got, ok := digest.Read(text); got != h || !ok {
		t.Fatalf("Read(%s) = %x, %t", text, got, ok)
	}
}

// hashes returns hashes of all sorts: of one byte 32 times, with one byte that differs, some that are nearly equal, and random ones.
func hashes() []api.Hash {
	var l []api.Hash
	for b := range 256 {
		l = append(l, api.Hash([]byte(fill(byte(b), 32))))
	}
	for place := range 32 {
		for _, b := range []byte{1, 127, 128, 255} {
			var h api.Hash
			h[place] = b
			l = append(l, h)
		}
	}
	r := rand.New(rand.NewSource(1))
	for range 100 {
		h := api.Hash([]byte(some(r, 32)))
		near := h
		near[r.Intn(32)]++
		l = append(l, h, near)
	}
	return l
}
