package digest_test

import (
	"math/rand"
	"testing"

	"sortes/api"
	"sortes/digest"
)

// P3.6

func TestOrderOfTexts(t *testing.T) {
	l := hashes()
	for _, a := range l {
		for _, b := range l {
			if digest.Less(a, b) != (digest.Text(a) < digest.Text(b)) {
				t.Fatalf("Less(%x, %x) is not the order of the texts", a, b)
			}
		}
	}
}

func TestReadUndoesText(t *testing.T) {
	for _, h := range hashes() {
		text := digest.Text(h)
		if back, ok := digest.Read(text); back != h || !ok {
			t.Fatalf("Read(%s) = %x, %t", text, back, ok)
		}
	}
}

// TestTextUndoesRead holds that no other text than its own leads to a hash.
func TestTextUndoesRead(t *testing.T) {
	r := rand.New(rand.NewSource(8))
	found := 0
	for range 20000 {
		text := []byte(digest.Text(digest.Sum(some(r, 8))))
		for range r.Intn(4) {
			text[r.Intn(64)] = "0123456789abcdefABCDEFgG/:@`"[r.Intn(28)]
		}
		h, ok := digest.Read(string(text))
		if ok && digest.Text(h) != string(text) || !ok && h != (api.Hash{}) {
			t.Fatalf("Read(%s) = %x, %t", text, h, ok)
		}
		if ok {
			found++
		}
	}
	if found == 0 || found == 20000 {
		t.Errorf("%d of the texts were read", found)
	}
}

func TestShorterStreams(t *testing.T) {
	for _, seed := range []string{"", "seed", fill('s', 100)} {
		longest := digest.Stream(seed, 1048576)
		if len(longest) != 1048576 {
			t.Fatalf("the longest stream of %s has %d bytes", short(seed), len(longest))
		}
		for n := 1; n <= 1048576; n += 1 + n*n/3000 {
			if digest.Stream(seed, n) != longest[:n] {
				t.Fatalf("Stream(%s, %d) is not the beginning of a longer one", short(seed), n)
			}
		}
	}
}

// TestOtherSeeds holds that streams of different seeds begin with different blocks.
func TestOtherSeeds(t *testing.T) {
	seen := map[string]string{}
	for _, seed := range []string{"", "0", "/", "//", "/0", "0/", "a", "a/", "a/0", "a/0/", "A", "a\x00"} {
		first := digest.Stream(seed, 32)
		if other, ok := seen[first]; ok {
			t.Errorf("the streams of %q and %q are the same", seed, other)
		}
		seen[first] = seed
	}
}

// TestExamples holds the examples of the chapter.
func TestExamples(t *testing.T) {
	if got := digest.Text(digest.Sum("")); got != "e3b0c44298fc1c149afbf4c8996fb92427ae41e4649b934ca495991b7852b855" {
		t.Errorf("Text(Sum(\"\")) = %s", got)
	}
	if got := digest.Text(digest.Sum("abc")); got != "ba7816bf8f01cfea414140de5dae2223b00361a396177a9cb410ff61f20015ad" {
		t.Errorf("Text(Sum(\"abc\")) = %s", got)
	}
}
