package digest_test

import (
	"bytes"
	"encoding/hex"
	"slices"
	"strings"
	"testing"

	"sortes/api"
	"sortes/digest"
)

// P3.2

func TestText(t *testing.T) {
	for _, h := range hashes() {
		if got, want := digest.Text(h), hex.EncodeToString(h[:]); got != want {
			t.Fatalf("Text = %s, not %s", got, want)
		}
	}
	var h api.Hash
	if got := digest.Text(h); got != strings.Repeat("0", 64) {
		t.Errorf("Text of the zero hash = %s", got)
	}
	for i := range h {
		h[i] = byte(0xe0 + i)
	}
	if got := digest.Text(h); got != "e0e1e2e3e4e5e6e7e8e9eaebecedeeeff0f1f2f3f4f5f6f7f8f9fafbfcfdfeff" {
		t.Errorf("Text = %s", got)
	}
}

// P3.3

func TestRead(t *testing.T) {
	for _, h := range hashes() {
		read(t, h)
	}
	for place := range 32 {
		for b := range 256 {
			h := digest.Sum("h")
			h[place] = byte(b)
			read(t, h)
		}
	}
	zero, ok := digest.Read(strings.Repeat("0", 64))
	if zero != (api.Hash{}) || !ok {
		t.Errorf("Read of the text of the zero hash: %x, %t", zero, ok)
	}
}

// TestReadLengths takes texts that are shorter or longer than that of a hash.
func TestReadLengths(t *testing.T) {
	text := digest.Text(digest.Sum("abc"))
	for n := range 64 {
		unread(t, text[:n])
		unread(t, text[64-n:])
		unread(t, strings.Repeat("0", n))
	}
	for n := 1; n < 200; n++ {
		unread(t, text+strings.Repeat("0", n))
		unread(t, strings.Repeat("0", n)+text)
		unread(t, strings.Repeat("0", 64+n))
	}
	for _, s := range []string{"", "0", "00", "abc", text + text, text + "\n", " " + text, text + " ", text + "\x00", "0x" + text, text + ".", text[:32] + " " + text[32:], text[:63] + "\n", "0x" + text[2:], strings.Repeat(text, 1000)} {
		unread(t, s)
	}
}

// TestReadBytes takes texts with each other byte at each place.
func TestReadBytes(t *testing.T) {
	for _, s := range []string{digest.Text(digest.Sum("abc")), strings.Repeat("0", 64), strings.Repeat("f", 64)} {
		for place := range s {
			for b := range 256 {
				changed := []byte(s)
				changed[place] = byte(b)
				if strings.IndexByte("0123456789abcdef", byte(b)) >= 0 {
					want, err := hex.DecodeString(string(changed))
					if got, ok := digest.Read(string(changed)); !ok || err != nil || !bytes.Equal(got[:], want) {
						t.Fatalf("Read(%s) = %x, %t", changed, got, ok)
					}
					continue
				}
				unread(t, string(changed))
			}
		}
	}
}

// TestReadCapitals takes texts with capital letters.
func TestReadCapitals(t *testing.T) {
	for _, h := range hashes() {
		text := digest.Text(h)
		if capital := strings.ToUpper(text); capital != text {
			unread(t, capital)
			unread(t, text[:32]+capital[32:])
			unread(t, capital[:32]+text[32:])
			return
		}
	}
	t.Error("no text with letters")
}

// TestReadSigns takes texts of 64 bytes that other readers of numbers accept.
func TestReadSigns(t *testing.T) {
	for _, front := range []string{"+", "-", "0x", "0X", "_", "0_", " ", "\t", "#", "\\x", "%", "\xef\xbb\xbf", "\u0660", "\uff11"} {
		unread(t, front+strings.Repeat("0", 64-len(front)))
		unread(t, strings.Repeat("0", 64-len(front))+front)
	}
	unread(t, strings.Repeat("\u0661", 32))
	unread(t, strings.Repeat("\u0661", 64))
}

// P3.4

func TestLess(t *testing.T) {
	l := hashes()
	for _, a := range l {
		for _, b := range l {
			if got, want := digest.Less(a, b), bytes.Compare(a[:], b[:]) < 0; got != want {
				t.Fatalf("Less(%x, %x) = %t", a, b, got)
			}
		}
	}
}

func TestLessEqual(t *testing.T) {
	for _, h := range hashes() {
		same := h
		if digest.Less(h, same) || digest.Less(h, h) {
			t.Fatalf("%x is less than itself", h)
		}
	}
	if digest.Less(api.Hash{}, api.Hash{}) {
		t.Error("the zero hash is less than itself")
	}
}

// TestLessPlaces takes hashes that differ in one byte only, and those where the bytes behind it say the contrary.
func TestLessPlaces(t *testing.T) {
	for place := range 32 {
		for _, x := range [][2]byte{{0, 1}, {0, 255}, {127, 128}, {1, 128}, {15, 16}, {9, 10}, {254, 255}} {
			a := digest.Sum("abc")
			b := a
			a[place], b[place] = x[0], x[1]
			if !digest.Less(a, b) || digest.Less(b, a) {
				t.Fatalf("Less of hashes that differ in the byte %d: %d and %d", place, x[0], x[1])
			}
			for i := place + 1; i < 32; i++ {
				a[i], b[i] = 255, 0
			}
			if !digest.Less(a, b) || digest.Less(b, a) {
				t.Fatalf("Less of hashes that differ from the byte %d on", place)
			}
		}
	}
}

// TestLessSorts sorts by Less.
func TestLessSorts(t *testing.T) {
	l := hashes()
	slices.SortStableFunc(l, func(a, b api.Hash) int {
		switch {
		case digest.Less(a, b):
			return -1
		case digest.Less(b, a):
			return 1
		}
		return 0
	})
	if !slices.IsSortedFunc(l, func(a, b api.Hash) int { return bytes.Compare(a[:], b[:]) }) {
		t.Error("not sorted")
	}
}
