package digest_test

import (
	"crypto/sha256"
	"math"
	"math/rand"
	"strconv"
	"strings"
	"testing"

	"sortes/api"
	"sortes/digest"
)

// P3.1

// TestSumPublished holds Sum against hashes that were published with the standard.
func TestSumPublished(t *testing.T) {
	for _, x := range []struct{ message, want string }{
		{"", "e3b0c44298fc1c149afbf4c8996fb92427ae41e4649b934ca495991b7852b855"},
		{"abc", "ba7816bf8f01cfea414140de5dae2223b00361a396177a9cb410ff61f20015ad"},
		{"abcdbcdecdefdefgefghfghighijhijkijkljklmklmnlmnomnopnopq", "248d6a61d20638b8e5c026930c3e6039a33ce45964ff2167f6ecedd419db06c1"},
		{"abcdefghbcdefghicdefghijdefghijkefghijklfghijklmghijklmnhijklmnoijklmnopjklmnopqklmnopqrlmnopqrsmnopqrstnopqrstu", "cf5b16a778af8380036ce59e7b0492370b249b11e8f07a51afac45037afee9d1"},
		{strings.Repeat("a", 1000000), "cdc76e5c9914fb9281a1c7e284d73e67f1809a48a497200e046d39ccc7112cd0"},
	} {
		if got := digest.Text(digest.Sum(x.message)); got != x.want {
			t.Errorf("Sum(%s) = %s, not %s", short(x.message), got, x.want)
		}
	}
}

// TestSumLengths takes messages of all lengths around the borders of blocks.
func TestSumLengths(t *testing.T) {
	r := rand.New(rand.NewSource(2))
	for n := range 400 {
		summed(t, some(r, n))
		for _, b := range []byte{0, 1, 0x7f, 0x80, 0xff, 'a'} {
			summed(t, fill(b, n))
		}
	}
	for _, n := range []int{0, 55, 56, 63, 64, 65, 119, 120, 127, 128, 129, 8191, 8192, 65535, 65536, 1<<20 - 9, 1 << 20, 1<<21 - 1, 1 << 21, 1<<21 + 63} {
		for range 4 {
			summed(t, some(r, n))
		}
	}
}

// TestSumPadding takes messages that look like others with what fills their last block.
func TestSumPadding(t *testing.T) {
	for n := range 130 {
		s := fill('x', n)
		seen := map[api.Hash]string{}
		for _, end := range []string{"", "\x80", "\x80\x00", "\x00", "\x00\x00", "\x80\x00\x00\x00\x00\x00\x00\x00\x00"} {
			h := digest.Sum(s + end)
			if other, ok := seen[h]; ok {
				t.Fatalf("%s and %s have one hash", short(s+end), short(other))
			}
			seen[h] = s + end
			summed(t, s+end)
		}
	}
}

// TestSumBits changes each bit of a message.
func TestSumBits(t *testing.T) {
	message := []byte(some(rand.New(rand.NewSource(3)), 130))
	for i := range 8 * len(message) {
		message[i/8] ^= 1 << (i % 8)
		summed(t, string(message))
		message[i/8] ^= 1 << (i % 8)
	}
}

// TestSumLong takes a message whose number of bits needs more than 4 bytes; its hash was computed with crypto/sha256, which takes longer than the rest of the test.
func TestSumLong(t *testing.T) {
	if testing.Short() {
		t.Skip("half a gigabyte")
	}
	got := digest.Text(digest.Sum(strings.Repeat("a", 1<<29)))
	if got != "b9045a713caed5dff3d3b783e98d1ce5778d8bc331ee4119d707072312af06a7" {
		t.Errorf("Sum of half a gigabyte = %s", got)
	}
}

// P3.5

func TestStreamLengths(t *testing.T) {
	for _, seed := range []string{"", "seed", "/", "a/0", "\x00", "\xff\xfe", "caf\u00e9"} {
		longest := stream(seed, 1048576)
		for n := range 400 {
			streamed(t, seed, longest[:n])
		}
		for _, n := range []int{1, 31, 32, 33, 319, 320, 321, 352, 353, 3199, 3200, 3201, 3232, 32000, 32032, 32033, 320000, 320032, 1<<20 - 33, 1<<20 - 32, 1<<20 - 31, 1<<20 - 1, 1048576} {
			streamed(t, seed, longest[:n])
		}
	}
}

func TestStreamNothing(t *testing.T) {
	for _, seed := range []string{"", "seed", "/", fill('s', 1000)} {
		for _, n := range []int{0, -1, -2, -31, -32, -33, -1048576, math.MinInt32, math.MinInt + 1, math.MinInt, 1048577, 1048578, 1048608, 1 << 21, 1<<32 + 1, math.MaxInt32, math.MaxInt - 31, math.MaxInt - 1, math.MaxInt} {
			if got := digest.Stream(seed, n); got != "" {
				t.Errorf("Stream(%s, %d) has %d bytes", short(seed), n, len(got))
			}
		}
	}
}

// TestStreamSeeds takes seeds of all lengths, so that the number of a block comes at each place of a block of the hash.
func TestStreamSeeds(t *testing.T) {
	r := rand.New(rand.NewSource(5))
	for n := range 200 {
		for _, seed := range []string{some(r, n), fill('/', n), fill('0', n)} {
			streamed(t, seed, stream(seed, 32*110+r.Intn(32)))
		}
	}
	for _, n := range []int{1000, 4096, 65535, 1 << 20} {
		seed := some(r, n)
		streamed(t, seed, stream(seed, 100))
	}
}

// TestStreamBlocks finds the blocks of a stream as hashes.
func TestStreamBlocks(t *testing.T) {
	text := digest.Stream("seed", 1048576)
	for _, x := range []struct {
		k    int
		text string
	}{{0, "seed/0"}, {1, "seed/1"}, {9, "seed/9"}, {10, "seed/10"}, {99, "seed/99"}, {100, "seed/100"}, {1000, "seed/1000"}, {10000, "seed/10000"}, {32767, "seed/32767"}} {
		if h := digest.Sum(x.text); text[32*x.k:32*x.k+32] != string(h[:]) {
			t.Errorf("the block %d is not the hash of %s", x.k, x.text)
		}
	}
}

// TestStreamLongSeed takes a seed that would need very long, if it were hashed anew for each block.
func TestStreamLongSeed(t *testing.T) {
	seed := some(rand.New(rand.NewSource(6)), 1<<22)
	text := digest.Stream(seed, 1048576)
	for _, k := range []int{0, 7, 32767} {
		if h := sha256.Sum256([]byte(seed + "/" + strconv.Itoa(k))); text[32*k:32*k+32] != string(h[:]) {
			t.Errorf("the block %d of a long seed", k)
		}
	}
}

// P1, R3 and R4: every call ends without a panic, answers the same again, and keeps its hands off the answers before.
func TestAll(t *testing.T) {
	type answers struct {
		sum, read    api.Hash
		ok, less     bool
		text, stream string
	}
	all := func(s string, n int) answers {
		var a answers
		a.sum = digest.Sum(s)
		a.read, a.ok = digest.Read(s)
		a.text = digest.Text(a.sum)
		a.less = digest.Less(a.sum, a.read)
		a.stream = digest.Stream(s, n)
		return a
	}
	r := rand.New(rand.NewSource(7))
	for range 3000 {
		s := some(r, r.Intn(130))
		if r.Intn(4) == 0 {
			s = digest.Text(digest.Sum(s))
		}
		n := []int{r.Intn(100), -r.Intn(100), r.Int(), -r.Int()}[r.Intn(4)]
		first := all(s, n)
		copied := first
		copied.stream, copied.text = strings.Clone(first.stream), strings.Clone(first.text)
		all(s+"x", n)
		if all(s, n) != copied || first != copied {
			t.Fatalf("two answers for %s and %d", short(s), n)
		}
	}
}
