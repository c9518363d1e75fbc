package deal_test

import (
	"math"
	"math/rand"
	"slices"
	"strings"
	"testing"

	"sortes/api"
	"sortes/deal"
	"sortes/equal"
)

// three returns three secret numbers with their keys, and a dealing for them.
func three() (secrets, keys []int, d api.Dealing) {
	secrets = []int{12345, -1, 3}
	keys = keysOf(secrets)
	return secrets, keys, dealing([]int{987654321, q - 1}, keys, "seed")
}

// resealed returns the dealing with another content of a box of the owner of the secret number.
func resealed(d api.Dealing, secret, index, content int) api.Dealing {
	return boxed(d, index, sealed(power(d.Point, exponent(secret)), index, content))
}

// wrongs returns contents that are not y, with some of the same residue modulo Q.
func wrongs(y int) []int {
	l := []int{y + 1, y - 1, -y, ^y, q - y - 1, y ^ 1<<62, y ^ math.MinInt}
	for k := -7; k <= 6; k++ {
		l = append(l, y+k*q)
	}
	l = append(l, numbers()...)
	return slices.DeleteFunc(l, func(n int) bool { return n == y })
}

// P7.4

func TestOpen(t *testing.T) {
	secrets, _, d := three()
	for i, secret := range secrets {
		opens(t, secret, d, i, true)
		for k := -7; k <= 6; k++ {
			opens(t, exponent(secret)+k*q, d, i, true)
		}
		for j := range secrets {
			opens(t, secret, d, j, i == j)
		}
		for _, other := range numbers() {
			opens(t, other, d, i, exponent(other) == exponent(secret))
		}
		for _, index := range beyond(3) {
			opens(t, secret, d, index, false)
		}
	}
	for _, index := range append(beyond(3), 0, 1) {
		opens(t, 1, api.Dealing{}, index, false)
	}
}

// TestOpenSecrets deals to the owners of secret numbers of all sorts.
func TestOpenSecrets(t *testing.T) {
	for _, secret := range numbers() {
		for _, c := range []int{0, 1, q - 1, 1 << 59} {
			opens(t, secret, dealing([]int{c}, keysOf([]int{secret}), "seed"), 0, true)
		}
	}
}

// TestOpenBoxes changes each digit of a box, its length, and the index.
func TestOpenBoxes(t *testing.T) {
	secrets, _, d := three()
	for i, secret := range secrets {
		for digit := range 128 {
			opens(t, secret, boxed(d, i, flipped(d.Boxes[i], digit)), i, false)
		}
		box := d.Boxes[i]
		for _, s := range []string{"", box[:1], box[:7], box[:8], box[8:], box[:15], box[1:], box + "\x00", "\x00" + box, box + box, box[:8] + "\x00" + box[8:], box[8:] + box[:8], strings.Repeat("\x00", 16)} {
			opens(t, secret, boxed(d, i, s), i, false)
		}
		for j := range secrets {
			opens(t, secret, boxed(d, j, box), j, i == j)
			opens(t, secret, boxed(d, i, d.Boxes[j]), i, i == j)
		}
	}
	// A box of the same owner and content, but for another index.
	d = dealing([]int{5}, []int{4, 4}, "seed")
	opens(t, 1, d, 0, true)
	opens(t, 1, d, 1, true)
	opens(t, 1, boxed(d, 1, d.Boxes[0]), 1, false)
	opens(t, 1, boxed(d, 0, d.Boxes[1]), 0, false)
}

// TestOpenContents seals numbers that do not fit, among them such as G to whose power does.
func TestOpenContents(t *testing.T) {
	secrets, _, d := three()
	for i, secret := range secrets {
		y := value([]int{987654321, q - 1}, i+1)
		opens(t, secret, resealed(d, secret, i, y), i, true)
		for _, n := range wrongs(y) {
			opens(t, secret, resealed(d, secret, i, n), i, false)
		}
	}
	// The least and the greatest Y.
	for _, y := range []int{0, 1, q - 2, q - 1} {
		d := dealing([]int{y}, []int{4}, "seed")
		opens(t, 1, d, 0, true)
		for _, n := range wrongs(y) {
			opens(t, 1, resealed(d, 1, 0, n), 0, false)
		}
	}
	// The public value 0, which group.Pow makes of negative exponents.
	for _, n := range numbers() {
		opens(t, 3, resealed(commits(d, 0, 4), 3, 1, n), 1, false)
	}
}

// TestOpenAnyPoint holds that Point need not be a member.
func TestOpenAnyPoint(t *testing.T) {
	_, _, d := three()
	for _, at := range append(strangers(), members()...) {
		for _, secret := range []int{0, 1, 2, -1, 12345, math.MinInt} {
			for i := range 3 {
				d := pointed(d, at)
				opens(t, secret, resealed(d, secret, i, value([]int{987654321, q - 1}, i+1)), i, true)
				opens(t, secret, resealed(d, secret, i, 5), i, false)
			}
		}
	}
}

// TestOpenAnyCommits holds that commitments need not be members, nor as many as the boxes at most, nor any.
func TestOpenAnyCommits(t *testing.T) {
	_, _, d := three()
	a, b := power(api.G, 100), power(api.G, 10)
	for i := range 6 {
		// All boxes but one are empty.
		d := api.Dealing{Point: d.Point, Boxes: make([]string, 6)}
		fits := func(y int, l ...int) bool {
			return opened(t, 3, resealed(commits(d, l...), 3, i, y), i)
		}
		x := i + 1
		for _, c := range []struct {
			name string
			got  bool
			want bool
		}{
			{"none", fits(0), true},
			{"none, and 1", fits(1), false},
			{"none, and Q", fits(q), false},
			{"two members", fits(100+10*x, a, b), true},
			{"two of another residue", fits(100+10*x, a+p, b-2*p), true},
			{"the first one's negative", fits(100+10*x, p-a, b), false},
			{"both negatives", fits(100+10*x, p-a, -b), x%2 == 1},
			{"the second one's negative", fits(100+10*x, a, p-b), x%2 == 0},
			{"seven", fits(100+10*x, a, b, 1, 1, 1, 1, 1), true},
			{"0", fits(0, 0), false},
			{"Q, and 0", fits(0, q, 0), false},
		} {
			if c.got != c.want {
				t.Errorf("the box %d with %s: %t", i, c.name, c.got)
			}
		}
	}
}

func TestOpenRandom(t *testing.T) {
	r := rand.New(rand.NewSource(7))
	found := 0
	for range 3000 {
		secret, d, index := garbled(r)
		if opened(t, secret, d, index) {
			found++
		}
	}
	if found < 500 || found > 2500 {
		t.Errorf("%d of 3000 boxes were opened", found)
	}
}

// garbled returns a secret number, and a dealing that often has a box for its owner at the index.
func garbled(r *rand.Rand) (int, api.Dealing, int) {
	secrets, keys, d := three()
	index := r.Intn(3)
	secret := secrets[index]
	if r.Intn(4) == 0 {
		d = dealing([]int{r.Intn(q), r.Intn(q), r.Intn(q)}, keys, "other")
	}
	if r.Intn(6) == 0 {
		d = pointed(d, one(r, append(members(), strangers()...)))
	}
	if r.Intn(6) == 0 {
		d.Commits[r.Intn(len(d.Commits))] = one(r, append(members(), strangers()...))
	}
	if r.Intn(6) == 0 {
		i := r.Intn(3)
		d = boxed(d, i, flipped(d.Boxes[i], r.Intn(128)))
	}
	if r.Intn(12) == 0 {
		d = boxed(d, r.Intn(3), strings.Repeat("a", r.Intn(20)))
	}
	if r.Intn(12) == 0 {
		index = one(r, beyond(3))
	}
	if r.Intn(12) == 0 {
		secret = one(r, numbers())
	}
	return secret, d, index
}

// P7.5

// complained fails unless Complain answers as the words of the chapter want.
func complained(t *testing.T, secret int, d api.Dealing, index int) api.Complaint {
	t.Helper()
	got, want := deal.Complain(secret, d, index), complaint(secret, d, index)
	if got != want {
		t.Fatalf("Complain(%d, %s, %d) = %v, not %v", secret, short(text(d)), index, got, want)
	}
	return got
}

func TestComplain(t *testing.T) {
	_, _, d := three()
	for _, secret := range numbers() {
		for i := range 3 {
			c := complained(t, secret, d, i)
			if c.Index != i || !equal.Verify(api.G, power(api.G, exponent(secret)), d.Point, c.Key, c.Proof) {
				t.Fatalf("the proof of %d for the box %d: %v", secret, i, c)
			}
		}
		for _, index := range beyond(3) {
			if c := complained(t, secret, d, index); c != (api.Complaint{}) {
				t.Fatalf("Complain(%d, d, %d) = %v", secret, index, c)
			}
		}
	}
	for _, at := range append(members(), strangers()...) {
		for _, secret := range []int{0, 1, -1, 12345, math.MinInt} {
			if c := complained(t, secret, pointed(d, at), 1); (c == api.Complaint{}) == belongs(at) {
				t.Fatalf("Complain(%d, d, 1) = %v for the Point %d", secret, c, at)
			}
		}
	}
	for _, index := range append(beyond(3), 0, 1) {
		complained(t, 1, api.Dealing{}, index)
		complained(t, 1, api.Dealing{Commits: []int{1}, Point: 1}, index)
	}
}

// TestComplainAlways holds that nothing but the index and Point plays a part.
func TestComplainAlways(t *testing.T) {
	_, _, d := three()
	want := complained(t, 5, d, 1)
	for _, other := range []api.Dealing{
		commits(d), commits(d, 0), commits(d, 1, 1, 1, 1), commits(d, -1, p),
		boxed(d, 1, ""), boxed(d, 1, "a"), boxed(d, 0, strings.Repeat("a", 16)), boxed(d, 1, strings.Repeat("a", 17)),
		{Point: d.Point, Boxes: make([]string, 2)}, {Point: d.Point, Boxes: make([]string, 100)},
	} {
		if got := complained(t, 5, other, 1); got != want {
			t.Fatalf("Complain(5, %s, 1) = %v, not %v", short(text(other)), got, want)
		}
	}
}

// P7.6

func TestJudge(t *testing.T) {
	secrets, keys, d := three()
	for i, secret := range secrets {
		c := complaint(secret, d, i)
		judged(t, keys, d, c, 2)
		for digit := range 128 {
			judged(t, keys, boxed(d, i, flipped(d.Boxes[i], digit)), c, 1)
		}
		for j := range secrets {
			if j != i {
				judged(t, keys, boxed(d, i, d.Boxes[j]), c, 1)
				judged(t, keys, boxed(d, j, strings.Repeat("a", 16)), c, 2)
			}
		}
		y := value([]int{987654321, q - 1}, i+1)
		judged(t, keys, resealed(d, secret, i, y), c, 2)
		for _, n := range wrongs(y) {
			judged(t, keys, resealed(d, secret, i, n), c, 1)
		}
		for _, l := range [][]int{{1}, {1, 1}, {d.Commits[0]}, {d.Commits[0], d.Commits[0]}, {4, 16, 64}} {
			judged(t, keys, commits(d, l...), c, 1)
		}
	}
}

// TestJudgeForm takes dealings that are not in form, with the right complaints and with wrong ones.
func TestJudgeForm(t *testing.T) {
	secrets, keys, good := three()
	for i, secret := range secrets {
		for _, d := range []api.Dealing{good, boxed(good, i, strings.Repeat("a", 16))} {
			c := complaint(secret, d, i)
			for j := range keys {
				for _, n := range []int{0, 1, 8, 15, 17, 32} {
					judged(t, keys, boxed(d, j, strings.Repeat("a", n)), c, 0)
				}
			}
			judged(t, keys, boxed(d, i, d.Boxes[i]+"a"), c, 0)
			judged(t, keys, boxed(d, i, d.Boxes[i][:15]), c, 0)
			judged(t, keys, commits(d), c, 0)
			judged(t, keys, commits(d, d.Commits[0], d.Commits[1], 1, 1), c, 0)
			for _, a := range strangers() {
				judged(t, keys, commits(d, a), c, 0)
				judged(t, keys, commits(d, d.Commits[0], a), c, 0)
				judged(t, keys, commits(d, d.Commits[0], d.Commits[1], a), c, 0)
				judged(t, keys, pointed(d, a), c, 0)
			}
			// Commitments that are no members, but have the same residues, or the same public value.
			judged(t, keys, commits(d, d.Commits[0]+p, d.Commits[1]), c, 0)
			judged(t, keys, commits(d, d.Commits[0], d.Commits[1]-p), c, 0)
			judged(t, keys, commits(d, d.Commits[0], p-d.Commits[1]), c, 0)
			judged(t, keys, commits(d, p-d.Commits[0], p-d.Commits[1]), c, 0)
			judged(t, keys, pointed(d, d.Point+p), c, 0)
			judged(t, keys, pointed(d, d.Point-p), c, 0)
			for _, l := range [][]int{nil, {}, keys[:1], keys[:2], append(keysOf(secrets), 4), append(keysOf(secrets), keys...)} {
				judged(t, l, d, c, 0)
			}
		}
		judged(t, nil, api.Dealing{}, api.Complaint{}, 0)
		judged(t, keys, api.Dealing{}, complaint(secret, good, i), 0)
	}
	d := commits(good, 4)
	d.Boxes = d.Boxes[:2]
	judged(t, keys, d, complaint(secrets[0], d, 0), 0)
	judged(t, keys[:2], d, complaint(secrets[0], d, 0), 1)
}

// TestJudgeComplaints changes the index, the key and the proof.
func TestJudgeComplaints(t *testing.T) {
	secrets, keys, good := three()
	for i, secret := range secrets {
		for _, d := range []api.Dealing{good, boxed(good, i, strings.Repeat("a", 16))} {
			c := complaint(secret, d, i)
			for _, index := range append(beyond(3), (i+1)%3, (i+2)%3) {
				judged(t, keys, d, api.Complaint{Index: index, Key: c.Key, Proof: c.Proof}, 0)
			}
			for _, key := range append(append(append(members(), strangers()...), keys...), c.Key+1, c.Key+p, c.Key-p, p-c.Key, -c.Key, d.Point) {
				judged(t, keys, d, api.Complaint{Index: i, Key: key, Proof: c.Proof}, 0)
				judged(t, keys, d, api.Complaint{Index: i, Key: key}, 0)
			}
			for digit := range 64 {
				judged(t, keys, d, api.Complaint{Index: i, Key: c.Key, Proof: api.Proof{C: c.Proof.C ^ 1<<digit, Z: c.Proof.Z}}, 0)
				judged(t, keys, d, api.Complaint{Index: i, Key: c.Key, Proof: api.Proof{C: c.Proof.C, Z: c.Proof.Z ^ 1<<digit}}, 0)
			}
			judged(t, keys, d, api.Complaint{Index: i, Key: c.Key}, 0)
			judged(t, keys, d, api.Complaint{Index: i}, 0)
			judged(t, keys, d, api.Complaint{}, 0)
			// The proof for the bases in the other order, for other bases, and of others.
			for _, proof := range []api.Proof{equal.Prove(secret, d.Point, api.G), equal.Prove(secret, api.G, keys[i]), equal.Prove(secret, 16, d.Point), equal.Prove(secret+1, api.G, d.Point), equal.Prove(-secret, api.G, d.Point)} {
				judged(t, keys, d, api.Complaint{Index: i, Key: c.Key, Proof: proof}, 0)
			}
			for j, other := range secrets {
				if j != i {
					judged(t, keys, d, complaint(other, d, i), 0)
				}
			}
		}
		// A complaint about another dealing.
		judged(t, keys, good, complaint(secret, dealing([]int{987654321, q - 1}, keys, "other"), i), 0)
	}
}

// TestJudgeKeys changes keys: only the one with the index plays a part.
func TestJudgeKeys(t *testing.T) {
	secrets, keys, good := three()
	for i, secret := range secrets {
		for want, d := range map[int]api.Dealing{2: good, 1: boxed(good, i, strings.Repeat("a", 16))} {
			c := complaint(secret, d, i)
			for _, a := range append(append(members(), strangers()...), keys[i]+p, keys[i]-p, p-keys[i]) {
				l := []int{a, a, a}
				l[i] = keys[i]
				judged(t, l, d, c, want)
				l = slices.Clone(keys)
				l[i] = a
				if a != keys[i] {
					judged(t, l, d, c, 0)
				}
			}
		}
	}
	// An owner of two keys may complain of either box with one proof.
	d := dealing([]int{5, 6}, []int{64, 64}, "seed")
	c := complaint(3, d, 0)
	judged(t, []int{64, 64}, d, c, 2)
	c.Index = 1
	judged(t, []int{64, 64}, d, c, 2)
	judged(t, []int{64, 64}, boxed(d, 0, d.Boxes[1]), c, 2)
	judged(t, []int{64, 64}, boxed(d, 1, d.Boxes[0]), c, 1)
}

// TestJudgeMany holds that Judge has no limit of keys.
func TestJudgeMany(t *testing.T) {
	for _, n := range []int{1, 60, 61, 150} {
		secrets, keys := people(n)
		d := dealing(slices.Repeat([]int{3, 4}, (n+1)/2)[:n], keys, "seed")
		for _, i := range []int{0, n / 2, n - 1} {
			judged(t, keys, d, complaint(secrets[i], d, i), 2)
			judged(t, keys, boxed(d, i, flipped(d.Boxes[i], 0)), complaint(secrets[i], d, i), 1)
			judged(t, keys[:n-1], d, complaint(secrets[i], d, i), 0)
		}
	}
}

// TestJudgeOne takes the Point 1 and the secret number 0, of whose boxes everybody knows the key.
func TestJudgeOne(t *testing.T) {
	_, keys, d := three()
	for i := range keys {
		unit := pointed(d, 1)
		for _, secret := range []int{12345, -1, 3} {
			c := complaint(secret, unit, i)
			want := 0
			if power(api.G, exponent(secret)) == keys[i] {
				want = 2
			}
			judged(t, keys, resealed(unit, secret, i, value([]int{987654321, q - 1}, i+1)), c, want)
		}
		l := slices.Clone(keys)
		l[i] = 1
		judged(t, l, resealed(d, 0, i, value([]int{987654321, q - 1}, i+1)), complaint(q, d, i), 2)
		judged(t, l, d, complaint(0, d, i), 1)
	}
}

func TestJudgeRandom(t *testing.T) {
	r := rand.New(rand.NewSource(8))
	var found [3]int
	for range 3000 {
		_, keys, _ := three()
		secret, d, index := garbled(r)
		c := complaint(secret, d, index)
		if r.Intn(8) == 0 {
			c.Index = r.Intn(3)
		}
		want := verdict(keys, d, c)
		judged(t, keys, d, c, want)
		found[want]++
	}
	if slices.Min(found[:]) < 200 {
		t.Errorf("%v verdicts of each kind", found)
	}
}
