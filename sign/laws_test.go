package sign_test

import (
	"math"
	"math/rand"
	"slices"
	"strings"
	"testing"

	"sortes/api"
	"sortes/sign"
)

// P5.6

func TestSignedIsVerified(t *testing.T) {
	for _, seed := range few() {
		secret, key := sign.Key(seed)
		for _, text := range texts() {
			if s := sign.Sign(secret, text); !sign.Verify(key, text, s) {
				t.Fatalf("Verify(%d, %s, %v) is false", key, short(text), s)
			}
		}
	}
	for _, secret := range secrets() {
		for _, text := range few() {
			if s := sign.Sign(secret, text); !sign.Verify(public(secret), text, s) {
				t.Fatalf("Verify(%d, %s, %v) is false", public(secret), short(text), s)
			}
		}
	}
}

// TestOneAnswer looks for another S with the same key, text and R, among those near the right one, near the borders, and any.
func TestOneAnswer(t *testing.T) {
	r := rand.New(rand.NewSource(7))
	for _, secret := range []int{0, 1, 12345, -1} {
		for _, text := range []string{"", "abc"} {
			key, s := public(secret), sign.Sign(secret, text)
			var l []int
			for n := range 60 {
				l = append(l, s.S-n, s.S+n, n, -n, q-n, q+n, s.S+n*q, s.S-n*q, s.S^1<<n, q-s.S+n, some(r), r.Intn(q))
			}
			for _, other := range l {
				if sign.Verify(key, text, api.Sig{R: s.R, S: other}) != (other == s.S) {
					t.Fatalf("Verify(%d, %q, {%d, %d}), where S is %d", key, text, s.R, other, s.S)
				}
			}
		}
	}
}

// TestTextByChallenge holds that the text plays no part where its challenge does not: with the public key 1, whose powers are all 1.
func TestTextByChallenge(t *testing.T) {
	for _, text := range texts() {
		for _, n := range []int{0, 1, 12345} {
			if !sign.Verify(1, text, api.Sig{R: power(g, n), S: n}) {
				t.Fatalf("Verify(1, %s, {%d, %d}) is false", short(text), power(g, n), n)
			}
		}
	}
}

// TestOrderOfVotes holds that neither the order of votes nor how often one occurs changes the weight.
func TestOrderOfVotes(t *testing.T) {
	r := rand.New(rand.NewSource(8))
	for range 300 {
		l, v := assembly(r)
		want := sign.Weight(l, v, "t")
		for range 4 {
			other := slices.Clone(v)
			for _, vote := range v {
				for range r.Intn(3) {
					other = append(other, vote)
				}
			}
			r.Shuffle(len(other), func(i, j int) { other[i], other[j] = other[j], other[i] })
			if got := sign.Weight(l, other, "t"); got != want {
				t.Fatalf("the weight is %d, then %d, for %v and %v", want, got, l, other)
			}
		}
	}
}

// TestExamples holds the examples of the chapter.
func TestExamples(t *testing.T) {
	for _, text := range few() {
		if !sign.Verify(1, text, api.Sig{R: 1}) || sign.Verify(0, text, api.Sig{R: 1}) || sign.Verify(1, text, api.Sig{R: 1, S: api.Q}) {
			t.Errorf("the keys 1 and 0, for %s", short(text))
		}
		s1, p1 := sign.Key("1")
		s2, p2 := sign.Key("2")
		l := []api.Member{{Id: 1, Weight: 3, Public: p1}, {Id: 2, Weight: 5, Public: p2}}
		v := []api.Vote{sign.Vote(2, s2, text), sign.Vote(1, s1, text+" ")}
		if got := sign.Weight(l, v, text); got != 5 {
			t.Errorf("the weight is %d, not 5", got)
		}
	}
	if got := sign.Text(api.Sig{R: 12, S: -3}); got != "12.-3" {
		t.Errorf("Text({12, -3}) = %s", got)
	}
	if s, ok := sign.Read("12.3"); !ok || s != (api.Sig{R: 12, S: 3}) {
		t.Errorf("Read(12.3) = %v, %t", s, ok)
	}
	if s, ok := sign.Read("012.3"); ok || s != (api.Sig{}) {
		t.Errorf("Read(012.3) = %v, %t", s, ok)
	}
}

// P1 and R3 to R5: every call ends without a panic, for all arguments, answers the same again, and leaves its arguments as they are.
func TestAll(t *testing.T) {
	type answers struct {
		secret, public, weight int
		signed, read           api.Sig
		verified, ok           bool
		text                   string
		vote                   api.Vote
	}
	all := func(n, key int, s string, sig api.Sig, l []api.Member, v []api.Vote) answers {
		var a answers
		a.secret, a.public = sign.Key(s)
		a.signed = sign.Sign(n, s)
		a.verified = sign.Verify(key, s, sig)
		a.text = strings.Clone(sign.Text(sig))
		a.read, a.ok = sign.Read(s)
		a.vote = sign.Vote(key, n, s)
		a.weight = sign.Weight(l, v, s)
		return a
	}
	r := rand.New(rand.NewSource(9))
	words := append(texts(), "t", "u", "12.3", "-1.0")
	numbers := append(edges(), secrets()...)
	pick := func() int { return numbers[r.Intn(len(numbers))] }
	for range 2000 {
		n, key, s, sig := pick(), pick(), words[r.Intn(len(words))], api.Sig{R: pick(), S: pick()}
		l, v := assembly(r)
		l = append(l, api.Member{Id: pick(), Weight: pick(), Public: pick()})
		v = append(v, api.Vote{Who: l[0].Id, Text: s, Sig: sig})
		members, votes := slices.Clone(l), slices.Clone(v)
		first := all(n, key, s, sig, l, v)
		all(key, n, s+"x", first.signed, nil, v)
		if all(n, key, s, sig, l, v) != first {
			t.Fatalf("two answers for %d, %d, %s, %v, %v and %v", n, key, short(s), sig, l, v)
		}
		if !slices.Equal(l, members) || !slices.Equal(v, votes) {
			t.Fatalf("Weight has changed %v to %v, or %v to %v", members, l, votes, v)
		}
		if first.weight < 0 || first.weight > 20*len(l) || first.signed.S < 0 || first.signed.S >= q {
			t.Fatalf("%+v", first)
		}
	}
	if s := sign.Sign(math.MinInt, ""); !sign.Verify(public(math.MinInt), "", s) {
		t.Error("the least secret")
	}
}
