package sign_test

import (
	"math"
	"math/rand"
	"testing"

	"sortes/api"
	"sortes/sign"
)

// P5.1

func TestKey(t *testing.T) {
	for _, seed := range texts() {
		secret, key := sign.Key(seed)
		if want := scalar("k" + seed); secret != want || secret < 1 || secret >= q {
			t.Fatalf("the secret of %s is %d, not %d", short(seed), secret, want)
		}
		if key != power(g, secret) || !belongs(key) {
			t.Fatalf("the public key of %s is %d, with the secret %d", short(seed), key, secret)
		}
	}
}

// TestKeyPublished holds keys that were computed without Go.
func TestKeyPublished(t *testing.T) {
	for _, x := range []struct {
		seed        string
		secret, key int
	}{
		{"", 767769102015811366, 873768543866693115},
		{"abc", 12955437200021126, 1271616950050466764},
		{"k", 838541861014856456, 247546260279745183},
		{"member 1", 572634896248336762, 1163177365960852031},
		{"\xff\x00", 454233970315639863, 1548086131925767251},
		{"caf\u00e9", 691470628330654281, 711799776571178000},
	} {
		if secret, key := sign.Key(x.seed); secret != x.secret || key != x.key {
			t.Errorf("Key(%q) = %d, %d, not %d, %d", x.seed, secret, key, x.secret, x.key)
		}
	}
}

// TestKeysDiffer holds that no two seeds have one key.
func TestKeysDiffer(t *testing.T) {
	seen := map[int]string{}
	for _, seed := range texts() {
		_, key := sign.Key(seed)
		if other, ok := seen[key]; ok {
			t.Fatalf("%s and %s have one key", short(seed), short(other))
		}
		seen[key] = seed
	}
}

// P5.2

func TestSign(t *testing.T) {
	hold := func(secret int, text string) {
		t.Helper()
		if got, want := sign.Sign(secret, text), signature(secret, text); got != want {
			t.Fatalf("Sign(%d, %s) = %v, not %v", secret, short(text), got, want)
		}
	}
	for _, secret := range secrets() {
		for _, text := range few() {
			hold(secret, text)
		}
	}
	for _, text := range texts() {
		hold(1, text)
		hold(-12345, text)
	}
}

// TestSignPublished holds signatures that were computed without Go.
func TestSignPublished(t *testing.T) {
	for _, x := range []struct {
		secret int
		text   string
		want   api.Sig
	}{
		{0, "", api.Sig{R: 1153569089230295605, S: 74589826664652753}},
		{0, "abc", api.Sig{R: 2110579284831091264, S: 571408969577399996}},
		{1, "", api.Sig{R: 457262416805695982, S: 352746482181033450}},
		{1, "abc", api.Sig{R: 365442482246569223, S: 954352708274038815}},
		{-1, "", api.Sig{R: 2142746120348485462, S: 464886569834690723}},
		{-1, "\xff\x00", api.Sig{R: 285452374632899584, S: 110870422193480530}},
		{api.Q - 1, "\xff\x00", api.Sig{R: 285452374632899584, S: 110870422193480530}},
		{api.Q, "abc", api.Sig{R: 2110579284831091264, S: 571408969577399996}},
		{api.P, "abc", api.Sig{R: 365442482246569223, S: 954352708274038815}},
		{12345, "abc", api.Sig{R: 1245943959888622592, S: 184653207508842851}},
		{math.MaxInt, "abc", api.Sig{R: 1353103802334555953, S: 639897197347903385}},
		{math.MinInt, "abc", api.Sig{R: 942582961222341221, S: 1037446407991138602}},
	} {
		if got := sign.Sign(x.secret, x.text); got != x.want {
			t.Errorf("Sign(%d, %q) = %v, not %v", x.secret, x.text, got, x.want)
		}
	}
}

// TestSignExponent holds that secrets with one exponent sign alike.
func TestSignExponent(t *testing.T) {
	for _, x := range []int{0, 1, 2, 12345, q - 1} {
		for _, text := range few() {
			want := sign.Sign(x, text)
			for k := -7; k <= 6; k++ {
				if got := sign.Sign(x+k*q, text); got != want {
					t.Fatalf("Sign(%d + %d Q, %s) = %v, not %v", x, k, short(text), got, want)
				}
			}
		}
	}
}

// P5.3

func TestVerify(t *testing.T) {
	for _, text := range few() {
		for _, secret := range secrets() {
			verified(t, public(secret), text, signature(secret, text), true)
		}
	}
	for _, text := range texts() {
		verified(t, public(7), text, signature(7, text), true)
	}
}

// TestVerifyOtherNumbers takes signatures that were not made as Sign does, but fit: with any n, also 0.
func TestVerifyOtherNumbers(t *testing.T) {
	r := rand.New(rand.NewSource(3))
	for _, secret := range secrets() {
		for _, n := range []int{0, 1, 2, q - 1, r.Intn(q)} {
			s := api.Sig{R: power(g, n)}
			s.S = answer(n, exponent(secret), challenge(s.R, public(secret), "abc"))
			verified(t, public(secret), "abc", s, true)
			s.S = answer(s.S, 1, 1)
			verified(t, public(secret), "abc", s, false)
		}
	}
}

// TestVerifyChanged changes the key, the text, and each digit of the signature.
func TestVerifyChanged(t *testing.T) {
	for _, secret := range []int{1, 2, -5, 12345, q - 1} {
		for _, text := range few() {
			key, s := public(secret), signature(secret, text)
			for i := range 64 {
				verified(t, key^1<<i, text, s, false)
				verified(t, key, text, api.Sig{R: s.R ^ 1<<i, S: s.S}, false)
				verified(t, key, text, api.Sig{R: s.R, S: s.S ^ 1<<i}, false)
			}
			for _, other := range []string{text + "\x00", text + " ", "c" + text, text + text + "x", "other"} {
				verified(t, key, other, s, false)
			}
			verified(t, key, text, api.Sig{R: s.S, S: s.R}, false)
			verified(t, key, text, api.Sig{}, false)
			verified(t, public(secret+1), text, s, false)
			verified(t, public(-secret), text, s, false)
			verified(t, times(key, g, p), text, s, false)
		}
	}
}

// TestVerifyRange adds multiples of Q to S, which leave the power of G as it is.
func TestVerifyRange(t *testing.T) {
	for _, secret := range []int{0, 1, 12345} {
		for _, text := range few() {
			key, s := public(secret), signature(secret, text)
			for k := -7; k <= 6; k++ {
				verified(t, key, text, api.Sig{R: s.R, S: s.S + k*q}, k == 0)
			}
		}
	}
	// The least and the greatest S that fit: the key 1 takes each S, with its power of G as R.
	for _, x := range []struct {
		s    int
		want bool
	}{{0, true}, {1, true}, {q - 2, true}, {q - 1, true}, {-1, false}, {-q, false}, {q, false}, {q + 1, false}, {2*q - 1, false}, {2 * q, false}, {p, false}, {math.MaxInt, false}, {math.MinInt, false}} {
		verified(t, 1, "abc", api.Sig{R: power(g, rest(large(x.s), q)), S: x.s}, x.want)
	}
}

// TestVerifyNoMember takes an R that is the right one modulo P, but no member.
func TestVerifyNoMember(t *testing.T) {
	for _, n := range []int{0, 1, 2, 12345, q - 1} {
		r := power(g, n)
		verified(t, 1, "abc", api.Sig{R: r, S: n}, true)
		for _, other := range []int{r + p, r + 2*p, r - p, r - 2*p, -r, p - r} {
			verified(t, 1, "abc", api.Sig{R: other, S: n}, false)
		}
	}
	for _, r := range []int{0, -1, 2, 3, p - 1, p, p + 1, -p, 2 * p, math.MaxInt, math.MinInt} {
		for _, s := range []int{0, 1, q - 1} {
			for _, key := range []int{0, 1, 4, p - 1} {
				verified(t, key, "abc", api.Sig{R: r, S: s}, false)
			}
		}
	}
}

// TestVerifyNoKey takes public keys that are no members, with signatures that fit but for this.
func TestVerifyNoKey(t *testing.T) {
	for _, secret := range []int{0, 1, 2, 12345, q - 1} {
		x, member := exponent(secret), public(secret)
		fits := func(key int, even bool) {
			t.Helper()
			for n := range 60 {
				r := power(g, n)
				c := challenge(r, key, "abc")
				if even && c%2 == 1 {
					continue
				}
				s := api.Sig{R: r, S: answer(n, x, c)}
				if power(g, s.S) != times(r, power(key, c), p) {
					t.Fatalf("the signature %v with the key %d does not fit", s, key)
				}
				verified(t, key, "abc", s, false)
			}
		}
		// An even power of the negative of a member is that of the member.
		fits(p-member, true)
		fits(-member, true)
		for _, key := range []int{member + p, member + 2*p, member - p, member - 3*p} {
			fits(key, false)
		}
	}
	// The odd powers need an R that is the negative of a member.
	for n := range 60 {
		r := p - power(g, n)
		if challenge(r, p-1, "abc")%2 == 1 {
			verified(t, p-1, "abc", api.Sig{R: r, S: n}, false)
		}
	}
}

// TestVerifyKeys takes the public keys at the borders, with all sorts of signatures.
func TestVerifyKeys(t *testing.T) {
	for _, key := range []int{0, -1, -4, 2, 3, p - 4, p - 1, p, p + 1, p + 4, -p, 2*p + 1, math.MaxInt, math.MinInt} {
		for _, text := range few() {
			for _, s := range []api.Sig{{}, {R: 1}, {R: 1, S: q}, {R: 1, S: 1}, {R: g, S: 1}, {R: p - 1}, {R: p}, signature(0, text), signature(1, text), signature(key, text)} {
				verified(t, key, text, s, false)
			}
		}
	}
	for _, text := range few() {
		verified(t, 1, text, api.Sig{R: 1}, true)
		verified(t, 1, text, signature(0, text), true)
		verified(t, g, text, signature(1, text), true)
		verified(t, power(g, q-1), text, signature(-1, text), true)
	}
}

func TestVerifyRandom(t *testing.T) {
	r := rand.New(rand.NewSource(4))
	l := texts()
	found := 0
	for range 2000 {
		secret, text := some(r), l[r.Intn(len(l))]
		key, s := public(secret), signature(secret, text)
		if r.Intn(4) == 0 {
			key = public(some(r))
		}
		if r.Intn(4) == 0 {
			s.R = power(g, r.Intn(q))
		}
		if r.Intn(4) == 0 {
			s.S = r.Intn(q)
		}
		want := accepted(key, text, s)
		verified(t, key, text, s, want)
		if want {
			found++
		}
	}
	if found < 400 || found > 1600 {
		t.Errorf("%d of 2000 signatures were accepted", found)
	}
}
