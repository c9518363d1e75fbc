package sign_test

import (
	"math"
	"math/rand"
	"slices"
	"strings"
	"testing"

	"sortes/api"
	"sortes/sign"
)

// P5.5

// ballot returns a vote of who with a secret number, by the words of the chapter.
func ballot(who, secret int, text string) api.Vote {
	return api.Vote{Who: who, Text: text, Sig: signature(secret, text)}
}

// person returns the member whose secret number is its Id.
func person(id, weight int) api.Member {
	return api.Member{Id: id, Weight: weight, Public: public(id)}
}

// sum returns by the words of the chapter the weight of the members who have a vote.
func sum(l []api.Member, v []api.Vote, text string) int {
	total := 0
	for i, m := range l {
		first := !slices.ContainsFunc(l[:i], func(other api.Member) bool { return other.Id == m.Id })
		voted := slices.ContainsFunc(v, func(vote api.Vote) bool {
			return vote.Who == m.Id && vote.Text == text && accepted(m.Public, text, vote.Sig)
		})
		if first && voted && m.Weight >= 1 && m.Weight <= 20 {
			total += m.Weight
		}
	}
	return total
}

// weighed fails unless Weight is want, and the words of the chapter say so, too.
func weighed(t *testing.T, l []api.Member, v []api.Vote, text string, want int) {
	t.Helper()
	if other := sum(l, v, text); other != want {
		t.Fatalf("the words of the chapter say %d, not %d, for %v, %v and %s", other, want, l, v, short(text))
	}
	if got := sign.Weight(l, v, text); got != want {
		t.Fatalf("Weight is %d, not %d, for %v, %v and %s", got, want, l, v, short(text))
	}
}

func TestVote(t *testing.T) {
	for _, who := range []int{0, 1, -1, 7, math.MaxInt, math.MinInt} {
		for _, secret := range secrets() {
			for _, text := range []string{"", "abc"} {
				if got, want := sign.Vote(who, secret, text), ballot(who, secret, text); got != want {
					t.Fatalf("Vote(%d, %d, %q) = %v, not %v", who, secret, text, got, want)
				}
			}
		}
	}
	for _, text := range texts() {
		if got, want := sign.Vote(3, 4, text), ballot(3, 4, text); got != want {
			t.Fatalf("Vote(3, 4, %s) = %v, not %v", short(text), got, want)
		}
	}
}

func TestWeight(t *testing.T) {
	l := []api.Member{person(1, 3), person(2, 5), person(3, 9)}
	for _, x := range []struct {
		votes []api.Vote
		want  int
	}{
		{nil, 0},
		{[]api.Vote{}, 0},
		{[]api.Vote{{}}, 0},
		{[]api.Vote{ballot(1, 1, "t")}, 3},
		{[]api.Vote{ballot(2, 2, "t"), ballot(1, 1, "u")}, 5},
		{[]api.Vote{ballot(3, 3, "t"), ballot(1, 1, "t")}, 12},
		{[]api.Vote{ballot(1, 1, "t"), ballot(2, 2, "t"), ballot(3, 3, "t")}, 17},
		{[]api.Vote{ballot(1, 1, "t"), ballot(1, 1, "t"), ballot(1, 1, "t")}, 3},
		{[]api.Vote{ballot(4, 4, "t"), ballot(0, 0, "t"), ballot(-1, -1, "t"), ballot(4, 1, "t")}, 0},
		{[]api.Vote{ballot(1, 2, "t"), ballot(2, 3, "t"), ballot(3, 1, "t")}, 0},
		{[]api.Vote{ballot(1, 2, "t"), ballot(1, 1, "t")}, 3},
		{[]api.Vote{{Who: 1, Text: "t"}, {Who: 2, Text: "t", Sig: signature(2, "u")}, {Who: 3, Text: "u", Sig: signature(3, "t")}}, 0},
		{[]api.Vote{ballot(1, 1, "T"), ballot(2, 2, "t "), ballot(3, 3, "")}, 0},
	} {
		weighed(t, l, x.votes, "t", x.want)
	}
	weighed(t, nil, nil, "t", 0)
	weighed(t, []api.Member{}, []api.Vote{}, "", 0)
	weighed(t, nil, []api.Vote{ballot(1, 1, "t"), {}}, "t", 0)
	weighed(t, []api.Member{{}}, []api.Vote{{}}, "", 0)
}

// TestWeightTexts holds that the text may be any.
func TestWeightTexts(t *testing.T) {
	l := []api.Member{person(1, 3), person(2, 5)}
	for _, text := range few() {
		weighed(t, l, []api.Vote{ballot(2, 2, text), ballot(1, 1, text)}, text, 8)
		weighed(t, l, []api.Vote{ballot(2, 2, text), ballot(1, 1, text+"x")}, text, 5)
		weighed(t, l, []api.Vote{ballot(2, 2, text), ballot(1, 1, text+"x")}, text+"x", 3)
	}
}

// TestWeightBorders takes weights inside and outside of 1 to 20.
func TestWeightBorders(t *testing.T) {
	for _, x := range []struct{ weight, want int }{
		{1, 1}, {2, 2}, {19, 19}, {20, 20},
		{0, 0}, {-1, 0}, {-20, 0}, {21, 0}, {22, 0}, {40, 0}, {276, 0}, {1<<32 + 1, 0}, {math.MaxInt, 0}, {math.MinInt, 0}, {math.MinInt + 1, 0},
	} {
		weighed(t, []api.Member{person(1, x.weight)}, []api.Vote{ballot(1, 1, "t")}, "t", x.want)
		weighed(t, []api.Member{person(2, 7), person(1, x.weight)}, []api.Vote{ballot(1, 1, "t"), ballot(2, 2, "t")}, "t", 7+x.want)
	}
}

// TestWeightTwice takes members that occur twice: the first one counts alone.
func TestWeightTwice(t *testing.T) {
	first, second := person(1, 3), api.Member{Id: 1, Weight: 5, Public: public(2)}
	other := person(4, 10)
	byFirst, bySecond := ballot(1, 1, "t"), ballot(1, 2, "t")
	for _, x := range []struct {
		members []api.Member
		votes   []api.Vote
		want    int
	}{
		{[]api.Member{first, first}, []api.Vote{byFirst}, 3},
		{[]api.Member{first, first}, []api.Vote{byFirst, byFirst}, 3},
		{[]api.Member{first, person(1, 5)}, []api.Vote{byFirst}, 3},
		{[]api.Member{person(1, 5), first}, []api.Vote{byFirst}, 5},
		{[]api.Member{first, second}, []api.Vote{byFirst}, 3},
		{[]api.Member{first, second}, []api.Vote{byFirst, bySecond}, 3},
		{[]api.Member{first, second}, []api.Vote{bySecond, byFirst}, 3},
		{[]api.Member{first, second}, []api.Vote{bySecond}, 0},
		{[]api.Member{second, first}, []api.Vote{bySecond}, 5},
		{[]api.Member{second, first}, []api.Vote{byFirst}, 0},
		{[]api.Member{second, other, first}, []api.Vote{byFirst, ballot(4, 4, "t")}, 10},
		{[]api.Member{person(1, 0), first}, []api.Vote{byFirst}, 0},
		{[]api.Member{person(1, 21), first, person(1, 20)}, []api.Vote{byFirst}, 0},
		{[]api.Member{person(1, -3), second}, []api.Vote{byFirst, bySecond}, 0},
		{[]api.Member{{Id: 1, Weight: 20}, first}, []api.Vote{byFirst}, 0},
		{[]api.Member{first, first, first}, nil, 0},
	} {
		weighed(t, x.members, x.votes, "t", x.want)
	}
}

// TestWeightOneKey takes members that share a key: each one has to vote under its own Id.
func TestWeightOneKey(t *testing.T) {
	l := []api.Member{{Id: 5, Weight: 3, Public: public(1)}, {Id: 6, Weight: 4, Public: public(1)}}
	weighed(t, l, []api.Vote{ballot(5, 1, "t")}, "t", 3)
	weighed(t, l, []api.Vote{ballot(6, 1, "t")}, "t", 4)
	weighed(t, l, []api.Vote{ballot(6, 1, "t"), ballot(5, 1, "t")}, "t", 7)
	weighed(t, l, []api.Vote{ballot(1, 1, "t"), ballot(7, 1, "t")}, "t", 0)
}

// TestWeightIds takes Ids and public keys of all sorts.
func TestWeightIds(t *testing.T) {
	var l []api.Member
	var v []api.Vote
	for _, id := range []int{0, 1, -1, 2, -2, 1 << 32, math.MaxInt, math.MinInt} {
		l, v = append(l, person(id, 2)), append(v, ballot(id, id, "t"))
	}
	weighed(t, l, v, "t", 16)
	weighed(t, l, v[3:], "t", 10)
	for _, key := range []int{0, -1, p - 1, p, p + 1, 2, math.MaxInt, math.MinInt} {
		for _, s := range []api.Sig{{}, {R: 1}, signature(1, "t"), signature(key, "t")} {
			weighed(t, []api.Member{{Id: 1, Weight: 3, Public: key}}, []api.Vote{{Who: 1, Text: "t", Sig: s}}, "t", 0)
		}
	}
	weighed(t, []api.Member{{Id: 1, Weight: 3, Public: 1}}, []api.Vote{{Who: 1, Text: "t", Sig: api.Sig{R: 1}}}, "t", 3)
}

// TestWeightSignatures takes signatures that do not verify, in front of one that does.
func TestWeightSignatures(t *testing.T) {
	s := signature(1, "t")
	var v []api.Vote
	for _, other := range []api.Sig{{}, {R: s.R}, {S: s.S}, {R: s.S, S: s.R}, {R: s.R + 1, S: s.S}, {R: s.R, S: s.S + 1}, {R: s.R + p, S: s.S}, {R: s.R, S: s.S + q}, {R: s.R, S: s.S - q}, {R: p - s.R, S: s.S}, signature(2, "t"), signature(1, "u")} {
		v = append(v, api.Vote{Who: 1, Text: "t", Sig: other})
	}
	weighed(t, []api.Member{person(1, 3)}, v, "t", 0)
	weighed(t, []api.Member{person(1, 3)}, append(v, ballot(1, 1, "t")), "t", 3)
}

// TestWeightMany takes more members than an epoch has, and more votes.
func TestWeightMany(t *testing.T) {
	var l []api.Member
	var v []api.Vote
	want := 0
	for id := range 300 {
		l = append(l, person(id, id%23))
		if id%3 == 0 {
			continue
		}
		v = append(v, ballot(id, id, "t"), ballot(id, id, "t"))
		if id%23 <= 20 {
			want += id % 23
		}
	}
	weighed(t, l, v, "t", want)
	weighed(t, append(slices.Clone(l), l...), append(slices.Clone(v), v...), "t", want)
}

// assembly returns members and votes of all sorts, of which only some count.
func assembly(r *rand.Rand) ([]api.Member, []api.Vote) {
	// Most keys belong to the Id that they stand beside.
	key := func(id int) int {
		if r.Intn(4) == 0 {
			return r.Intn(5)
		}
		return id
	}
	var l []api.Member
	var v []api.Vote
	for range r.Intn(7) {
		id := r.Intn(5)
		l = append(l, api.Member{Id: id, Weight: r.Intn(24) - 1, Public: public(key(id))})
	}
	for range r.Intn(12) {
		who := r.Intn(6)
		vote := ballot(who, key(who), []string{"t", "t", "t", "u"}[r.Intn(4)])
		if r.Intn(8) == 0 {
			vote.Text = strings.ToUpper(vote.Text)
		}
		v = append(v, vote)
	}
	return l, v
}

func TestWeightRandom(t *testing.T) {
	r := rand.New(rand.NewSource(6))
	found := 0
	for range 1000 {
		l, v := assembly(r)
		want := sum(l, v, "t")
		weighed(t, l, v, "t", want)
		if want > 0 {
			found++
		}
	}
	if found < 300 || found > 900 {
		t.Errorf("%d of 1000 weights are not 0", found)
	}
}
