package weight_test

import (
	"math"
	"math/big"
	"math/rand"
	"slices"
	"testing"

	"sortes/api"
	"sortes/weight"
)

// P8.1

// pointed fails unless Points answers as the words of the chapter want, and as fits says.
func pointed(t *testing.T, l []api.Member, fits bool) {
	t.Helper()
	got, ok := weight.Points(l)
	want, right := points(l)
	if right != fits {
		t.Fatalf("the words of the chapter make %t of %v", right, l)
	}
	if ok != right || !slices.EqualFunc(got, want, slices.Equal) || !ok && got != nil {
		t.Fatalf("Points(%v) = %v, %t, not %v, %t", l, got, ok, want, right)
	}
}

func TestPoints(t *testing.T) {
	for _, l := range [][]int{
		{1}, {2}, {19}, {20}, {1, 1}, {2, 1, 3}, {20, 1}, {1, 20}, {20, 20, 20}, {20, 20, 19, 1}, {1, 19, 20, 20},
		slices.Repeat([]int{1}, 12), slices.Repeat([]int{1}, 13), slices.Repeat([]int{4}, 13),
		append(slices.Repeat([]int{5}, 11), 4, 1), append(slices.Repeat([]int{5}, 10), 2, 3, 5),
	} {
		pointed(t, people(l...), true)
	}
	r := rand.New(rand.NewSource(3))
	for range 300 {
		pointed(t, people(weights(r)...), true)
	}
}

func TestPointsOfNobody(t *testing.T) {
	pointed(t, nil, false)
	pointed(t, []api.Member{}, false)
	for _, l := range [][]int{
		{0}, {21}, {-1}, {22}, {40}, {60}, {61}, {1, 0}, {0, 1}, {1, 21}, {21, 1}, {-1, 5}, {5, -1, 5}, {5, 5, 0},
		{20, 20, 20, 1}, {1, 20, 20, 20}, {20, 20, 19, 2}, {20, 20, 20, 20}, {20, 20, 20, 0}, {20, 20, 20, -1}, {20, 20, 21, -1},
		{math.MaxInt}, {math.MinInt}, {math.MaxInt, math.MaxInt, 3}, {math.MinInt, math.MinInt, 5}, {1 << 62, 1 << 62, 1 << 62, 1 << 62, 7}, {1, 1 << 32}, {1<<32 + 1},
		slices.Repeat([]int{1}, 14), slices.Repeat([]int{1}, 15), slices.Repeat([]int{1}, 60), slices.Repeat([]int{1}, 61),
		slices.Repeat([]int{5}, 13), append(slices.Repeat([]int{5}, 11), 5, 1), slices.Repeat([]int{20}, 13), append(slices.Repeat([]int{4}, 12), 13),
	} {
		pointed(t, people(l...), false)
	}
}

// TestPointsIds holds that Ids may be any ints, if they are different.
func TestPointsIds(t *testing.T) {
	ids := []int{0, -1, 1, math.MinInt, math.MaxInt, 2, 1 << 32}
	var l []api.Member
	for i, id := range ids {
		l = append(l, api.Member{Id: id, Weight: 1 + i, Public: 4})
	}
	pointed(t, l, true)
	for i := range l {
		for j := range l {
			twice := slices.Clone(l)
			twice[i].Id = l[j].Id
			pointed(t, twice, i == j)
		}
	}
	many := people(slices.Repeat([]int{1}, 13)...)
	many[12].Id = many[0].Id
	pointed(t, many, false)
	pointed(t, many[:12], true)
}

// P8.2

func TestNeed(t *testing.T) {
	for total := -100; total <= 1000; total++ {
		if a, b := weight.Most(total), weight.Need(total); a != most(total) || b != need(total) {
			t.Fatalf("Most and Need of %d: %d, %d, not %d, %d", total, a, b, most(total), need(total))
		}
	}
	for _, x := range []struct{ total, most, need int }{
		{-1, 0, 0}, {0, 0, 0}, {1, 0, 1}, {2, 0, 1}, {3, 0, 1}, {4, 1, 2}, {6, 1, 2}, {7, 2, 3}, {60, 19, 20}, {61, 20, 21},
		{math.MinInt, 0, 0}, {math.MinInt + 1, 0, 0}, {math.MinInt / 3, 0, 0},
		{math.MaxInt, 3074457345618258602, 3074457345618258603}, {math.MaxInt - 1, 3074457345618258601, 3074457345618258602},
		{math.MaxInt - 2, 3074457345618258601, 3074457345618258602}, {math.MaxInt - 3, 3074457345618258601, 3074457345618258602}, {math.MaxInt - 4, 3074457345618258600, 3074457345618258601},
		{math.MaxInt / 3, 1024819115206086200, 1024819115206086201}, {1 << 62, 1537228672809129301, 1537228672809129302},
	} {
		if a, b := weight.Most(x.total), weight.Need(x.total); a != x.most || b != x.need {
			t.Errorf("Most and Need of %d: %d, %d, not %d, %d", x.total, a, b, x.most, x.need)
		}
	}
}

// TestNeedLeast holds that Most is less than a third, and Need is not, without sums that wrap around.
func TestNeedLeast(t *testing.T) {
	r := rand.New(rand.NewSource(4))
	for range 3000 {
		total := int(r.Uint64()>>1>>r.Intn(63)) + 1
		if total < 1 {
			continue
		}
		third := func(w int) bool { return new(big.Int).Mul(large(3), large(w)).Cmp(large(total)) < 0 }
		if a, b := weight.Most(total), weight.Need(total); !third(a) || third(a+1) || b != a+1 {
			t.Fatalf("Most and Need of %d: %d, %d", total, a, b)
		}
	}
}
