package group_test

import (
	"math"
	"math/big"
	"math/rand"
	"testing"

	"sortes/api"
	"sortes/group"
)

// P4.3

// isMember says by the words of the chapter whether a is a member.
func isMember(a int) bool {
	return a >= 1 && a <= p-1 && power(a, q, p) == 1
}

func TestMember(t *testing.T) {
	r := rand.New(rand.NewSource(6))
	l := edges(p)
	for n := -300; n <= 300; n++ {
		l = append(l, n, p+n, p-1+n, 2*p+n, -p+n, q+n, math.MaxInt-300+n, math.MinInt+300+n)
	}
	for range 500 {
		l = append(l, some(r), r.Intn(p))
	}
	found := 0
	for _, a := range l {
		if got := group.Member(a); got != isMember(a) {
			t.Fatalf("Member(%d) = %t", a, got)
		} else if got {
			found++
		}
	}
	if found < 200 || found > len(l)/2 {
		t.Errorf("%d of %d numbers are members", found, len(l))
	}
}

// TestMemberSquares holds that the members are the squares.
func TestMemberSquares(t *testing.T) {
	r := rand.New(rand.NewSource(7))
	for range 500 {
		a := 1 + r.Intn(p-1)
		if !group.Member(square(a)) {
			t.Fatalf("%d, the square of %d, is no member", square(a), a)
		}
		if group.Member(a) != (big.Jacobi(large(a), large(p)) == 1) {
			t.Fatalf("Member(%d) = %t", a, group.Member(a))
		}
	}
}

// TestMemberNeighbours takes numbers that differ from a member by a multiple of P, and its negative.
func TestMemberNeighbours(t *testing.T) {
	for _, a := range members() {
		if !group.Member(a) {
			t.Fatalf("%d is no member", a)
		}
		for _, b := range []int{-a, p - a, a + p, a - p, a + 2*p, a - 2*p, a - 4*p, math.MinInt + a} {
			if group.Member(b) {
				t.Fatalf("%d is a member, as %d", b, a)
			}
		}
	}
	for _, a := range []int{0, p, -p, 2 * p, p - 1, -1, p + 1, math.MinInt, math.MaxInt} {
		if group.Member(a) {
			t.Errorf("%d is a member", a)
		}
	}
}

// P4.4

func TestScalar(t *testing.T) {
	for _, s := range texts() {
		if got, want := group.Scalar(s), rest(number("s/"+s), q); got != want {
			t.Fatalf("Scalar(%s) = %d, not %d", short(s), got, want)
		}
	}
}

func TestElement(t *testing.T) {
	for _, s := range texts() {
		root := 1 + rest(number("e/"+s), p-1)
		if got, want := group.Element(s), square(root); got != want {
			t.Fatalf("Element(%s) = %d, not %d", short(s), got, want)
		}
	}
}

// TestTextsPublished holds results that were computed without Go.
func TestTextsPublished(t *testing.T) {
	for _, x := range []struct {
		text            string
		scalar, element int
	}{
		{"", 1147018074920141306, 235593913123343099},
		{"abc", 1095499976010952679, 853158240773403587},
		{"s/", 340306866680703653, 1999253548352963978},
		{"e/", 854325841442760635, 1093433136072962495},
		{"round/1", 647868117546317941, 1060283656915180136},
		{"\xff\x00", 510757848275195629, 1175769783236383826},
		{"caf\u00e9", 1096965803290183541, 909213325765713583},
	} {
		if scalar, element := group.Scalar(x.text), group.Element(x.text); scalar != x.scalar || element != x.element {
			t.Errorf("Scalar and Element of %q: %d, %d, not %d, %d", x.text, scalar, element, x.scalar, x.element)
		}
	}
}

// TestTextsDiffer holds that no two texts lead to one number or element.
func TestTextsDiffer(t *testing.T) {
	seen := map[int]string{}
	done := map[string]bool{}
	for _, s := range texts() {
		if done[s] {
			continue
		}
		done[s] = true
		for _, n := range []int{group.Scalar(s), group.Element(s)} {
			if other, ok := seen[n]; ok {
				t.Fatalf("%d belongs to %s and %s", n, short(s), short(other))
			}
			seen[n] = s
		}
	}
}

// TestConstants holds what the chapter says of the constants of package api.
func TestConstants(t *testing.T) {
	if !large(p).ProbablyPrime(20) || !large(q).ProbablyPrime(20) || p != 2*q+1 {
		t.Error("P and Q")
	}
	if !isMember(api.G) || api.G == 1 {
		t.Error("G")
	}
}
