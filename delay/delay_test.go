package delay_test

import (
	"math"
	"math/big"
	"math/rand"
	"strings"
	"testing"

	"sortes/api"
	"sortes/delay"
)

// P10.1

func TestStart(t *testing.T) {
	r := rand.New(rand.NewSource(1))
	words := []string{"", "/", " ", "start/", "abc", "1/2", "\x00", "\xff\xfe", "ä", strings.Repeat("a", 100000)}
	for range 500 {
		b := make([]byte, r.Intn(200))
		r.Read(b)
		words = append(words, string(b))
	}
	for _, s := range words {
		if got, want := delay.Start(s), start(s); got != want || !isReduced(got) {
			t.Errorf("Start(%s) = %q, not %q", short(s), got, want)
		}
	}
}

// TestStartPublished holds numbers that were computed without Go.
func TestStartPublished(t *testing.T) {
	for _, x := range [][2]string{
		{"", "63144945751315966149112516070132699875"},
		{"abc", "144105493915180215601462645921219416853"},
		{"1/2", "151367316296794396889779698794682594085"},
		{"\x00\xff", "115646261466897569959696256899186512992"},
	} {
		if got := delay.Start(x[0]); got != right(decimal(x[1])) {
			t.Errorf("Start(%q) = %d, not %s", x[0], value(got), x[1])
		}
	}
}

// TestStartShort looks for texts whose number is shorter than N, as it has no zeros in front.
func TestStartShort(t *testing.T) {
	found := 0
	for i := range 3000 {
		s := of(i + 1)
		if got := delay.Start(string(s)); got != start(string(s)) {
			t.Fatalf("Start(%q) = %q", s, got)
		} else if len(got) < 16 {
			found++
		}
	}
	if found == 0 {
		t.Error("no number was shorter than N")
	}
}

func TestSquare(t *testing.T) {
	r := rand.New(rand.NewSource(2))
	l := numbers()
	for range 3000 {
		l = append(l, some(r))
	}
	for _, x := range l {
		if got, want := delay.Square(x), right(run(value(x), 1)); got != want {
			t.Errorf("Square(%q) = %q, not %q", x, got, want)
		}
	}
}

// ran fails unless Run returns what the words of the chapter want.
func ran(t *testing.T, x api.Nat, steps int) {
	t.Helper()
	if got, ok := delay.Run(x, steps); !ok || got != right(run(value(x), steps)) {
		t.Fatalf("Run(%s, %d) = %q, %t, not %q", short(string(x)), steps, got, ok, right(run(value(x), steps)))
	}
}

func TestRun(t *testing.T) {
	for _, x := range numbers() {
		for _, steps := range []int{0, 1, 2, 3, 7, 8, 9, 64, 1000} {
			ran(t, x, steps)
		}
	}
	r := rand.New(rand.NewSource(3))
	for steps := range 300 {
		ran(t, some(r), steps)
		ran(t, residue(r), steps)
	}
	for range 50 {
		ran(t, some(r), r.Intn(10000))
	}
}

func TestRunLong(t *testing.T) {
	for _, steps := range []int{most - 9, most - 1, most} {
		ran(t, near(-3), steps)
	}
	ran(t, near(0), most)
	ran(t, near(-1), most)
	ran(t, "", most)
}

// TestRunPublished holds numbers that were computed without Go.
func TestRunPublished(t *testing.T) {
	for _, x := range []struct {
		x    api.Nat
		t    int
		want string
	}{
		{of(2), 0, "2"},
		{of(2), 1, "4"},
		{of(2), 3, "256"},
		{of(3), 7, "4997699407103695555761981199875735592"},
		{of(3), 100, "8961520260014963959937856773616800186"},
		{near(-1), 0, "183437050444448162921448078311229901656"},
		{near(-1), 1, "1"},
		{near(-2), 20, "23495623296332845442642882577061944311"},
		{api.Nat("\x01" + strings.Repeat("\x00", 24) + "\x01"), 1000, "2841475439155061648464848971139783307"},
		{of(2), most, "160095366805047597309303258816585407054"},
		{delay.Start("abc"), most - 1, "104322483404465816460928620581196007069"},
	} {
		if got, ok := delay.Run(x.x, x.t); !ok || got != right(decimal(x.want)) {
			t.Errorf("Run(%q, %d) = %d, %t, not %s", x.x, x.t, value(got), ok, x.want)
		}
	}
}

func TestRunOutside(t *testing.T) {
	for _, steps := range outside() {
		for _, x := range []api.Nat{"", of(2), near(1), "\x00\x05"} {
			if got, ok := delay.Run(x, steps); ok || got != "" {
				t.Errorf("Run(%q, %d) = %q, %t", x, steps, got, ok)
			}
		}
	}
}

// TestLongNumbers holds that numbers of any length are no trouble.
func TestLongNumbers(t *testing.T) {
	long := api.Nat(strings.Repeat("\xabcdef", 300000))
	if got, want := delay.Square(long), right(run(value(long), 1)); got != want {
		t.Errorf("Square is %q, not %q", got, want)
	}
	ran(t, long, 0)
	ran(t, long, 5)
	p := proved(t, long, 4)
	verified(t, long, p.y, 4, p.middles, false)
	verified(t, of(2), long, 1, nil, false)
	verified(t, of(2), of(16), 2, []api.Nat{long}, false)
	w := delay.New(long, 3)
	if got, want := w.Save(), "work 0 3 "+run(value(long), 0).String(); got != want {
		t.Errorf("Save is %q, not %q", got, want)
	}
	d := api.Dispute{Low: 0, High: 1, From: long, A: long, B: right(run(value(long), 1))}
	if got := delay.Decide(d); got != 1 {
		t.Errorf("Decide is %d", got)
	}
}

// P10.2

func TestProve(t *testing.T) {
	for _, x := range numbers() {
		for length := 1; length <= 64; length *= 2 {
			proved(t, x, length)
		}
	}
	r := rand.New(rand.NewSource(4))
	for range 300 {
		proved(t, some(r), 1<<r.Intn(11))
	}
}

func TestProveLong(t *testing.T) {
	for length := 1; length <= most; length *= 2 {
		proved(t, near(length%5-2), length)
	}
	proved(t, "", most)
}

// TestProvePublished holds proofs that were computed without Go.
func TestProvePublished(t *testing.T) {
	for _, x := range []struct {
		x       api.Nat
		t       int
		y       string
		middles string
	}{
		{of(2), 1, "4", ""},
		{of(2), 2, "16", "4"},
		{of(3), 4, "43046721", "81 166472053212215072568774493766914961502"},
		{near(5), 8, "3490613439874530275596130702846654711", "152587890625 63481948390120814317568157459730068287 114095361124569458607028120969368376564"},
		{delay.Start("abc"), 64, "128889987443585881852338918868273401038", "152774729640114736460976711110638636957 113080617715497529629935077382288298753 57804643941987459135651226186300013049 156103536845486092795156638883838795197 127916505635999731318388716144754491303 76566005929626571167419144890681895331"},
		{"", 4, "0", "0 0"},
		{of(1), 4, "1", "1 1"},
		{near(-1), 2, "1", "1"},
		{of(7), most, "175173664445038265816858776872495121168", "59084807375109346992085949568954643399 150623845994403386955505296193733253874 21222209810381492292296377679868391466 177366739979163924158691359970010487992 161088695789524200681631810634498190967 18177001262504673793307297554503898399 119307349770841668644596595379476578189 20967912431218598261643387227970774558 68905559662695014775913602439097932020 34797085700930900878158404399402979522 111607060957957223908119543228191416117 113393182246583105489919242524174520993 16912790414045260829540463820879148052 13614025738867289344981858599262323264 33766289167460623399294609580580146614 17116197003638476062617857976376447805 144853376565119085779942307977310251907 26275946179323735136315348636856071325 171697833113259195644400570018550204026 4164581777824443409621915068559412200"},
	} {
		want := proof{y: right(decimal(x.y)), ok: true}
		for _, m := range strings.Fields(x.middles) {
			want.middles = append(want.middles, right(decimal(m)))
		}
		var got proof
		got.y, got.middles, got.ok = delay.Prove(x.x, x.t)
		if !got.is(want) {
			t.Errorf("Prove(%q, %d) = %v, not %v", x.x, x.t, got, want)
		}
	}
}

// lengthless are numbers of steps that no proof has.
func lengthless() []int {
	l := append(outside(), 0, 3, 5, 6, 7, 9, 10, 12, 15, 17, 24, 1000, most-1, most/2+1, most/2-1, 3*most/4)
	for bits := 21; bits < 63; bits++ {
		l = append(l, 1<<bits, -(1 << bits))
	}
	return l
}

func TestProveOutside(t *testing.T) {
	for _, length := range lengthless() {
		for _, x := range []api.Nat{"", of(2), near(1), "\x00\x05"} {
			if y, middles, ok := delay.Prove(x, length); y != "" || len(middles) != 0 || ok {
				t.Errorf("Prove(%q, %d) = %q, %q, %t", x, length, y, middles, ok)
			}
		}
	}
}

// P10.3

func TestVerify(t *testing.T) {
	r := rand.New(rand.NewSource(5))
	for _, x := range append(plain(), residue(r), residue(r)) {
		for length := 1; length <= 128; length *= 2 {
			p := prove(x, length)
			verified(t, x, p.y, length, p.middles, true)
		}
	}
	for length := 1; length <= most; length *= 2 {
		x := residue(r)
		p := proved(t, x, length)
		verified(t, x, p.y, length, p.middles, true)
	}
}

// changed returns numbers that are not x, and that stand for other ones.
func changed(r *rand.Rand, x api.Nat) []api.Nat {
	var l []api.Nat
	v := value(x)
	for _, d := range []int{1, -1, 2, 256, 1 << 40} {
		if sum := v.Add(v, large(d)); sum.Sign() >= 0 {
			l = append(l, right(rest(sum)))
		}
		v = value(x)
	}
	l = append(l, right(times(v, v)), residue(r), of(1))
	var others []api.Nat
	for _, y := range l {
		if value(y).Cmp(value(x)) != 0 && value(y).Cmp(n) < 0 {
			others = append(others, y)
		}
	}
	return others
}

// unreduced returns numbers that have the same rest as x, and are not reduced.
func unreduced(x api.Nat) []api.Nat {
	v := value(x)
	l := []api.Nat{wide(x, 1), wide(x, 20)}
	for range 3 {
		v.Add(v, n)
		l = append(l, right(v))
	}
	return l
}

// TestVerifyWrong takes proofs of which one number is another one.
func TestVerifyWrong(t *testing.T) {
	r := rand.New(rand.NewSource(6))
	for length := 1; length <= 256; length *= 2 {
		x := residue(r)
		p := prove(x, length)
		for _, y := range changed(r, p.y) {
			verified(t, x, y, length, p.middles, false)
		}
		for _, other := range changed(r, x) {
			verified(t, other, p.y, length, p.middles, false)
		}
		// The number N - x has the square of x, but after the first challenge the middles belong to another number.
		verified(t, right(new(big.Int).Sub(n, value(x))), p.y, length, p.middles, length <= 2)
		for i, m := range p.middles {
			for _, other := range changed(r, m) {
				p.middles[i] = other
				verified(t, x, p.y, length, p.middles, false)
			}
			p.middles[i] = m
		}
		verified(t, x, p.y, length, p.middles, true)
	}
}

// TestVerifyUnreduced takes proofs with numbers that are right modulo N, but not reduced.
func TestVerifyUnreduced(t *testing.T) {
	r := rand.New(rand.NewSource(7))
	for _, x := range []api.Nat{"", of(1), of(5), near(-1), residue(r)} {
		for length := 1; length <= 16; length *= 2 {
			p := prove(x, length)
			for _, other := range unreduced(x) {
				verified(t, other, p.y, length, p.middles, false)
				// What is proved of it is proved of its rest.
				verified(t, x, proved(t, other, length).y, length, p.middles, true)
			}
			for _, other := range unreduced(p.y) {
				verified(t, x, other, length, p.middles, false)
			}
			for i, m := range p.middles {
				for _, other := range unreduced(m) {
					p.middles[i] = other
					verified(t, x, p.y, length, p.middles, false)
				}
				p.middles[i] = m
			}
		}
	}
}

// TestVerifyUnfit takes proofs that would fit but for numbers that are not reduced: their challenges are made with the numbers as they are.
func TestVerifyUnfit(t *testing.T) {
	for _, x := range []api.Nat{near(0), near(1), near(7), wide(of(7), 1)} {
		from := value(x)
		to := run(from, 2)
		m := run(from, 1)
		verified(t, x, right(to), 2, []api.Nat{right(m)}, false)
		for _, y := range unreduced(right(to)) {
			verified(t, of(7), y, 2, []api.Nat{of(49)}, false)
			verified(t, x, y, 1, nil, false)
		}
	}
	// The number 0 and N are one modulo N, and all their powers.
	for _, x := range []api.Nat{"", "\x00", near(0)} {
		for _, y := range []api.Nat{"", "\x00", near(0)} {
			for _, m := range []api.Nat{"", "\x00", near(0)} {
				verified(t, x, y, 2, []api.Nat{m}, x == "" && y == "" && m == "")
				verified(t, x, y, 4, []api.Nat{"", m}, x == "" && y == "" && m == "")
				verified(t, x, y, 4, []api.Nat{m, ""}, x == "" && y == "" && m == "")
				verified(t, x, y, 1, nil, x == "" && y == "")
			}
		}
	}
}

// TestVerifyMiddles takes too many middles, and too few.
func TestVerifyMiddles(t *testing.T) {
	r := rand.New(rand.NewSource(8))
	for _, x := range []api.Nat{"", of(1), near(-1), residue(r)} {
		for length := 1; length <= 64; length *= 2 {
			p := prove(x, length)
			for i := range p.middles {
				verified(t, x, p.y, length, p.middles[:i], false)
				verified(t, x, p.y, length, p.middles[i+1:], false)
			}
			for _, m := range []api.Nat{"", of(1), p.y, x} {
				verified(t, x, p.y, length, append(p.middles[:len(p.middles):len(p.middles)], m), false)
				verified(t, x, p.y, length, append([]api.Nat{m}, p.middles...), false)
			}
		}
	}
	verified(t, of(1), of(1), most, make([]api.Nat, 1000000), false)
	verified(t, "", "", most, make([]api.Nat, 20), true)
	verified(t, "", "", most, make([]api.Nat, 21), false)
	verified(t, "", "", most, make([]api.Nat, 19), false)
}

// TestVerifyLength takes the middles of another number of steps, and numbers of steps that no proof has.
func TestVerifyLength(t *testing.T) {
	r := rand.New(rand.NewSource(9))
	for _, x := range []api.Nat{of(1), "", residue(r)} {
		for length := 1; length <= 32; length *= 2 {
			p := prove(x, length)
			for _, other := range append(lengthless(), 1, 2, 4, 8, 16, 32, most) {
				if other != length {
					verified(t, x, p.y, other, p.middles, false)
				}
			}
		}
		for _, length := range lengthless() {
			for i := range 65 {
				// All powers of 0 are 0, and those of 1 are 1.
				l := make([]api.Nat, i)
				for j := range l {
					l[j] = x
				}
				verified(t, x, x, length, l, false)
			}
		}
	}
	for _, i := range []int{21, 22, 32, 62, 63} {
		verified(t, "", "", 1<<i, make([]api.Nat, i), false)
	}
	verified(t, "", "", math.MinInt, nil, false)
}

// TestVerifyForeign takes any numbers of a random proof.
func TestVerifyForeign(t *testing.T) {
	r := rand.New(rand.NewSource(10))
	for range 3000 {
		length := 1 << r.Intn(4)
		var middles []api.Nat
		for range r.Intn(4) {
			middles = append(middles, some(r))
		}
		x, y := some(r), some(r)
		verified(t, x, y, length, middles, verify(x, y, length, middles))
	}
}

// TestVerifyWeak takes wrong middles that Verify accepts all the same, as the words of the chapter want: a 0 makes both sides 0, and N - m has the even powers of m.
func TestVerifyWeak(t *testing.T) {
	verified(t, "", "", 2, []api.Nat{of(1)}, true)
	verified(t, "", "", 2, []api.Nat{near(-1)}, true)
	verified(t, "", of(1), 2, []api.Nat{""}, true)
	verified(t, of(3), of(5), 2, []api.Nat{""}, true)
	verified(t, of(3), of(5), 4, []api.Nat{of(9), ""}, true)
	verified(t, of(3), of(5), 4, []api.Nat{"", of(9)}, true)
	verified(t, "", of(1), 2, []api.Nat{of(1)}, false)
	verified(t, of(1), near(-1), 1, nil, false)
	found := map[bool]int{}
	r := rand.New(rand.NewSource(11))
	for range 100 {
		x := residue(r)
		p := prove(x, 2)
		m := right(new(big.Int).Sub(n, value(p.middles[0])))
		want := verify(x, p.y, 2, []api.Nat{m})
		verified(t, x, p.y, 2, []api.Nat{m}, want)
		found[want]++
	}
	if found[true] < 20 || found[false] < 20 {
		t.Errorf("the results were %v", found)
	}
}
