package safe_test

import (
	"math"
	"math/big"
	"math/rand"
	"slices"
	"testing"

	"marlinspike/api"
	"marlinspike/safe"
)

const one = 1 << 32

// edges are numbers around which something turns, rising, each once.
func edges() []int {
	l := []int{math.MinInt, math.MaxInt}
	for _, i := range []int{1, 2, 3, 7, 10, 62, 63, 64, 1<<15 - 1, 1<<31 - 1, 1<<32 - 1, 1 << 33, 3037000499, 3037000500, 1 << 40, 1<<62 - 1} {
		l = append(l, i-1, i, i+1, -i-1, -i, -i+1, math.MinInt+i, math.MaxInt-i, math.MinInt/2+i, math.MaxInt/2-i)
	}
	slices.Sort(l)
	return slices.Compact(l)
}

// numbers are so many of all sizes, the same ones each time.
func numbers(n int) []int {
	r := rand.New(rand.NewSource(2))
	l := make([]int, n)
	for i := range l {
		l[i] = int(r.Uint64()) >> r.Intn(64)
	}
	return l
}

// pairs are all pairs of edges, and others of all sizes.
func pairs() [][2]int {
	var l [][2]int
	for _, a := range edges() {
		for _, b := range edges() {
			l = append(l, [2]int{a, b})
		}
	}
	for a := range slices.Chunk(numbers(20000), 2) {
		l = append(l, [2]int{a[0], a[1]})
	}
	return l
}

func wide(n int) *big.Int { return big.NewInt(int64(n)) }

// answer is a number without bounds, as a call should answer it.
func answer(n *big.Int) (int, api.Errno) {
	if !n.IsInt64() {
		return 0, api.ErrMany
	}
	return int(n.Int64()), api.OK
}

// against holds a call of two numbers against what it should answer, at all pairs.
func against(t *testing.T, name string, call, want func(a, b int) (int, api.Errno)) {
	t.Helper()
	for _, p := range pairs() {
		check(t, name, p[0], p[1], call, want)
	}
}

func check(t *testing.T, name string, a, b int, call, want func(a, b int) (int, api.Errno)) {
	t.Helper()
	n, e := call(a, b)
	if m, f := want(a, b); n != m || e != f {
		t.Errorf("%s(%d, %d) = %d, %d, want %d, %d", name, a, b, n, e, m, f)
	}
}

// row is a call of two numbers, and what it answers.
type row struct {
	a, b, want int
	err        api.Errno
}

func hold(t *testing.T, name string, call func(a, b int) (int, api.Errno), rows []row) {
	t.Helper()
	for _, r := range rows {
		if n, e := call(r.a, r.b); n != r.want || e != r.err {
			t.Errorf("%s(%d, %d) = %d, %d, want %d, %d", name, r.a, r.b, n, e, r.want, r.err)
		}
	}
}

// P2.1: Add.

func TestAddRefusesJustWhatIsNoInt(t *testing.T) {
	hold(t, "Add", safe.Add, []row{
		{2, 3, 5, 0},
		{-2, -3, -5, 0},
		{0, 0, 0, 0},
		{math.MaxInt, 0, math.MaxInt, 0},
		{math.MaxInt - 1, 1, math.MaxInt, 0},
		{math.MaxInt, 1, 0, api.ErrMany},
		{1, math.MaxInt, 0, api.ErrMany},
		{math.MaxInt, math.MaxInt, 0, api.ErrMany},
		{math.MinInt + 1, -1, math.MinInt, 0},
		{math.MinInt, -1, 0, api.ErrMany},
		{-1, math.MinInt, 0, api.ErrMany},
		{math.MinInt, math.MinInt, 0, api.ErrMany},
		{math.MinInt, math.MaxInt, -1, 0},
		{math.MaxInt, math.MinInt, -1, 0},
		{1 << 62, 1 << 62, 0, api.ErrMany},
		{-1 << 62, -1 << 62, math.MinInt, 0},
	})
}

func TestAddIsTheSumWithoutBounds(t *testing.T) {
	against(t, "Add", safe.Add, func(a, b int) (int, api.Errno) {
		return answer(new(big.Int).Add(wide(a), wide(b)))
	})
}

// P2.1: Sub.

func TestSubRefusesJustWhatIsNoInt(t *testing.T) {
	hold(t, "Sub", safe.Sub, []row{
		{2, 3, -1, 0},
		{-2, -3, 1, 0},
		{0, math.MaxInt, -math.MaxInt, 0},
		{-1, math.MaxInt, math.MinInt, 0},
		{-2, math.MaxInt, 0, api.ErrMany},
		{0, math.MinInt, 0, api.ErrMany},
		{-1, math.MinInt, math.MaxInt, 0},
		{math.MinInt, math.MinInt, 0, 0},
		{math.MaxInt, math.MaxInt, 0, 0},
		{math.MaxInt, -1, 0, api.ErrMany},
		{math.MinInt, 1, 0, api.ErrMany},
		{math.MinInt, -1, math.MinInt + 1, 0},
		{math.MaxInt, math.MinInt, 0, api.ErrMany},
		{math.MinInt, math.MaxInt, 0, api.ErrMany},
	})
}

func TestSubIsTheDifferenceWithoutBounds(t *testing.T) {
	against(t, "Sub", safe.Sub, func(a, b int) (int, api.Errno) {
		return answer(new(big.Int).Sub(wide(a), wide(b)))
	})
}

// P2.1: Mul.

func TestMulRefusesJustWhatIsNoInt(t *testing.T) {
	hold(t, "Mul", safe.Mul, []row{
		{6, 7, 42, 0},
		{-6, 7, -42, 0},
		{-6, -7, 42, 0},
		{0, math.MinInt, 0, 0},
		{math.MinInt, 0, 0, 0},
		{math.MinInt, 1, math.MinInt, 0},
		{1, math.MinInt, math.MinInt, 0},
		{math.MinInt, -1, 0, api.ErrMany},
		{-1, math.MinInt, 0, api.ErrMany},
		{math.MaxInt, -1, -math.MaxInt, 0},
		{-1, math.MaxInt, -math.MaxInt, 0},
		{math.MinInt, math.MinInt, 0, api.ErrMany},
		{math.MaxInt, math.MaxInt, 0, api.ErrMany},
		{1 << 31, 1 << 31, 1 << 62, 0},
		{1 << 31, 1 << 32, 0, api.ErrMany},
		{-1 << 31, 1 << 32, math.MinInt, 0},
		{1 << 31, -1 << 32, math.MinInt, 0},
		{-1 << 31, -1 << 32, 0, api.ErrMany},
		{1 << 32, 1 << 32, 0, api.ErrMany},
		{3037000499, 3037000499, 9223372030926249001, 0},
		{3037000500, 3037000500, 0, api.ErrMany},
		{math.MaxInt / 7, 7, math.MaxInt, 0}, // the greatest int is a multiple of 7
		{math.MaxInt/7 + 1, 7, 0, api.ErrMany},
	})
}

func TestMulIsTheProductWithoutBounds(t *testing.T) {
	against(t, "Mul", safe.Mul, func(a, b int) (int, api.Errno) {
		return answer(new(big.Int).Mul(wide(a), wide(b)))
	})
}

// P2.1: Sum.

func TestSumGoesFromTheLeft(t *testing.T) {
	const most, least = math.MaxInt, math.MinInt
	for _, c := range []struct {
		l    []int
		want int
		err  api.Errno
	}{
		{nil, 0, 0},
		{[]int{}, 0, 0},
		{[]int{0}, 0, 0},
		{[]int{least}, least, 0},
		{[]int{most}, most, 0},
		{[]int{1, 2, 3, 4}, 10, 0},
		{[]int{5, -7}, -2, 0},
		{[]int{most, 1, -1}, 0, api.ErrMany},
		{[]int{most, -1, 1}, most, 0},
		{[]int{1, -1, most}, most, 0},
		{[]int{least, -1, 1}, 0, api.ErrMany},
		{[]int{least, 1, -1}, least, 0},
		{[]int{most, most, least, least}, 0, api.ErrMany},
		{[]int{most, least, most, 1}, most, 0},
		{[]int{1 << 62, 1 << 62, 1 << 62, 1 << 62}, 0, api.ErrMany},
		{[]int{1, 2, most}, 0, api.ErrMany},
	} {
		if n, e := safe.Sum(c.l...); n != c.want || e != c.err {
			t.Errorf("Sum(%v) = %d, %d, want %d, %d", c.l, n, e, c.want, c.err)
		}
	}
}

// sumOf goes from the left without bounds, and looks at each sum on the way.
func sumOf(l []int) (int, api.Errno) {
	sum := new(big.Int)
	for _, n := range l {
		if _, e := answer(sum.Add(sum, wide(n))); e != 0 {
			return 0, e
		}
	}
	return answer(sum)
}

func TestSumIsEachSumWithoutBounds(t *testing.T) {
	refused := 0
	for l := range slices.Chunk(numbers(20000), 5) {
		n, e := safe.Sum(l...)
		if m, f := sumOf(l); n != m || e != f {
			t.Errorf("Sum(%v) = %d, %d, want %d, %d", l, n, e, m, f)
		}
		if e != 0 {
			refused++
		}
	}
	if refused == 0 {
		t.Error("no sum was refused: the lists try too little")
	}
}

func TestSumLeavesItsListAsItIs(t *testing.T) {
	l := []int{3, math.MaxInt, -4, 0}
	was := slices.Clone(l)
	safe.Sum(l...)
	if !slices.Equal(l, was) {
		t.Errorf("Sum turned its list to %v", l)
	}
}

// P2.1: Clamp.

func TestClampLooksAtLowAheadOfHigh(t *testing.T) {
	const most, least = math.MaxInt, math.MinInt
	for _, c := range []struct{ a, low, high, want int }{
		{5, 1, 9, 5},
		{0, 1, 9, 1},
		{1, 1, 9, 1},
		{9, 1, 9, 9},
		{10, 1, 9, 9},
		{4, 4, 4, 4},
		{3, 4, 4, 4},
		{5, 4, 4, 4},
		{0, 9, 1, 9}, // low above high: below both
		{1, 9, 1, 9}, // at high
		{5, 9, 1, 9}, // between
		{8, 9, 1, 9},
		{9, 9, 1, 1}, // at low
		{10, 9, 1, 1},
		{least, most, least, most},
		{most, most, least, least},
		{0, least, most, 0},
		{least, least, most, least},
		{most, least, most, most},
		{-5, -9, -7, -7},
		{-10, -9, -7, -9},
	} {
		if n := safe.Clamp(c.a, c.low, c.high); n != c.want {
			t.Errorf("Clamp(%d, %d, %d) = %d, want %d", c.a, c.low, c.high, n, c.want)
		}
	}
}

// P2.1: Most.

func TestMostStopsAtEitherEnd(t *testing.T) {
	const most, least = math.MaxInt, math.MinInt
	for _, c := range []struct{ a, b, want int }{
		{2, 3, 5},
		{2, -3, -1},
		{most - 1, 1, most},
		{most, 1, most},
		{1, most, most},
		{most, most, most},
		{least + 1, -1, least},
		{least, -1, least},
		{-1, least, least},
		{least, least, least},
		{least, most, -1},
		{most, least, -1},
	} {
		if n := safe.Most(c.a, c.b); n != c.want {
			t.Errorf("Most(%d, %d) = %d, want %d", c.a, c.b, n, c.want)
		}
	}
}

func TestMostIsTheSumWithoutBoundsBroughtBack(t *testing.T) {
	for _, p := range pairs() {
		sum := new(big.Int).Add(wide(p[0]), wide(p[1]))
		want := int(sum.Int64())
		if !sum.IsInt64() {
			want = math.MaxInt
			if sum.Sign() < 0 {
				want = math.MinInt
			}
		}
		if n := safe.Most(p[0], p[1]); n != want {
			t.Errorf("Most(%d, %d) = %d, want %d", p[0], p[1], n, want)
		}
	}
}

// P2.2: Share.

func TestShareRefusesJustWhatIsNoInt(t *testing.T) {
	hold(t, "Share", safe.Share, []row{
		{1, 3, 1431655765, 0}, // the chapter's example
		{2, 3, 2863311530, 0},
		{0, 1, 0, 0},
		{0, math.MaxInt, 0, 0},
		{1, 1, one, 0},
		{7, 7, one, 0},
		{math.MaxInt, math.MaxInt, one, 0},
		{math.MaxInt - 1, math.MaxInt, one - 1, 0},
		{7, 2, 7 * one / 2, 0},
		{1, one, 1, 0},
		{1, one + 1, 0, 0},
		{1, math.MaxInt, 0, 0},
		{1<<31 - 1, 1, (1<<31 - 1) * one, 0},
		{1 << 31, 1, 0, api.ErrMany},
		{1<<32 - 1, 2, (1<<32 - 1) * one / 2, 0},
		{1 << 32, 2, 0, api.ErrMany},
		{math.MaxInt, one, math.MaxInt, 0}, // just an int, rounded down from nothing
		{math.MaxInt, one - 1, 0, api.ErrMany},
		{math.MaxInt, one + 1, math.MaxInt - 1<<31, 0},
		{math.MaxInt, 1, 0, api.ErrMany},
		{math.MaxInt, 2, 0, api.ErrMany},
		{1 << 32, 1, 0, api.ErrMany},
	})
}

func TestShareRefusesWrongNumbers(t *testing.T) {
	for _, b := range []int{0, -1, -one, math.MinInt} {
		for _, a := range []int{0, 1, math.MaxInt, -1, math.MinInt} {
			hold(t, "Share", safe.Share, []row{{a, b, 0, api.ErrArg}})
		}
	}
	for _, b := range []int{1, 2, math.MaxInt} {
		for _, a := range []int{-1, -one, math.MinInt} {
			hold(t, "Share", safe.Share, []row{{a, b, 0, api.ErrArg}})
		}
	}
}

func shareOf(a, b int) (int, api.Errno) {
	if b < 1 || a < 0 {
		return 0, api.ErrArg
	}
	n := new(big.Int).Mul(wide(a), wide(one))
	return answer(n.Div(n, wide(b)))
}

func TestShareIsTheQuotientWithoutBounds(t *testing.T) {
	against(t, "Share", safe.Share, shareOf)
}

// At each whole, the greatest part whose share is an int, and the next one.
func TestShareIsJustAnIntAndJustNone(t *testing.T) {
	for _, b := range edges() {
		if b < 1 || b > one {
			continue
		}
		// a * 2^32 < 2^63 * b, as a is at most the greatest that is below 2^31 * b.
		last := new(big.Int).Mul(wide(1<<31), wide(b))
		last.Sub(last, wide(1))
		a := int(last.Int64())
		check(t, "Share", a, b, safe.Share, shareOf)
		if _, e := safe.Share(a, b); e != 0 {
			t.Errorf("Share(%d, %d) is refused by %d", a, b, e)
		}
		if a == math.MaxInt {
			continue
		}
		if n, e := safe.Share(a+1, b); n != 0 || e != api.ErrMany {
			t.Errorf("Share(%d, %d) = %d, %d, want 0, %d", a+1, b, n, e, api.ErrMany)
		}
	}
}

// P2.2: Of.

func TestOfRefusesJustWhatIsNoInt(t *testing.T) {
	hold(t, "Of", safe.Of, []row{
		{1431655765, 3, 0, 0}, // the chapter's examples
		{1 << 31, 7, 3, 0},
		{0, 0, 0, 0},
		{0, math.MaxInt, 0, 0},
		{math.MaxInt, 0, 0, 0},
		{1, one - 1, 0, 0},
		{1, one, 1, 0},
		{one, 7, 7, 0},
		{one, math.MaxInt, math.MaxInt, 0},
		{one - 1, math.MaxInt, math.MaxInt - 1<<31, 0},
		{one + 1, math.MaxInt, 0, api.ErrMany},
		{3 * one, 7, 21, 0},
		{3 * one / 2, 7, 10, 0},
		{2 * one, 1<<62 - 1, math.MaxInt - 1, 0},
		{2*one + 1, 1 << 61, 1<<62 + 1<<29, 0},
		{2 * one, 1 << 62, 0, api.ErrMany},
		{1 << 62, 2 * one, 0, api.ErrMany},
		{1 << 62, 2*one - 1, math.MaxInt - (1<<30 - 1), 0},
		{math.MaxInt, one, math.MaxInt, 0},
		{math.MaxInt, 2 * one, 0, api.ErrMany},
		{math.MaxInt, math.MaxInt, 0, api.ErrMany},
	})
}

func TestOfRefusesWrongNumbers(t *testing.T) {
	for _, a := range []int{-1, -one, math.MinInt} {
		for _, b := range []int{0, 1, math.MaxInt, -1, math.MinInt} {
			hold(t, "Of", safe.Of, []row{{a, b, 0, api.ErrArg}, {b, a, 0, api.ErrArg}})
		}
	}
}

func TestOfIsTheProductWithoutBounds(t *testing.T) {
	against(t, "Of", safe.Of, func(share, n int) (int, api.Errno) {
		if share < 0 || n < 0 {
			return 0, api.ErrArg
		}
		m := new(big.Int).Mul(wide(share), wide(n))
		return answer(m.Rsh(m, 32))
	})
}

// P2.2: Halves.

func TestHalvesRoundTowardZero(t *testing.T) {
	const most, least = math.MaxInt, math.MinInt
	for _, c := range []struct{ n, k, want int }{
		{100, 1, 50},
		{100, 3, 12},
		{7, 1, 3},
		{-7, 1, -3},
		{-7, 2, -1},
		{-7, 3, 0},
		{-1, 1, 0},
		{-1, 62, 0},
		{1, 1, 0},
		{0, 5, 0},
		{7, 0, 7},
		{7, -1, 7},
		{-7, least, -7},
		{least, 0, least},
		{least, -5, least},
		{most, 61, 3},
		{most, 62, 1},
		{most, 63, 0},
		{most, 64, 0},
		{most, most, 0},
		{1 << 62, 62, 1},
		{1<<62 - 1, 62, 0},
		{-1 << 62, 62, -1},
		{-1<<62 + 1, 62, 0},
		{least, 1, -1 << 62},
		{least, 61, -4},
		{least, 62, -2},
		{least, 63, 0},
		{least, 64, 0},
		{least, most, 0},
	} {
		if n := safe.Halves(c.n, c.k); n != c.want {
			t.Errorf("Halves(%d, %d) = %d, want %d", c.n, c.k, n, c.want)
		}
	}
}

func TestHalvesAreTheQuotientWithoutBounds(t *testing.T) {
	for _, n := range append(edges(), numbers(500)...) {
		for k := -2; k <= 130; k++ {
			want := n
			switch {
			case k > 62:
				want = 0
			case k > 0:
				want = int(new(big.Int).Quo(wide(n), new(big.Int).Lsh(wide(1), uint(k))).Int64())
			}
			if m := safe.Halves(n, k); m != want {
				t.Errorf("Halves(%d, %d) = %d, want %d", n, k, m, want)
			}
		}
	}
}

// P2.2: Int32.

func TestInt32RefusesJustWhatIsBeyond(t *testing.T) {
	for _, n := range append(edges(), math.MaxInt32, math.MaxInt32+1, math.MinInt32, math.MinInt32-1, 1<<32, 1<<32+5, -1<<32) {
		want, err := int32(0), api.ErrMany
		if n >= -1<<31 && n < 1<<31 {
			want, err = int32(n), api.OK
		}
		if m, e := safe.Int32(n); m != want || e != err {
			t.Errorf("Int32(%d) = %d, %d, want %d, %d", n, m, e, want, err)
		}
	}
}

// P2.3.

func TestWhatIsAddedAndTakenAwayIsThereAgain(t *testing.T) {
	for _, p := range pairs() {
		a, b := p[0], p[1]
		if sum, e := safe.Add(a, b); e == 0 {
			if n, e := safe.Sub(sum, b); n != a || e != 0 {
				t.Errorf("Sub(Add(%d, %d), %d) = %d, %d", a, b, b, n, e)
			}
		}
		if rest, e := safe.Sub(a, b); e == 0 {
			if n, e := safe.Add(rest, b); n != a || e != 0 {
				t.Errorf("Add(Sub(%d, %d), %d) = %d, %d", a, b, b, n, e)
			}
		}
	}
}

// P2.4: the share loses less than one part of 2^32, so that the answer is at most one below for each whole of at most 2^32, and at most 2^31 (of a whole of 2^63) for all.
func TestAShareOfTheWholeIsAtMostOneBelowThePart(t *testing.T) {
	tried := 0
	for _, p := range pairs() {
		a, b := p[0], p[1]
		share, e := safe.Share(a, b)
		if e != 0 {
			continue
		}
		n, e := safe.Of(share, b)
		below := 1
		if b > one {
			below = 1 << 31
		}
		if e != 0 || n > a || a-n > below {
			t.Errorf("Of(Share(%d, %d), %d) = %d, %d", a, b, b, n, e)
		}
		if b <= one {
			tried++
		}
	}
	if tried < 1000 {
		t.Errorf("only %d shares were tried", tried)
	}
}

// P2.5.

func TestHalvesGoOn(t *testing.T) {
	for _, n := range append(edges(), numbers(100)...) {
		for k := range 66 {
			for j := range 66 {
				if n == math.MinInt && k+j == 63 && max(k, j) < 63 {
					// The least int over 2^63 is -1, but Halves is 0 of all above 62.
					continue
				}
				if m, want := safe.Halves(safe.Halves(n, k), j), safe.Halves(n, k+j); m != want {
					t.Errorf("Halves(Halves(%d, %d), %d) = %d, want %d", n, k, j, m, want)
				}
			}
		}
	}
}
