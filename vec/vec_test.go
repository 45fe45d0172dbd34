package vec_test

import (
	"math"
	"math/big"
	"math/rand"
	"regexp"
	"slices"
	"strconv"
	"strings"
	"testing"

	"marlinspike/api"
	"marlinspike/vec"
)

// most is the greatest that a part may be.
const most = 1 << 30

// of is a vector of its parts.
func of(cpu, mem, gpu int) api.Vec { return api.Vec{Cpu: cpu, Mem: mem, Gpu: gpu} }

// parts are a vector's parts.
func parts(v api.Vec) [3]int { return [3]int{v.Cpu, v.Mem, v.Gpu} }

// with is a vector with another part.
func with(v api.Vec, part, n int) api.Vec {
	p := parts(v)
	p[part] = n
	return of(p[0], p[1], p[2])
}

// every are all vectors of some numbers.
func every(numbers ...int) []api.Vec {
	var l []api.Vec
	for _, a := range numbers {
		for _, b := range numbers {
			for _, c := range numbers {
				l = append(l, of(a, b, c))
			}
		}
	}
	return l
}

// edges are vectors at whose parts something turns.
func edges() []api.Vec {
	return every(math.MinInt, -most, -1, 0, 1, most-1, most, most+1, math.MaxInt)
}

// inside are vectors that may be, at the edges and small.
func inside() []api.Vec { return every(0, 1, 2, 3, 7, most/2, most-1, most) }

// random are so many vectors that may be, of all sizes, the same ones each time.
func random(n int) []api.Vec {
	r := rand.New(rand.NewSource(6))
	part := func() int {
		if r.Intn(4) == 0 {
			return 0
		}
		return r.Intn(most+1) >> r.Intn(31)
	}
	l := make([]api.Vec, n)
	for i := range l {
		l[i] = of(part(), part(), part())
	}
	return l
}

// wide is a number without bounds.
func wide(n int) *big.Int { return big.NewInt(int64(n)) }

// mayBe tells whether parts without bounds are those of a vector that may be.
func mayBe(p [3]*big.Int) bool {
	for _, n := range p {
		if n.Sign() < 0 || n.Cmp(wide(most)) > 0 {
			return false
		}
	}
	return true
}

// wideOf are a vector's parts, without bounds.
func wideOf(v api.Vec) [3]*big.Int { return [3]*big.Int{wide(v.Cpu), wide(v.Mem), wide(v.Gpu)} }

// answer is what a call should answer, which comes to these parts.
func answer(p [3]*big.Int) (api.Vec, api.Errno) {
	if !mayBe(p) {
		return api.Vec{}, api.ErrMany
	}
	return of(int(p[0].Int64()), int(p[1].Int64()), int(p[2].Int64())), api.OK
}

// modelAdd is a sum without bounds.
func modelAdd(l ...api.Vec) (api.Vec, api.Errno) {
	sum := wideOf(api.Vec{})
	for _, v := range l {
		if !mayBe(wideOf(v)) {
			return api.Vec{}, api.ErrArg
		}
	}
	for _, v := range l {
		for i, n := range wideOf(v) {
			sum[i].Add(sum[i], n)
		}
	}
	return answer(sum)
}

// modelSub is a difference without bounds.
func modelSub(a, b api.Vec) (api.Vec, api.Errno) {
	if !mayBe(wideOf(a)) || !mayBe(wideOf(b)) {
		return api.Vec{}, api.ErrArg
	}
	rest := wideOf(a)
	for i, n := range wideOf(b) {
		rest[i].Sub(rest[i], n)
	}
	return answer(rest)
}

// modelTimes is a product without bounds.
func modelTimes(v api.Vec, n int) (api.Vec, api.Errno) {
	if !mayBe(wideOf(v)) || n < 0 {
		return api.Vec{}, api.ErrArg
	}
	p := wideOf(v)
	for i := range p {
		p[i].Mul(p[i], wide(n))
	}
	return answer(p)
}

// modelFits tells whether one fits, by how many of its parts are no more.
func modelFits(v, into api.Vec) bool {
	fit := 0
	for i, n := range parts(v) {
		if parts(into)[i]-n >= 0 {
			fit++
		}
	}
	return fit == 3
}

// modelInto is the greatest number of times, found by halves.
func modelInto(v, whole api.Vec) int {
	if !mayBe(wideOf(v)) || !mayBe(wideOf(whole)) {
		return 0
	}
	low, high := 0, most
	for low < high {
		mid := (low + high + 1) / 2
		if p, err := modelTimes(v, mid); err == api.OK && modelFits(p, whole) {
			low = mid
		} else {
			high = mid - 1
		}
	}
	return low
}

// wantVec holds what a call answers against a vector and an error.
func wantVec(t *testing.T, call string, v api.Vec, err api.Errno, want api.Vec, wantErr api.Errno) {
	t.Helper()
	if v != want || err != wantErr {
		t.Errorf("%s = %v, %d, want %v, %d", call, v, err, want, wantErr)
	}
}

// show is how a call of vectors is told.
func show(name string, l ...api.Vec) string {
	s := name
	for _, v := range l {
		for i, n := range parts(v) {
			s += []string{" (", " ", " "}[i] + strconv.Itoa(n)
		}
		s += ")"
	}
	return s
}

// P6.1: Right.

func TestRight(t *testing.T) {
	for n, want := range map[int]bool{
		math.MinInt:     false,
		-most:           false,
		-1:              false,
		0:               true,
		1:               true,
		most - 1:        true,
		most:            true,
		most + 1:        false,
		1 << 31:         false,
		1 << 32:         false,
		1<<32 + 1:       false,
		math.MaxInt:     false,
		math.MaxInt - 1: false,
	} {
		for part := range 3 {
			for _, v := range []api.Vec{of(0, 0, 0), of(1, 2, 3), of(most, most, most)} {
				v = with(v, part, n)
				if vec.Right(v) != want {
					t.Errorf("%s = %v", show("Right", v), !want)
				}
			}
		}
	}
}

func TestRightLooksAtEachPart(t *testing.T) {
	for _, v := range edges() {
		if got, want := vec.Right(v), mayBe(wideOf(v)); got != want {
			t.Errorf("%s = %v", show("Right", v), got)
		}
	}
}

// P6.1: Fits.

func TestFitsAskEachPart(t *testing.T) {
	whole := of(4, 5, 6)
	for _, v := range []api.Vec{of(4, 5, 6), of(0, 0, 0), of(4, 0, 0), of(0, 5, 0), of(0, 0, 6), of(3, 4, 5), of(-1, -1, -1)} {
		if !vec.Fits(v, whole) {
			t.Errorf("%s = false", show("Fits", v, whole))
		}
	}
	for part := range 3 {
		for _, v := range []api.Vec{whole, of(0, 0, 0), of(-9, -9, -9)} {
			for _, more := range []int{1, 2, most, math.MaxInt - 9} {
				v := with(v, part, parts(whole)[part]+more)
				if vec.Fits(v, whole) {
					t.Errorf("%s = true", show("Fits", v, whole))
				}
			}
		}
	}
}

func TestFitsOfVectorsThatMayNotBe(t *testing.T) {
	for _, c := range []struct {
		v, into api.Vec
		want    bool
	}{
		{of(math.MinInt, math.MinInt, math.MinInt), of(math.MaxInt, math.MaxInt, math.MaxInt), true},
		{of(math.MaxInt, 0, 0), of(math.MinInt, 0, 0), false},
		{of(0, math.MaxInt, 0), of(0, math.MinInt, 0), false},
		{of(0, 0, math.MaxInt), of(0, 0, math.MinInt), false},
		{of(math.MinInt, 0, 0), of(math.MaxInt, 0, 0), true},
		{of(most+1, most+1, most+1), of(most+1, most+1, most+1), true},
		{of(-2, -2, -2), of(-1, -1, -1), true},
		{of(-1, -1, -1), of(-1, -1, -1), true},
		{of(-1, -1, -1), of(-1, -2, -1), false},
	} {
		if got := vec.Fits(c.v, c.into); got != c.want {
			t.Errorf("%s = %v", show("Fits", c.v, c.into), got)
		}
	}
}

func TestFitsOfAllThatMayBe(t *testing.T) {
	for _, a := range inside() {
		for _, b := range inside() {
			if got := vec.Fits(a, b); got != modelFits(a, b) {
				t.Fatalf("%s = %v", show("Fits", a, b), got)
			}
		}
	}
}

// P6.1: Add.

func TestAdd(t *testing.T) {
	for _, c := range []struct {
		l    []api.Vec
		want api.Vec
		err  api.Errno
	}{
		{nil, api.Vec{}, 0},
		{[]api.Vec{}, api.Vec{}, 0},
		{[]api.Vec{{}}, api.Vec{}, 0},
		{[]api.Vec{of(1, 2, 3)}, of(1, 2, 3), 0},
		{[]api.Vec{of(most, most, most)}, of(most, most, most), 0},
		{[]api.Vec{of(1, 2, 3), of(10, 20, 30), of(100, 200, 300)}, of(111, 222, 333), 0},
		{[]api.Vec{of(most, 0, 0), of(0, most, 0), of(0, 0, most)}, of(most, most, most), 0},
		{[]api.Vec{of(most, 1, 1), of(0, 1, 1)}, of(most, 2, 2), 0},
		{[]api.Vec{of(most-1, most-1, most-1), of(1, 1, 1)}, of(most, most, most), 0},
		// A sum that may not be in one part only.
		{[]api.Vec{of(most, 1, 1), of(1, 1, 1)}, api.Vec{}, api.ErrMany},
		{[]api.Vec{of(1, most, 1), of(1, 1, 1)}, api.Vec{}, api.ErrMany},
		{[]api.Vec{of(1, 1, most), of(1, 1, 1)}, api.Vec{}, api.ErrMany},
		{[]api.Vec{of(most-1, 0, 0), of(1, 0, 0), of(0, 5, 0), of(1, 0, 0)}, api.Vec{}, api.ErrMany},
		{[]api.Vec{of(most, most, most), of(most, most, most), {}}, api.Vec{}, api.ErrMany},
		// One that may not be, wherever it stands.
		{[]api.Vec{of(-1, 0, 0)}, api.Vec{}, api.ErrArg},
		{[]api.Vec{of(0, most+1, 0)}, api.Vec{}, api.ErrArg},
		{[]api.Vec{of(0, 0, math.MinInt), of(1, 1, 1)}, api.Vec{}, api.ErrArg},
		{[]api.Vec{of(1, 1, 1), of(0, 0, math.MaxInt)}, api.Vec{}, api.ErrArg},
		{[]api.Vec{of(5, 5, 5), of(-1, 0, 0), of(5, 5, 5)}, api.Vec{}, api.ErrArg},
		{[]api.Vec{of(math.MaxInt, 0, 0), of(math.MinInt, 0, 0)}, api.Vec{}, api.ErrArg},
		{[]api.Vec{of(most+1, 0, 0), of(-1, 0, 0)}, api.Vec{}, api.ErrArg},
		// ErrArg goes ahead of ErrMany.
		{[]api.Vec{of(most, 0, 0), of(most, 0, 0), of(0, -1, 0)}, api.Vec{}, api.ErrArg},
		{[]api.Vec{of(0, -1, 0), of(most, 0, 0), of(most, 0, 0)}, api.Vec{}, api.ErrArg},
	} {
		v, err := vec.Add(c.l...)
		wantVec(t, show("Add", c.l...), v, err, c.want, c.err)
	}
}

func TestAddIsTheSumWithoutBounds(t *testing.T) {
	for _, a := range edges() {
		for _, b := range []api.Vec{{}, of(1, 0, 0), of(0, 1, 0), of(0, 0, 1), of(1, 1, 1), of(-1, -1, -1), of(most, most, most), of(0, 0, most+1)} {
			v, err := vec.Add(a, b)
			want, wantErr := modelAdd(a, b)
			wantVec(t, show("Add", a, b), v, err, want, wantErr)
		}
	}
	seen := map[api.Errno]int{}
	for l := range slices.Chunk(random(30000), 12) {
		v, err := vec.Add(l...)
		want, wantErr := modelAdd(l...)
		wantVec(t, show("Add", l...), v, err, want, wantErr)
		seen[err]++
	}
	if seen[api.OK] < 100 || seen[api.ErrMany] < 100 {
		t.Errorf("too few of one kind were tried: %v", seen)
	}
}

func TestAddOfMany(t *testing.T) {
	l := slices.Repeat([]api.Vec{of(1<<14, 1, 0)}, 1<<16)
	v, err := vec.Add(l...)
	wantVec(t, "Add of 2^16", v, err, of(most, 1<<16, 0), api.OK)
	v, err = vec.Add(append(l, of(1, 0, 0))...)
	wantVec(t, "Add of 2^16 and one more", v, err, api.Vec{}, api.ErrMany)
	v, err = vec.Add(slices.Repeat([]api.Vec{of(0, 0, most)}, 1<<16)...)
	wantVec(t, "Add of 2^16 great ones", v, err, api.Vec{}, api.ErrMany)
}

// P6.1: Sub.

func TestSub(t *testing.T) {
	for _, c := range []struct {
		a, b, want api.Vec
		err        api.Errno
	}{
		{api.Vec{}, api.Vec{}, api.Vec{}, 0},
		{of(5, 7, 9), of(1, 2, 3), of(4, 5, 6), 0},
		{of(5, 7, 9), api.Vec{}, of(5, 7, 9), 0},
		{of(5, 7, 9), of(5, 7, 9), api.Vec{}, 0},
		{of(most, most, most), of(most, 0, 1), of(0, most, most-1), 0},
		// One part does not fit.
		{of(5, 7, 9), of(6, 0, 0), api.Vec{}, api.ErrMany},
		{of(5, 7, 9), of(0, 8, 0), api.Vec{}, api.ErrMany},
		{of(5, 7, 9), of(0, 0, 10), api.Vec{}, api.ErrMany},
		{api.Vec{}, of(0, 0, 1), api.Vec{}, api.ErrMany},
		{api.Vec{}, of(most, most, most), api.Vec{}, api.ErrMany},
		// One may not be.
		{of(-1, 0, 0), api.Vec{}, api.Vec{}, api.ErrArg},
		{api.Vec{}, of(-1, 0, 0), api.Vec{}, api.ErrArg},
		{of(9, 9, most+1), of(1, 1, 1), api.Vec{}, api.ErrArg},
		{of(9, 9, 9), of(0, most+1, 0), api.Vec{}, api.ErrArg},
		{of(most+1, 0, 0), of(1, 0, 0), api.Vec{}, api.ErrArg},
		{of(-1, 0, 0), of(-1, 0, 0), api.Vec{}, api.ErrArg},
		{of(math.MinInt, 0, 0), of(math.MaxInt, 0, 0), api.Vec{}, api.ErrArg},
		// ErrArg goes ahead of ErrMany.
		{of(0, -1, 0), of(1, 0, 0), api.Vec{}, api.ErrArg},
		{of(0, 1, 0), of(1, -1, 0), api.Vec{}, api.ErrArg},
	} {
		v, err := vec.Sub(c.a, c.b)
		wantVec(t, show("Sub", c.a, c.b), v, err, c.want, c.err)
	}
}

func TestSubIsTheDifferenceWithoutBounds(t *testing.T) {
	few := []api.Vec{{}, of(1, 0, 0), of(0, 1, 0), of(0, 0, 1), of(1, 1, 1), of(-1, -1, -1), of(most, most, most), of(0, most+1, 0)}
	for _, a := range edges() {
		for _, b := range few {
			for _, p := range [][2]api.Vec{{a, b}, {b, a}} {
				v, err := vec.Sub(p[0], p[1])
				want, wantErr := modelSub(p[0], p[1])
				wantVec(t, show("Sub", p[0], p[1]), v, err, want, wantErr)
			}
		}
	}
	for l := range slices.Chunk(random(20000), 2) {
		v, err := vec.Sub(l[0], l[1])
		want, wantErr := modelSub(l[0], l[1])
		wantVec(t, show("Sub", l...), v, err, want, wantErr)
	}
}

// P6.1: Times.

func TestTimes(t *testing.T) {
	for _, c := range []struct {
		v    api.Vec
		n    int
		want api.Vec
		err  api.Errno
	}{
		{of(1, 2, 3), 0, api.Vec{}, 0},
		{of(most, most, most), 0, api.Vec{}, 0},
		{of(1, 2, 3), 1, of(1, 2, 3), 0},
		{of(most, most, most), 1, of(most, most, most), 0},
		{of(1, 2, 3), 7, of(7, 14, 21), 0},
		{of(4, 0, 2), 2, of(8, 0, 4), 0},
		// One part just may be, and just may not be any more.
		{of(1, 0, 0), most, of(most, 0, 0), 0},
		{of(1, 0, 0), most + 1, api.Vec{}, api.ErrMany},
		{of(1, 1<<29, 1), 2, of(2, most, 2), 0},
		{of(1, 1<<29, 1), 3, api.Vec{}, api.ErrMany},
		{of(1, 1, most), 2, api.Vec{}, api.ErrMany},
		{of(0, 0, 3), most / 3, of(0, 0, most-1), 0},
		{of(0, 0, 3), most/3 + 1, api.Vec{}, api.ErrMany},
		{of(most/2+1, 0, 0), 2, api.Vec{}, api.ErrMany},
		// What goes round: 2^30 times 2^34 is 2^64, of which 0 would be left.
		{of(most, 0, 0), 1 << 34, api.Vec{}, api.ErrMany},
		{of(0, most, 0), 1 << 34, api.Vec{}, api.ErrMany},
		{of(0, 0, most), 1 << 34, api.Vec{}, api.ErrMany},
		{of(1<<29, 1<<29, 1<<29), 1<<35 + 1, api.Vec{}, api.ErrMany},
		{of(1, 2, 3), math.MaxInt, api.Vec{}, api.ErrMany},
		{of(most, most, most), math.MaxInt, api.Vec{}, api.ErrMany},
		// Nothing stays nothing.
		{api.Vec{}, math.MaxInt, api.Vec{}, 0},
		{api.Vec{}, 0, api.Vec{}, 0},
		// What may not be.
		{of(1, 2, 3), -1, api.Vec{}, api.ErrArg},
		{api.Vec{}, -1, api.Vec{}, api.ErrArg},
		{of(1, 2, 3), math.MinInt, api.Vec{}, api.ErrArg},
		{of(-1, 0, 0), 0, api.Vec{}, api.ErrArg},
		{of(0, -1, 0), 1, api.Vec{}, api.ErrArg},
		{of(0, 0, most+1), 0, api.Vec{}, api.ErrArg},
		{of(-1, -1, -1), -1, api.Vec{}, api.ErrArg},
		// ErrArg goes ahead of ErrMany.
		{of(most, -1, 0), 2, api.Vec{}, api.ErrArg},
		{of(math.MaxInt, 0, 0), math.MaxInt, api.Vec{}, api.ErrArg},
		{of(math.MinInt, 0, 0), math.MaxInt, api.Vec{}, api.ErrArg},
	} {
		v, err := vec.Times(c.v, c.n)
		wantVec(t, show("Times "+strconv.Itoa(c.n), c.v), v, err, c.want, c.err)
	}
}

func TestTimesIsTheProductWithoutBounds(t *testing.T) {
	r := rand.New(rand.NewSource(7))
	for _, v := range slices.Concat(edges(), inside(), random(3000)) {
		numbers := []int{math.MinInt, -1, 0, 1, 2, 3, most, most + 1, 1 << 34, math.MaxInt, r.Intn(most), r.Intn(100)}
		for _, p := range parts(v) {
			if p > 0 {
				numbers = append(numbers, most/p, most/p+1)
			}
		}
		for _, n := range numbers {
			got, err := vec.Times(v, n)
			want, wantErr := modelTimes(v, n)
			wantVec(t, show("Times "+strconv.Itoa(n), v), got, err, want, wantErr)
		}
	}
}

// P6.1: Into.

func TestInto(t *testing.T) {
	for _, c := range []struct {
		v, whole api.Vec
		want     int
	}{
		{of(4, 0, 2), of(9, 0, 5), 2},
		{of(1, 2, 3), of(10, 20, 30), 10},
		// Each part bounds.
		{of(1, 2, 3), of(9, 20, 30), 9},
		{of(1, 2, 3), of(10, 19, 30), 9},
		{of(1, 2, 3), of(10, 20, 29), 9},
		{of(1, 2, 3), of(1, 2, 3), 1},
		{of(2, 2, 3), of(1, 9, 9), 0},
		{of(2, 2, 3), of(9, 1, 9), 0},
		{of(2, 2, 3), of(9, 9, 2), 0},
		// A part at 0 bounds nothing.
		{of(0, 1, 1), of(0, 3, 4), 3},
		{of(1, 0, 1), of(5, 0, 4), 4},
		{of(1, 1, 0), of(5, 6, 0), 5},
		{of(0, 1, 1), of(9, 3, 4), 3},
		{of(0, 0, 1), of(0, 0, most), most},
		{of(1, 0, 0), of(most, 0, 0), most},
		{of(0, 1, 0), of(0, most, 0), most},
		{of(1, 1, 1), of(most, most, most), most},
		{of(most, most, most), of(most, most, most), 1},
		{of(most, 0, 0), of(most-1, most, most), 0},
		// All 0.
		{api.Vec{}, api.Vec{}, most},
		{api.Vec{}, of(1, 2, 3), most},
		{api.Vec{}, of(most, most, most), most},
		{of(1, 0, 0), api.Vec{}, 0},
		{of(0, 1, 0), api.Vec{}, 0},
		{of(0, 0, 1), api.Vec{}, 0},
		{of(5, 5, 5), api.Vec{}, 0},
		// One may not be.
		{of(-1, 0, 0), of(5, 5, 5), 0},
		{of(1, 0, -1), of(5, 5, 5), 0},
		{of(1, most+1, 0), of(5, 5, 5), 0},
		{of(1, 1, 1), of(5, -1, 5), 0},
		{of(1, 1, 1), of(most+1, 5, 5), 0},
		{of(0, 1, 1), of(-1, 5, 5), 0},
		{of(-1, -1, -1), of(-5, -5, -5), 0},
		{api.Vec{}, of(-1, 0, 0), 0},
		{api.Vec{}, of(0, 0, most+1), 0},
		{of(-1, 0, 0), of(math.MinInt, 0, 0), 0},
		{of(1, 0, 0), of(math.MaxInt, 0, 0), 0},
	} {
		if n := vec.Into(c.v, c.whole); n != c.want {
			t.Errorf("%s = %d, want %d", show("Into", c.v, c.whole), n, c.want)
		}
	}
}

// P6.5: Into is the greatest number of times.

func TestIntoIsTheGreatestNumberOfTimes(t *testing.T) {
	for l := range slices.Chunk(random(10000), 2) {
		n := vec.Into(l[0], l[1])
		if want := modelInto(l[0], l[1]); n != want {
			t.Fatalf("%s = %d, want %d", show("Into", l...), n, want)
		}
	}
	wholes := slices.Concat(every(0, 1, 6, most-1, most), every(-1, 3, most+1))
	for _, v := range inside() {
		for _, whole := range wholes {
			n := vec.Into(v, whole)
			if want := modelInto(v, whole); n != want {
				t.Fatalf("%s = %d, want %d", show("Into", v, whole), n, want)
			}
		}
	}
}

func TestSoOftenFitsAndOnceMoreDoesNot(t *testing.T) {
	for _, v := range inside() {
		for _, whole := range inside() {
			n := vec.Into(v, whole)
			if p, err := vec.Times(v, n); err != api.OK || !vec.Fits(p, whole) {
				t.Fatalf("%s = %d, which is too often", show("Into", v, whole), n)
			}
			if v == (api.Vec{}) {
				continue
			}
			if p, err := vec.Times(v, n+1); err == api.OK && vec.Fits(p, whole) {
				t.Fatalf("%s = %d, but it fits once more", show("Into", v, whole), n)
			}
		}
	}
}

// P6.4: what is added fits, and is taken away again.

func TestWhatIsAddedFitsAndIsTakenAwayAgain(t *testing.T) {
	tried := 0
	check := func(a, b api.Vec) {
		sum, err := vec.Add(a, b)
		if err != api.OK {
			return
		}
		tried++
		if !vec.Fits(a, sum) || !vec.Fits(b, sum) {
			t.Fatalf("%s = %v, into which not both fit", show("Add", a, b), sum)
		}
		v, err := vec.Sub(sum, b)
		wantVec(t, show("Sub of Add", a, b), v, err, a, api.OK)
		v, err = vec.Sub(sum, a)
		wantVec(t, show("Sub of Add", b, a), v, err, b, api.OK)
	}
	for _, a := range inside() {
		for _, b := range inside() {
			check(a, b)
		}
	}
	for l := range slices.Chunk(random(20000), 2) {
		check(l[0], l[1])
	}
	if tried < 10000 {
		t.Errorf("only %d sums were tried", tried)
	}
}

// P6.2: Format.

func TestFormat(t *testing.T) {
	for v, want := range map[api.Vec]string{
		{}:                    "none",
		of(1, 0, 0):           "cpu=1",
		of(0, 1, 0):           "mem=1",
		of(0, 0, 1):           "gpu=1",
		of(1, 2, 0):           "cpu=1,mem=2",
		of(4, 0, 2):           "cpu=4,gpu=2",
		of(0, 1, 2):           "mem=1,gpu=2",
		of(1, 2, 3):           "cpu=1,mem=2,gpu=3",
		of(10, 200, 3000):     "cpu=10,mem=200,gpu=3000",
		of(most, most, 0):     "cpu=1073741824,mem=1073741824",
		of(0, 0, most+1):      "gpu=1073741825",
		of(-1, 0, 0):          "cpu=-1",
		of(0, -20, 0):         "mem=-20",
		of(1, 0, -3):          "cpu=1,gpu=-3",
		of(-1, -2, -3):        "cpu=-1,mem=-2,gpu=-3",
		of(-1, 1, 0):          "cpu=-1,mem=1",
		of(math.MinInt, 0, 1): "cpu=-9223372036854775808,gpu=1",
		of(0, math.MaxInt, 0): "mem=9223372036854775807",
	} {
		if s := vec.Format(v); s != want {
			t.Errorf("%s = %q, want %q", show("Format", v), s, want)
		}
	}
}

// modelFormat is a vector's text, by what is cut out of one with all parts.
func modelFormat(v api.Vec) string {
	s := ""
	for i, n := range parts(v) {
		s += "," + []string{"cpu", "mem", "gpu"}[i] + "=" + wide(n).String()
	}
	s = regexp.MustCompile(`,[a-z]+=0\b`).ReplaceAllString(s, "")
	if s == "" {
		return "none"
	}
	return s[1:]
}

func TestFormatOfAll(t *testing.T) {
	for _, v := range slices.Concat(edges(), inside(), random(3000)) {
		if s := vec.Format(v); s != modelFormat(v) {
			t.Errorf("%s = %q, want %q", show("Format", v), s, modelFormat(v))
		}
	}
}

// P6.2: Parse.

func TestParse(t *testing.T) {
	for s, want := range map[string]api.Vec{
		"none":                          {},
		"cpu=1":                         of(1, 0, 0),
		"mem=1":                         of(0, 1, 0),
		"gpu=1":                         of(0, 0, 1),
		"cpu=1,mem=2":                   of(1, 2, 0),
		"cpu=4,gpu=2":                   of(4, 0, 2),
		"mem=1,gpu=2":                   of(0, 1, 2),
		"cpu=1,mem=2,gpu=3":             of(1, 2, 3),
		"cpu=10,mem=200,gpu=3000":       of(10, 200, 3000),
		"cpu=1073741823":                of(most-1, 0, 0),
		"cpu=1073741824":                of(most, 0, 0),
		"mem=1073741824,gpu=1073741824": of(0, most, most),
	} {
		v, err := vec.Parse(s)
		wantVec(t, "Parse "+s, v, err, want, api.OK)
	}
}

// wrongTexts are texts that Format gives of no vector that may be.
func wrongTexts() []string {
	return []string{
		// Nothing, and what is not all of it.
		"", " ", ",", ",,", "=", "cpu", "cpu=", "=1", "1", "mem", "mem=", "gpu", "gpu=", "cpu=1,mem", "cpu=1,mem=", "cpu=,mem=1", "cpu1", "cpu 1", "cpu:1",
		// Noughts, and noughts ahead.
		"cpu=0", "mem=0", "gpu=0", "cpu=0,mem=0,gpu=0", "cpu=1,mem=0", "cpu=0,mem=1", "cpu=1,mem=0,gpu=2", "cpu=01", "mem=007", "gpu=00", "cpu=1,gpu=02", "cpu=-0", "cpu=+0",
		// Other orders.
		"mem=1,cpu=1", "gpu=1,cpu=1", "gpu=1,mem=1", "cpu=1,gpu=2,mem=3", "gpu=3,mem=2,cpu=1", "mem=1,gpu=2,cpu=3",
		// Twice.
		"cpu=1,cpu=1", "cpu=1,cpu=2", "mem=1,mem=1", "gpu=2,gpu=2", "cpu=1,mem=1,cpu=1", "cpu=1,mem=2,mem=2,gpu=3", "cpu=1,mem=2,gpu=3,gpu=3", "cpu=0,cpu=1", "cpu=1,cpu=0",
		// Behind the end, and ahead of the start.
		"cpu=1,", ",cpu=1", "cpu=1,,mem=2", "cpu=1 ", " cpu=1", "cpu=1\n", "cpu=1\x00", "cpu=1;mem=2", "cpu=1 mem=2", "cpu=1, mem=2", "cpu=1,mem=2,gpu=3,", "cpu=1,mem=2,gpu=3,x=4", "cpu=1,x", "cpu=1x", "cpu=1=", "cpu=1=1", "cpu==1", "cpu=1mem=2",
		// Other names.
		"CPU=1", "Cpu=1", "cpus=1", "cp=1", "pu=1", "x=1", "cpu =1", "cpu= 1", "cpu=1,disk=2", "x=0", "cpu=1,x=0", "cpu=1,=0",
		// All 0 is told by none alone.
		"none,", ",none", "none,none", "None", "NONE", "non", "nonee", "none ", " none", "none=", "none=0", "none=1", "cpu=1,none", "none,cpu=1", "cpu=none",
		// Numbers that may not be.
		"cpu=-1", "mem=-1", "gpu=-1", "cpu=1,mem=-2", "cpu=-9223372036854775808", "cpu=1073741825", "mem=1073741825", "gpu=1073741825", "cpu=1,mem=2,gpu=1073741825", "cpu=2147483648", "cpu=4294967297", "cpu=9223372036854775807", "cpu=9223372036854775808", "cpu=18446744073709551617", "mem=-18446744073709551615", "cpu=1,gpu=99999999999999999999999999",
		// Other ways of writing them.
		"cpu=+1", "cpu=--1", "cpu=1_0", "cpu=0x1", "cpu=1.0", "cpu=1e3", "cpu=a", "cpu=¼", "cpu=１", "cpu=1\xff", "\xffcpu=1", "cpu\xff=1",
	}
}

func TestParseRefusesWhatFormatDoesNotGive(t *testing.T) {
	for _, s := range wrongTexts() {
		v, err := vec.Parse(s)
		wantVec(t, "Parse "+strconv.Quote(s), v, err, api.Vec{}, api.ErrForm)
	}
}

func TestParseOfLongTexts(t *testing.T) {
	for _, s := range []string{
		strings.Repeat(",", 1<<20),
		strings.Repeat("cpu=1,", 1<<18),
		"cpu=" + strings.Repeat("0", 1<<20) + "1",
		"cpu=" + strings.Repeat("1", 1<<20),
		strings.Repeat("=", 1<<20),
		strings.Repeat("none", 1<<18),
	} {
		v, err := vec.Parse(s)
		wantVec(t, "Parse of "+s[:8]+"..", v, err, api.Vec{}, api.ErrForm)
	}
}

// aText is what Format gives of vectors whose parts have at most ten digits and are above 0.
var aText = regexp.MustCompile(`^(?:none|(?:cpu=([1-9][0-9]{0,9})(?:,|$))?(?:mem=([1-9][0-9]{0,9})(?:,|$))?(?:gpu=([1-9][0-9]{0,9}))?)$`)

// modelParse goes by a pattern.
func modelParse(s string) (api.Vec, api.Errno) {
	m := aText.FindStringSubmatch(s)
	if m == nil || s == "" || strings.HasSuffix(s, ",") {
		return api.Vec{}, api.ErrForm
	}
	var p [3]int
	for i := range p {
		p[i], _ = strconv.Atoi("0" + m[i+1])
		if p[i] > most {
			return api.Vec{}, api.ErrForm
		}
	}
	return of(p[0], p[1], p[2]), api.OK
}

func TestParseOfTurnedTexts(t *testing.T) {
	r := rand.New(rand.NewSource(8))
	pieces := []string{"cpu=", "mem=", "gpu=", "cpu", "mem", "gpu", "none", ",", ",", "=", "0", "1", "2", "12", "1073741824", "1073741825", "-", "+", " "}
	seen := map[api.Errno]int{}
	check := func(s string) {
		v, err := vec.Parse(s)
		want, wantErr := modelParse(s)
		wantVec(t, "Parse "+strconv.Quote(s), v, err, want, wantErr)
		seen[err]++
	}
	for range 60000 {
		s := ""
		for range r.Intn(8) {
			s += pieces[r.Intn(len(pieces))]
		}
		check(s)
	}
	for _, v := range random(10000) {
		s := vec.Format(v)
		check(s)
		at, piece := r.Intn(len(s)), pieces[r.Intn(len(pieces))]
		check(s[:at] + piece + s[at:])
		check(s[:at] + s[at+1:])
		check(s[:at] + piece + s[at+1:])
		check(s[at:] + s[:at])
	}
	if seen[api.OK] < 10000 || seen[api.ErrForm] < 10000 {
		t.Errorf("too few of one kind were tried: %v", seen)
	}
}

// P6.3: what is formatted is parsed.

func TestWhatIsFormattedIsParsed(t *testing.T) {
	for _, v := range slices.Concat(edges(), inside(), random(5000)) {
		s := vec.Format(v)
		got, err := vec.Parse(s)
		if vec.Right(v) {
			wantVec(t, "Parse "+s, got, err, v, api.OK)
		} else {
			wantVec(t, "Parse "+s, got, err, api.Vec{}, api.ErrForm)
		}
	}
}

func TestWhatIsParsedIsFormatted(t *testing.T) {
	for _, s := range append(wrongTexts(), "none", "cpu=1", "cpu=1,mem=2,gpu=3") {
		if v, err := vec.Parse(s); err == api.OK && vec.Format(v) != s {
			t.Errorf("Parse(%q) = %v, which is %q", s, v, vec.Format(v))
		}
	}
}

// P6.2: Less.

func TestLess(t *testing.T) {
	for _, c := range []struct {
		a, b api.Vec
		want bool
	}{
		{api.Vec{}, api.Vec{}, false},
		{of(1, 2, 3), of(1, 2, 3), false},
		{of(most, most, most), of(most, most, most), false},
		// One part decides.
		{of(1, 2, 3), of(2, 2, 3), true},
		{of(1, 2, 3), of(1, 3, 3), true},
		{of(1, 2, 3), of(1, 2, 4), true},
		// The first part that differs decides.
		{of(1, 9, 9), of(2, 0, 0), true},
		{of(1, 9, 0), of(2, 0, 9), true},
		{of(1, 0, 9), of(2, 9, 0), true},
		{of(1, 2, 9), of(1, 3, 0), true},
		{of(0, most, most), of(1, 0, 0), true},
		// Vectors that may not be, too.
		{of(-1, 0, 0), api.Vec{}, true},
		{of(0, -1, 0), api.Vec{}, true},
		{of(0, 0, -1), api.Vec{}, true},
		{of(math.MinInt, 0, 0), of(math.MaxInt, 0, 0), true},
		{of(0, math.MinInt, 0), of(0, math.MaxInt, 0), true},
		{of(0, 0, math.MinInt), of(0, 0, math.MaxInt), true},
	} {
		if got := vec.Less(c.a, c.b); got != c.want {
			t.Errorf("%s = %v", show("Less", c.a, c.b), got)
		}
		if vec.Less(c.b, c.a) {
			t.Errorf("%s = true", show("Less", c.b, c.a))
		}
	}
}

// modelLess goes by which lists of parts come first.
func modelLess(a, b api.Vec) bool {
	p, q := parts(a), parts(b)
	return slices.Compare(p[:], q[:]) < 0
}

func TestLessOfAll(t *testing.T) {
	all := edges()
	for _, a := range all {
		for _, b := range all {
			if got := vec.Less(a, b); got != modelLess(a, b) {
				t.Fatalf("%s = %v", show("Less", a, b), got)
			}
		}
	}
}

// P6.2: Count.

// tally is a vector and how many there are.
func tally(v api.Vec, many int) vec.Tally { return vec.Tally{Vec: v, Many: many} }

func TestCount(t *testing.T) {
	a, b, c := of(1, 2, 3), of(1, 3, 0), of(2, 0, 0)
	for _, x := range []struct {
		l    []api.Vec
		want []vec.Tally
	}{
		{nil, nil},
		{[]api.Vec{}, nil},
		{[]api.Vec{a}, []vec.Tally{tally(a, 1)}},
		{[]api.Vec{{}}, []vec.Tally{tally(api.Vec{}, 1)}},
		{[]api.Vec{a, a, a}, []vec.Tally{tally(a, 3)}},
		{[]api.Vec{{}, {}}, []vec.Tally{tally(api.Vec{}, 2)}},
		{[]api.Vec{a, b, c}, []vec.Tally{tally(a, 1), tally(b, 1), tally(c, 1)}},
		{[]api.Vec{c, b, a}, []vec.Tally{tally(a, 1), tally(b, 1), tally(c, 1)}},
		{[]api.Vec{b, c, b, a, b, c}, []vec.Tally{tally(a, 1), tally(b, 3), tally(c, 2)}},
		// Those that differ in one part only are not the same.
		{[]api.Vec{of(1, 1, 2), of(1, 2, 1), of(2, 1, 1), of(1, 1, 1)}, []vec.Tally{tally(of(1, 1, 1), 1), tally(of(1, 1, 2), 1), tally(of(1, 2, 1), 1), tally(of(2, 1, 1), 1)}},
		// Those that may not be are counted, too.
		{[]api.Vec{of(0, 0, math.MaxInt), of(0, 0, -1), {}, of(0, 0, math.MinInt), of(0, 0, -1)}, []vec.Tally{tally(of(0, 0, math.MinInt), 1), tally(of(0, 0, -1), 2), tally(api.Vec{}, 1), tally(of(0, 0, math.MaxInt), 1)}},
	} {
		if got := vec.Count(x.l...); !slices.Equal(got, x.want) {
			t.Errorf("%s = %v, want %v", show("Count", x.l...), got, x.want)
		}
	}
}

// modelCount counts by sorting.
func modelCount(l ...api.Vec) []vec.Tally {
	l = slices.Clone(l)
	slices.SortFunc(l, func(a, b api.Vec) int {
		p, q := parts(a), parts(b)
		return slices.Compare(p[:], q[:])
	})
	var out []vec.Tally
	for i, v := range l {
		if i == 0 || l[i-1] != v {
			out = append(out, vec.Tally{Vec: v})
		}
		out[len(out)-1].Many++
	}
	return out
}

func TestCountInAnyOrder(t *testing.T) {
	r := rand.New(rand.NewSource(9))
	kinds := [][]api.Vec{edges(), every(0, 1), every(-1, 5), random(50)}
	for i := range 2000 {
		from := kinds[i%len(kinds)]
		l := make([]api.Vec, r.Intn(60))
		for j := range l {
			l[j] = from[r.Intn(len(from))]
		}
		want := modelCount(l...)
		for range 3 {
			if got := vec.Count(l...); !slices.Equal(got, want) {
				t.Fatalf("%s = %v, want %v", show("Count", l...), got, want)
			}
			r.Shuffle(len(l), func(a, b int) { l[a], l[b] = l[b], l[a] })
		}
	}
	all := edges()
	if got := vec.Count(slices.Concat(all, all, all)...); len(got) != len(all) || got[0] != tally(all[0], 3) {
		t.Errorf("of all vectors, three times, there are %d", len(got))
	}
}

// R4.

func TestNothingIsWrittenIntoWhatIsHandedIn(t *testing.T) {
	l := []api.Vec{of(3, 2, 1), of(1, 2, 3), of(3, 2, 1), of(0, 0, 0)}
	for _, bad := range []api.Vec{of(9, 9, 9), of(most, 0, 0), of(-1, 0, 0)} {
		whole := append(slices.Clone(l), bad, of(7, 7, 7))
		was := slices.Clone(whole)
		vec.Add(whole[:4]...)
		vec.Add(whole[:5]...)
		vec.Count(whole[:4]...)
		vec.Count(whole[:5]...)
		if !slices.Equal(whole, was) {
			t.Errorf("the list is %v now, and was %v", whole, was)
		}
	}
}

func TestWhatIsAnsweredIsTheCallers(t *testing.T) {
	l := []api.Vec{of(3, 2, 1), of(1, 2, 3), of(3, 2, 1)}
	want := []vec.Tally{tally(of(1, 2, 3), 1), tally(of(3, 2, 1), 2)}
	first := vec.Count(l...)
	second := vec.Count(l...)
	for i := range first {
		first[i] = tally(of(-1, -1, -1), -1)
	}
	first = append(first, tally(api.Vec{}, 0))
	if !slices.Equal(second, want) || !slices.Equal(vec.Count(l...), want) {
		t.Errorf("what Count answers turned with another answer: %v", second)
	}
	if !slices.Equal(l, []api.Vec{of(3, 2, 1), of(1, 2, 3), of(3, 2, 1)}) {
		t.Errorf("what Count answers is its caller's list: %v", l)
	}
	clear(l)
	if !slices.Equal(second, want) {
		t.Errorf("what Count answers turned with its caller's list: %v", second)
	}
}

// R3: the same calls have the same answers.
func TestTheSameCallsHaveTheSameAnswers(t *testing.T) {
	l := random(300)
	want := vec.Count(l...)
	for range 20 {
		if got := vec.Count(l...); !slices.Equal(got, want) {
			t.Fatalf("Count = %v, and was %v", got, want)
		}
		v, err := vec.Parse("cpu=x")
		wantVec(t, "Parse cpu=x", v, err, api.Vec{}, api.ErrForm)
		v, err = vec.Parse("cpu=4,gpu=2")
		wantVec(t, "Parse cpu=4,gpu=2", v, err, of(4, 0, 2), api.OK)
		v, err = vec.Add(of(1, 0, 0), of(0, 1, 0))
		wantVec(t, "Add", v, err, of(1, 1, 0), api.OK)
	}
}
