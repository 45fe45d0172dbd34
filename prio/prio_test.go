package prio_test

import (
	"fmt"
	"math"
	"math/big"
	"math/rand"
	"slices"
	"testing"

	"marlinspike/api"
	"marlinspike/prio"
)

const (
	// mostTime is the latest time.
	mostTime = 1 << 40
	// million is the greatest number of a job, and the greatest weight.
	million = 1000000
)

// noTimes are numbers that are no time.
var noTimes = []int{-1, -2, -100, -mostTime, math.MinInt, math.MinInt + 1, mostTime + 1, mostTime + 2, 2 * mostTime, 1 << 60, math.MaxInt - 1, math.MaxInt}

// bound is from where to where one number of facts, or of weights, may be, and where it stands.
type bound[T any] struct {
	name      string
	low, high int
	of        func(*T) *int
}

// factBounds and weightBounds are those of the chapter's words.
var (
	factBounds = []bound[prio.Facts]{
		{"Id", 1, million, func(f *prio.Facts) *int { return &f.Id }},
		{"Submitted", 0, mostTime, func(f *prio.Facts) *int { return &f.Submitted }},
		{"Nodes", 1, 256, func(f *prio.Facts) *int { return &f.Nodes }},
		{"Part", 0, 1000, func(f *prio.Facts) *int { return &f.Part }},
		{"Qos", 0, 1000, func(f *prio.Facts) *int { return &f.Qos }},
		{"Share", 0, 1000, func(f *prio.Facts) *int { return &f.Share }},
	}
	weightBounds = []bound[prio.Weights]{
		{"Age", 0, million, func(w *prio.Weights) *int { return &w.Age }},
		{"Size", 0, million, func(w *prio.Weights) *int { return &w.Size }},
		{"Part", 0, million, func(w *prio.Weights) *int { return &w.Part }},
		{"Qos", 0, million, func(w *prio.Weights) *int { return &w.Qos }},
		{"Share", 0, million, func(w *prio.Weights) *int { return &w.Share }},
		{"Most", 1, mostTime, func(w *prio.Weights) *int { return &w.Most }},
	}
)

// inside are numbers within the bound, its ends among them.
func (b bound[T]) inside() []int {
	return []int{b.low, b.low + 1, b.low + (b.high-b.low)/2, b.high - 1, b.high}
}

// outside are numbers beyond it, some of which would be within it in 32 bits.
func (b bound[T]) outside() []int {
	return []int{
		b.low - 1, b.low - 2, -b.high, -b.high - 1, b.low - 1<<32, -1 << 62, math.MinInt, math.MinInt + 1,
		b.high + 1, b.high + 2, 2*b.high + 1, b.low + 1 + 1<<42, 1 << 62, math.MaxInt - 1, math.MaxInt,
	}
}

// with is what stands in x, but for one number.
func (b bound[T]) with(x T, n int) T {
	*b.of(&x) = n
	return x
}

// within tells whether each number of x is within its bound.
func within[T any](x T, bounds ...bound[T]) bool {
	for _, b := range bounds {
		if n := *b.of(&x); n < b.low || n > b.high {
			return false
		}
	}
	return true
}

// ends are lists of numbers that are all at one end, and those of which one is at the other.
func ends[T any](bounds ...bound[T]) []T {
	var low, high T
	for _, b := range bounds {
		low, high = b.with(low, b.low), b.with(high, b.high)
	}
	all := []T{low, high}
	for _, b := range bounds {
		all = append(all, b.with(low, b.high), b.with(high, b.low))
	}
	return all
}

// may tells what the chapter's words ask for ahead of points.
func may(f prio.Facts, w prio.Weights, now int) bool {
	return within(f, factBounds...) && within(w, weightBounds...) && now >= 0 && now <= mostTime
}

// over is n times weight over whole, rounded down, by numbers without bounds.
func over(n, weight, whole int) *big.Int {
	product := new(big.Int).Mul(big.NewInt(int64(n)), big.NewInt(int64(weight)))
	return product.Div(product, big.NewInt(int64(whole)))
}

// points are what the chapter's words say.
func points(f prio.Facts, w prio.Weights, now int) (int, api.Errno) {
	if !may(f, w, now) {
		return 0, api.ErrArg
	}
	age := 0
	if f.Submitted < now {
		age = now - f.Submitted
	}
	if age > w.Most {
		age = w.Most
	}
	sum := over(age, w.Age, w.Most)
	sum.Add(sum, over(f.Nodes, w.Size, 256))
	sum.Add(sum, over(f.Part, w.Part, 1000))
	sum.Add(sum, over(f.Qos, w.Qos, 1000))
	sum.Add(sum, over(f.Share, w.Share, 1000))
	return int(sum.Int64()), api.OK
}

// key is a text that is less than another job's just if the job comes ahead of that one.
func key(f prio.Facts, w prio.Weights, now int) string {
	n, _ := points(f, w, now)
	return fmt.Sprintf("%08d %013d %07d", 10*million-n, f.Submitted, f.Id)
}

// ahead is what the chapter's words say.
func ahead(a, b prio.Facts, w prio.Weights, now int) (bool, api.Errno) {
	if !may(a, w, now) || !may(b, w, now) {
		return false, api.ErrArg
	}
	return key(a, w, now) < key(b, w, now), api.OK
}

// sorted is what the chapter's words say: each job stands behind as many as come ahead of it.
func sorted(l []prio.Facts, w prio.Weights, now int) ([]int, api.Errno) {
	ids := make([]int, len(l))
	if !within(w, weightBounds...) || now < 0 || now > mostTime {
		return nil, api.ErrArg
	}
	for i, f := range l {
		if !within(f, factBounds...) {
			return nil, api.ErrArg
		}
		place := 0
		for j, other := range l {
			if i != j && f.Id == other.Id {
				return nil, api.ErrArg
			}
			if key(other, w, now) < key(f, w, now) {
				place++
			}
		}
		ids[place] = f.Id
	}
	return ids, api.OK
}

// wantPoints holds what Points answers against a number, and against the model.
func wantPoints(t *testing.T, f prio.Facts, w prio.Weights, now, want int) {
	t.Helper()
	if got, err := prio.Points(f, w, now); got != want || err != api.OK {
		t.Errorf("Points(%+v, %+v, %d) = %d, %v, want %d", f, w, now, got, err, want)
	}
	if got, err := points(f, w, now); got != want || err != api.OK {
		t.Errorf("the model's points(%+v, %+v, %d) = %d, %v, want %d", f, w, now, got, err, want)
	}
}

// asModel holds what Points answers against the model alone.
func asModel(t *testing.T, f prio.Facts, w prio.Weights, now int) {
	t.Helper()
	got, err := prio.Points(f, w, now)
	if want, wantErr := points(f, w, now); got != want || err != wantErr {
		t.Errorf("Points(%+v, %+v, %d) = %d, %v, want %d, %v", f, w, now, got, err, want, wantErr)
	}
}

// one is a job of one node, of which nothing else counts.
func one(id, submitted int) prio.Facts { return prio.Facts{Id: id, Submitted: submitted, Nodes: 1} }

// numbers are facts that may be, mostly of few different numbers.
func numbers(r *rand.Rand, id int) prio.Facts {
	if r.Intn(2) == 0 {
		return prio.Facts{Id: id, Submitted: r.Intn(4), Nodes: 1 + r.Intn(2), Part: r.Intn(2), Qos: r.Intn(2), Share: r.Intn(2)}
	}
	return prio.Facts{Id: id, Submitted: r.Intn(mostTime+1) >> r.Intn(41), Nodes: 1 + r.Intn(256), Part: r.Intn(1001), Qos: r.Intn(1001), Share: r.Intn(1001)}
}

// weighing are weights that may be.
func weighing(r *rand.Rand) prio.Weights {
	weight := func() int { return r.Intn(million+1) >> (r.Intn(2) * r.Intn(21)) }
	return prio.Weights{Age: weight(), Size: weight(), Part: weight(), Qos: weight(), Share: weight(), Most: 1 + r.Intn(mostTime)>>r.Intn(41)}
}

// P15.1: Right

func TestRightInsideTheBounds(t *testing.T) {
	for _, f := range ends(factBounds...) {
		for _, b := range factBounds {
			for _, n := range b.inside() {
				if g := b.with(f, n); !prio.Right(g) || !within(g, factBounds...) {
					t.Errorf("Right(%+v) = %v, want true", g, prio.Right(g))
				}
			}
		}
	}
}

func TestRightOutsideTheBounds(t *testing.T) {
	for _, f := range ends(factBounds...) {
		for _, b := range factBounds {
			for _, n := range b.outside() {
				if g := b.with(f, n); prio.Right(g) || within(g, factBounds...) {
					t.Errorf("Right(%+v) = %v, want false: %s", g, prio.Right(g), b.name)
				}
			}
		}
	}
}

func TestRightByNumbers(t *testing.T) {
	right := []prio.Facts{
		{1, 0, 1, 0, 0, 0}, {1000000, 1 << 40, 256, 1000, 1000, 1000}, {7, 100, 3, 0, 1000, 500},
	}
	wrong := []prio.Facts{
		{}, {0, 0, 1, 0, 0, 0}, {1000001, 0, 1, 0, 0, 0}, {1, -1, 1, 0, 0, 0}, {1, 1<<40 + 1, 1, 0, 0, 0}, {1, 0, 0, 0, 0, 0}, {1, 0, 257, 0, 0, 0},
		{1, 0, 1, -1, 0, 0}, {1, 0, 1, 1001, 0, 0}, {1, 0, 1, 0, -1, 0}, {1, 0, 1, 0, 1001, 0}, {1, 0, 1, 0, 0, -1}, {1, 0, 1, 0, 0, 1001},
	}
	for _, f := range right {
		if !prio.Right(f) {
			t.Errorf("Right(%+v) = false", f)
		}
	}
	for _, f := range wrong {
		if prio.Right(f) {
			t.Errorf("Right(%+v) = true", f)
		}
	}
}

// P15.1: Points, and the words they go by

func TestPointsOfTheExample(t *testing.T) {
	wantPoints(t, one(1, 50), prio.Weights{Age: 1000, Most: 100}, 100, 500)
}

func TestPointsOfAge(t *testing.T) {
	w := prio.Weights{Age: 1000, Most: 100}
	wantPoints(t, one(1, 50), w, 50, 0)
	wantPoints(t, one(1, 50), w, 51, 10)
	wantPoints(t, one(1, 50), w, 149, 990)
	wantPoints(t, one(1, 50), w, 150, 1000)
	// No more counts than the most age.
	wantPoints(t, one(1, 50), w, 151, 1000)
	wantPoints(t, one(1, 50), w, mostTime, 1000)
	// Nothing counts ahead of the job.
	wantPoints(t, one(1, 50), w, 49, 0)
	wantPoints(t, one(1, 50), w, 0, 0)
	wantPoints(t, one(1, mostTime), w, 0, 0)
	// It is rounded down.
	w = prio.Weights{Age: 10, Most: 3}
	for age, want := range []int{0, 3, 6, 10, 10} {
		wantPoints(t, one(1, 20), w, 20+age, want)
	}
	w = prio.Weights{Age: 1, Most: 1000}
	wantPoints(t, one(1, 0), w, 999, 0)
	wantPoints(t, one(1, 0), w, 1000, 1)
}

func TestPointsOfTheMostAge(t *testing.T) {
	w := prio.Weights{Age: million, Most: mostTime}
	wantPoints(t, one(1, 0), w, mostTime, million)
	wantPoints(t, one(1, 1), w, mostTime, million-1)
	wantPoints(t, one(1, 0), w, mostTime-1, million-1)
	wantPoints(t, one(1, 0), w, mostTime/2, million/2)
	wantPoints(t, one(1, 0), w, mostTime/2-1, million/2-1)
	wantPoints(t, one(1, mostTime), w, mostTime, 0)
	w = prio.Weights{Age: million, Most: 1}
	wantPoints(t, one(1, 7), w, 7, 0)
	wantPoints(t, one(1, 7), w, 8, million)
	wantPoints(t, one(1, 0), w, mostTime, million)
}

func TestPointsOfSize(t *testing.T) {
	for _, weight := range []int{0, 1, 2, 100, 255, 256, 257, 1000, million - 1, million} {
		for nodes := 1; nodes <= 256; nodes++ {
			f := prio.Facts{Id: 1, Submitted: 5, Nodes: nodes}
			wantPoints(t, f, prio.Weights{Size: weight, Most: 1}, 9, nodes*weight/256)
		}
	}
}

// thousandths are the facts that count in parts of 1000, and their weights.
var thousandths = []struct {
	name   string
	fact   bound[prio.Facts]
	weight bound[prio.Weights]
}{
	{"part", factBounds[3], weightBounds[2]},
	{"qos", factBounds[4], weightBounds[3]},
	{"share", factBounds[5], weightBounds[4]},
}

func TestPointsOfPartQosAndShare(t *testing.T) {
	for _, what := range thousandths {
		for _, weight := range []int{0, 1, 2, 7, 999, 1000, 1001, million - 1, million} {
			w := what.weight.with(prio.Weights{Most: 1}, weight)
			for _, n := range []int{0, 1, 2, 3, 333, 499, 500, 501, 999, 1000} {
				wantPoints(t, what.fact.with(one(1, 5), n), w, 9, n*weight/1000)
			}
		}
	}
}

// One that has no weight of its own turns nothing, however much another one's weighs.
func TestPointsOfEachWeightAlone(t *testing.T) {
	f := prio.Facts{Id: 9, Submitted: 40, Nodes: 128, Part: 100, Qos: 20, Share: 3}
	wantPoints(t, f, prio.Weights{Most: 100}, 50, 0)
	wantPoints(t, f, prio.Weights{Age: million, Most: 100}, 50, 100000)
	wantPoints(t, f, prio.Weights{Size: million, Most: 100}, 50, 500000)
	wantPoints(t, f, prio.Weights{Part: million, Most: 100}, 50, 100000)
	wantPoints(t, f, prio.Weights{Qos: million, Most: 100}, 50, 20000)
	wantPoints(t, f, prio.Weights{Share: million, Most: 100}, 50, 3000)
	wantPoints(t, f, prio.Weights{Age: 1000, Size: 100, Part: 1000, Qos: 1000, Share: 1000, Most: 10000}, 50, 1+50+100+20+3)
}

// Five halves are nothing, since each is rounded down for itself.
func TestPointsAreRoundedDownEach(t *testing.T) {
	f := prio.Facts{Id: 1, Submitted: 0, Nodes: 128, Part: 500, Qos: 500, Share: 500}
	w := prio.Weights{Age: 1, Size: 1, Part: 1, Qos: 1, Share: 1, Most: 2}
	wantPoints(t, f, w, 1, 0)
	wantPoints(t, f, w, 2, 1)
	f = prio.Facts{Id: 1, Submitted: 0, Nodes: 255, Part: 999, Qos: 999, Share: 999}
	w.Most = 1000
	wantPoints(t, f, w, 999, 0)
	w = prio.Weights{Age: 3, Size: 3, Part: 3, Qos: 3, Share: 3, Most: 1000}
	wantPoints(t, f, w, 999, 10)
}

func TestMostPoints(t *testing.T) {
	f := prio.Facts{Id: million, Submitted: 0, Nodes: 256, Part: 1000, Qos: 1000, Share: 1000}
	w := prio.Weights{Age: million, Size: million, Part: million, Qos: million, Share: million, Most: mostTime}
	wantPoints(t, f, w, mostTime, 5*million)
	w.Most = 1
	wantPoints(t, f, w, 1, 5*million)
	wantPoints(t, f, w, 0, 4*million)
}

// A job's number turns no points.
func TestPointsOfAnyId(t *testing.T) {
	w := prio.Weights{Age: 1000, Size: 256, Part: 1000, Qos: 1000, Share: 1000, Most: 100}
	for _, id := range []int{1, 2, 1000, million - 1, million} {
		wantPoints(t, prio.Facts{Id: id, Submitted: 50, Nodes: 3, Part: 4, Qos: 5, Share: 6}, w, 100, 518)
	}
}

func TestPointsInsideTheBounds(t *testing.T) {
	for _, f := range ends(factBounds...) {
		for _, w := range ends(weightBounds...) {
			for _, now := range []int{0, 1, mostTime / 2, mostTime - 1, mostTime} {
				if _, err := prio.Points(f, w, now); err != api.OK {
					t.Errorf("Points(%+v, %+v, %d) = %v", f, w, now, err)
				}
				asModel(t, f, w, now)
			}
			for _, b := range weightBounds {
				for _, n := range b.inside() {
					asModel(t, f, b.with(w, n), mostTime/3)
				}
			}
		}
	}
}

// noPoints holds that there are none.
func noPoints(t *testing.T, f prio.Facts, w prio.Weights, now int) {
	t.Helper()
	if got, err := prio.Points(f, w, now); got != 0 || err != api.ErrArg {
		t.Errorf("Points(%+v, %+v, %d) = %d, %v, want 0, and ErrArg", f, w, now, got, err)
	}
	if _, err := points(f, w, now); err != api.ErrArg {
		t.Errorf("the model's points(%+v, %+v, %d) = %v, want ErrArg", f, w, now, err)
	}
}

func TestNoPoints(t *testing.T) {
	for _, f := range ends(factBounds...) {
		for _, w := range ends(weightBounds...) {
			for _, b := range factBounds {
				for _, n := range b.outside() {
					noPoints(t, b.with(f, n), w, mostTime/3)
				}
			}
			for _, b := range weightBounds {
				for _, n := range b.outside() {
					noPoints(t, f, b.with(w, n), mostTime/3)
				}
			}
			for _, now := range noTimes {
				noPoints(t, f, w, now)
			}
		}
	}
	noPoints(t, prio.Facts{}, prio.Weights{}, 0)
	noPoints(t, one(1, 0), prio.Weights{}, 0)
	noPoints(t, prio.Facts{}, prio.Weights{Most: 1}, 0)
}

func TestManyPointsAsTheModel(t *testing.T) {
	r := rand.New(rand.NewSource(45))
	for range 100000 {
		asModel(t, numbers(r, 1+r.Intn(million)), weighing(r), r.Intn(mostTime+1)>>r.Intn(41))
		if t.Failed() {
			return
		}
	}
}

// P15.2: Ahead

// wantAhead holds that one comes ahead of another one, and that one not of it.
func wantAhead(t *testing.T, a, b prio.Facts, w prio.Weights, now int) {
	t.Helper()
	if got, err := prio.Ahead(a, b, w, now); !got || err != api.OK {
		t.Errorf("Ahead(%+v, %+v, %+v, %d) = %v, %v, want true", a, b, w, now, got, err)
	}
	wantNotAhead(t, b, a, w, now)
	if got, err := ahead(a, b, w, now); !got || err != api.OK {
		t.Errorf("the model's ahead(%+v, %+v, %+v, %d) = %v, %v, want true", a, b, w, now, got, err)
	}
}

// wantNotAhead holds that one does not come ahead of another one.
func wantNotAhead(t *testing.T, a, b prio.Facts, w prio.Weights, now int) {
	t.Helper()
	if got, err := prio.Ahead(a, b, w, now); got || err != api.OK {
		t.Errorf("Ahead(%+v, %+v, %+v, %d) = %v, %v, want false", a, b, w, now, got, err)
	}
	if got, err := ahead(a, b, w, now); got || err != api.OK {
		t.Errorf("the model's ahead(%+v, %+v, %+v, %d) = %v, %v, want false", a, b, w, now, got, err)
	}
}

func TestAheadByPoints(t *testing.T) {
	w := prio.Weights{Age: 1000, Size: 256, Part: 1000, Qos: 1000, Share: 1000, Most: 100}
	base := prio.Facts{Id: 5, Submitted: 50, Nodes: 10, Part: 10, Qos: 10, Share: 10}
	for _, b := range factBounds[2:] {
		more := b.with(base, 11)
		// Neither an earlier time nor a lower number outweighs points; the age weighs nothing here, since it would.
		more.Id, more.Submitted = 6, 60
		wantAhead(t, more, base, prio.Weights{Size: 256, Part: 1000, Qos: 1000, Share: 1000, Most: 100}, 70)
	}
	later := base
	later.Submitted, later.Id = 49, 6
	wantAhead(t, later, base, w, 70)
	// Ten points of age are less than eleven of a quality.
	later = base
	later.Submitted, later.Qos, later.Id = 51, 21, 6
	wantAhead(t, later, base, w, 70)
	later.Qos = 20
	wantAhead(t, base, later, w, 70)
	later.Qos = 19
	wantAhead(t, base, later, w, 70)
}

func TestAheadBySubmitted(t *testing.T) {
	w := prio.Weights{Age: 1000, Most: 100}
	// Both have waited for the most age, or not at all.
	wantAhead(t, one(9, 3), one(2, 4), w, 200)
	wantAhead(t, one(9, 3), one(2, 4), w, 3)
	wantAhead(t, one(9, 3), one(2, 4), w, 0)
	wantAhead(t, one(9, 0), one(2, mostTime), prio.Weights{Most: 1}, mostTime)
	wantAhead(t, one(9, mostTime-1), one(2, mostTime), prio.Weights{Most: 1}, 0)
	// What is rounded down makes points as many.
	wantAhead(t, one(9, 3), one(2, 4), prio.Weights{Age: 1, Most: 100}, 50)
	// Points of other kinds come to as many.
	early, late := one(9, 3), one(2, 4)
	late.Part = 10
	wantAhead(t, early, late, prio.Weights{Age: 1000, Part: 1000, Most: 100}, 50)
	late.Part = 11
	wantAhead(t, late, early, prio.Weights{Age: 1000, Part: 1000, Most: 100}, 50)
}

func TestAheadById(t *testing.T) {
	for _, w := range []prio.Weights{{Most: 1}, {Age: 1000, Most: 100}, {Size: 1, Share: 7, Most: mostTime}} {
		for _, now := range []int{0, 3, 50, mostTime} {
			wantAhead(t, one(1, 3), one(2, 3), w, now)
			wantAhead(t, one(9, 3), one(10, 3), w, now)
			wantAhead(t, one(1, 3), one(million, 3), w, now)
			wantAhead(t, one(million-1, 3), one(million, 3), w, now)
			wantNotAhead(t, one(7, 3), one(7, 3), w, now)
		}
	}
}

// Of two that have one Id, what counts ahead of it tells still.
func TestAheadOfOneId(t *testing.T) {
	w := prio.Weights{Part: 1000, Most: 100}
	more := one(4, 7)
	more.Part = 1
	wantAhead(t, more, one(4, 3), w, 50)
	wantAhead(t, one(4, 3), one(4, 7), w, 50)
	// Facts that weigh nothing do not tell.
	other := one(4, 3)
	other.Nodes, other.Qos, other.Share = 256, 1000, 1000
	wantNotAhead(t, other, one(4, 3), w, 50)
	wantNotAhead(t, one(4, 3), other, w, 50)
}

// noAhead holds that nothing is told of two.
func noAhead(t *testing.T, a, b prio.Facts, w prio.Weights, now int) {
	t.Helper()
	if got, err := prio.Ahead(a, b, w, now); got || err != api.ErrArg {
		t.Errorf("Ahead(%+v, %+v, %+v, %d) = %v, %v, want false, and ErrArg", a, b, w, now, got, err)
	}
}

func TestNoAhead(t *testing.T) {
	best := prio.Facts{Id: 1, Submitted: 0, Nodes: 256, Part: 1000, Qos: 1000, Share: 1000}
	w := prio.Weights{Age: million, Size: million, Part: million, Qos: million, Share: million, Most: mostTime}
	for _, f := range append(ends(factBounds...), best) {
		for _, b := range factBounds {
			for _, n := range b.outside() {
				noAhead(t, b.with(f, n), best, w, 10)
				noAhead(t, best, b.with(f, n), w, 10)
				noAhead(t, b.with(f, n), b.with(f, n), w, 10)
			}
		}
		for _, b := range weightBounds {
			for _, n := range b.outside() {
				noAhead(t, best, f, b.with(w, n), 10)
				noAhead(t, f, best, b.with(w, n), 10)
			}
		}
		for _, now := range noTimes {
			noAhead(t, best, f, w, now)
			noAhead(t, f, best, w, now)
		}
	}
	noAhead(t, prio.Facts{}, prio.Facts{}, prio.Weights{}, 0)
}

func TestManyAheadAsTheModel(t *testing.T) {
	r := rand.New(rand.NewSource(46))
	for range 50000 {
		a, b, w := numbers(r, 1+r.Intn(3)), numbers(r, 1+r.Intn(3)), weighing(r)
		now := r.Intn(mostTime+1) >> r.Intn(41)
		got, err := prio.Ahead(a, b, w, now)
		if want, wantErr := ahead(a, b, w, now); got != want || err != wantErr {
			t.Fatalf("Ahead(%+v, %+v, %+v, %d) = %v, %v, want %v, %v", a, b, w, now, got, err, want, wantErr)
		}
	}
}

// P15.2: Sort

// wantSort holds what Sort answers against numbers, and against the model.
func wantSort(t *testing.T, l []prio.Facts, w prio.Weights, now int, want ...int) {
	t.Helper()
	if got, err := prio.Sort(l, w, now); !slices.Equal(got, want) || err != api.OK {
		t.Errorf("Sort(%+v, %+v, %d) = %v, %v, want %v", l, w, now, got, err, want)
	}
	if got, err := sorted(l, w, now); !slices.Equal(got, want) || err != api.OK {
		t.Errorf("the model's sorted(%+v, %+v, %d) = %v, %v, want %v", l, w, now, got, err, want)
	}
}

// noSort holds that nothing is told of a list.
func noSort(t *testing.T, l []prio.Facts, w prio.Weights, now int) {
	t.Helper()
	if got, err := prio.Sort(l, w, now); len(got) != 0 || err != api.ErrArg {
		t.Errorf("Sort(%+v, %+v, %d) = %v, %v, want none, and ErrArg", l, w, now, got, err)
	}
	if _, err := sorted(l, w, now); err != api.ErrArg {
		t.Errorf("the model's sorted(%+v, %+v, %d) = %v, want ErrArg", l, w, now, err)
	}
}

func TestSort(t *testing.T) {
	w := prio.Weights{Age: 1000, Size: 256, Part: 1000, Qos: 1000, Share: 1000, Most: 100}
	wantSort(t, []prio.Facts{one(7, 3)}, w, 50, 7)
	wantSort(t, []prio.Facts{one(1, 30), one(2, 20), one(3, 10)}, w, 50, 3, 2, 1)
	wantSort(t, []prio.Facts{one(3, 10), one(1, 10), one(2, 10)}, w, 50, 1, 2, 3)
	wantSort(t, []prio.Facts{one(million, 10), one(1, 11), one(10, 10), one(9, 10)}, w, 5, 9, 10, million, 1)
	l := []prio.Facts{
		{Id: 1, Submitted: 40, Nodes: 1},
		{Id: 2, Submitted: 40, Nodes: 256},
		{Id: 3, Submitted: 40, Nodes: 1, Part: 256},
		{Id: 4, Submitted: 40, Nodes: 1, Qos: 254},
		{Id: 5, Submitted: 40, Nodes: 1, Share: 255},
		{Id: 6, Submitted: 39, Nodes: 1, Share: 245},
		{Id: 7, Submitted: 41, Nodes: 1, Share: 265},
		{Id: 8, Submitted: 0, Nodes: 1},
	}
	// 101, 356, 357, 355, 356, 356, 356 and 501 points.
	wantSort(t, l, w, 50, 8, 3, 6, 2, 5, 7, 4, 1)
	wantSort(t, l, prio.Weights{Most: 1}, 50, 8, 6, 1, 2, 3, 4, 5, 7)
}

func TestSortOfNone(t *testing.T) {
	for _, l := range [][]prio.Facts{nil, {}, make([]prio.Facts, 0, 8)} {
		for _, w := range ends(weightBounds...) {
			wantSort(t, l, w, 0)
			wantSort(t, l, w, mostTime)
			for _, b := range weightBounds {
				for _, n := range b.inside() {
					wantSort(t, l, b.with(w, n), 5)
				}
				for _, n := range b.outside() {
					noSort(t, l, b.with(w, n), 5)
				}
			}
			for _, now := range noTimes {
				noSort(t, l, w, now)
			}
		}
		noSort(t, l, prio.Weights{}, 0)
	}
}

func TestNoSort(t *testing.T) {
	w := prio.Weights{Age: 1000, Size: 256, Part: 1000, Qos: 1000, Share: 1000, Most: 100}
	l := []prio.Facts{one(4, 10), one(3, 20), one(9, 20), one(1, 70)}
	wantSort(t, l, w, 50, 4, 3, 9, 1)
	for i := range l {
		for _, b := range factBounds {
			for _, n := range b.outside() {
				wrong := slices.Clone(l)
				wrong[i] = b.with(wrong[i], n)
				noSort(t, wrong, w, 50)
				noSort(t, wrong[i:i+1], w, 50)
			}
		}
	}
	for _, b := range weightBounds {
		for _, n := range b.outside() {
			noSort(t, l, b.with(w, n), 50)
			noSort(t, l[:1], b.with(w, n), 50)
		}
	}
	for _, now := range noTimes {
		noSort(t, l, w, now)
	}
}

// Whatever else they have, and wherever they stand.
func TestNoSortOfOneIdTwice(t *testing.T) {
	w := prio.Weights{Age: 1000, Part: 1000, Most: 100}
	same := one(5, 20)
	other := prio.Facts{Id: 5, Submitted: 80, Nodes: 9, Part: 1000, Qos: 3, Share: 4}
	for _, twice := range []prio.Facts{same, other} {
		noSort(t, []prio.Facts{same, twice}, w, 50)
		noSort(t, []prio.Facts{twice, same}, w, 50)
		noSort(t, []prio.Facts{same, one(1, 3), one(6, 30), twice}, w, 50)
		noSort(t, []prio.Facts{one(1, 3), twice, one(6, 30), same, one(7, 0)}, w, 50)
		noSort(t, []prio.Facts{one(1, 3), same, same, twice}, w, 50)
	}
	for _, id := range []int{1, million} {
		noSort(t, []prio.Facts{one(id, 0), one(7, 0), one(id, 1)}, w, 50)
	}
	wantSort(t, []prio.Facts{same, one(6, 20), one(4, 20)}, w, 50, 4, 5, 6)
}

func TestManySortsAsTheModel(t *testing.T) {
	r := rand.New(rand.NewSource(47))
	for range 4000 {
		var l []prio.Facts
		for range r.Intn(12) {
			l = append(l, numbers(r, 1+r.Intn(60)))
		}
		w, now := weighing(r), r.Intn(mostTime+1)>>r.Intn(41)
		got, err := prio.Sort(l, w, now)
		if want, wantErr := sorted(l, w, now); !slices.Equal(got, want) || err != wantErr {
			t.Fatalf("Sort(%+v, %+v, %d) = %v, %v, want %v, %v", l, w, now, got, err, want, wantErr)
		}
	}
}
