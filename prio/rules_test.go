package prio_test

import (
	"math/rand"
	"slices"
	"testing"

	"marlinspike/api"
	"marlinspike/prio"
)

// some are jobs of different numbers, of which many are at one otherwise.
func some(r *rand.Rand, n int) []prio.Facts {
	var l []prio.Facts
	for _, id := range r.Perm(n) {
		l = append(l, numbers(r, 1+id*7))
	}
	return l
}

// isAhead is Ahead, of what may be.
func isAhead(t *testing.T, a, b prio.Facts, w prio.Weights, now int) bool {
	t.Helper()
	got, err := prio.Ahead(a, b, w, now)
	if err != api.OK {
		t.Fatalf("Ahead(%+v, %+v, %+v, %d) = %v", a, b, w, now, err)
	}
	return got
}

// P15.3

func TestOneComesAheadOfTheOther(t *testing.T) {
	r := rand.New(rand.NewSource(48))
	for range 200 {
		l, w, now := some(r, 20), weighing(r), r.Intn(mostTime+1)>>r.Intn(41)
		for i, a := range l {
			for j, b := range l {
				one, other := isAhead(t, a, b, w, now), isAhead(t, b, a, w, now)
				if i == j && one || i != j && one == other {
					t.Fatalf("%+v ahead of %+v: %v, and the other way %v", a, b, one, other)
				}
			}
		}
	}
}

func TestTheOrderGoesOnOverAThirdOne(t *testing.T) {
	r := rand.New(rand.NewSource(49))
	for range 50 {
		l, w, now := some(r, 14), weighing(r), r.Intn(mostTime+1)>>r.Intn(41)
		for _, a := range l {
			for _, b := range l {
				for _, c := range l {
					if isAhead(t, a, b, w, now) && isAhead(t, b, c, w, now) && !isAhead(t, a, c, w, now) {
						t.Fatalf("%+v, %+v, %+v: the first one is not ahead of the last one", a, b, c)
					}
				}
			}
		}
	}
}

// Each one that Sort tells comes ahead of all that it tells later.
func TestSortGoesByAhead(t *testing.T) {
	r := rand.New(rand.NewSource(50))
	for range 100 {
		l, w, now := some(r, 1+r.Intn(30)), weighing(r), r.Intn(mostTime+1)>>r.Intn(41)
		byId := map[int]prio.Facts{}
		for _, f := range l {
			byId[f.Id] = f
		}
		ids, err := prio.Sort(l, w, now)
		if err != api.OK || len(ids) != len(l) {
			t.Fatalf("Sort(%+v, %+v, %d) = %v, %v", l, w, now, ids, err)
		}
		for i := range ids {
			for j := range i {
				if !isAhead(t, byId[ids[j]], byId[ids[i]], w, now) {
					t.Fatalf("Sort(%+v, %+v, %d) = %v: %d is not ahead of %d", l, w, now, ids, ids[j], ids[i])
				}
			}
		}
	}
}

// P15.4

func TestWhoWaitsLongerHasNoFewerPoints(t *testing.T) {
	r := rand.New(rand.NewSource(51))
	for range 20000 {
		f, w, now := numbers(r, 1), weighing(r), r.Intn(mostTime+1)>>r.Intn(41)
		earlier := f
		earlier.Submitted = r.Intn(f.Submitted + 1)
		fewer, err := prio.Points(f, w, now)
		more, moreErr := prio.Points(earlier, w, now)
		if more < fewer || err != api.OK || moreErr != api.OK {
			t.Fatalf("Points(%+v, %+v, %d) = %d, %v, and %d, %v since %d", f, w, now, fewer, err, more, moreErr, earlier.Submitted)
		}
		later := now + r.Intn(mostTime-now+1)
		if more, err = prio.Points(f, w, later); more < fewer || err != api.OK {
			t.Fatalf("Points(%+v, %+v, %d) = %d, %v, and %d at %d", f, w, later, more, err, fewer, now)
		}
	}
}

// P15.5

func TestTheOrderOfTheListDoesNotCount(t *testing.T) {
	r := rand.New(rand.NewSource(52))
	for range 100 {
		l, w, now := some(r, r.Intn(40)), weighing(r), r.Intn(mostTime+1)>>r.Intn(41)
		want, err := prio.Sort(l, w, now)
		if err != api.OK {
			t.Fatalf("Sort(%+v, %+v, %d) = %v", l, w, now, err)
		}
		for range 20 {
			r.Shuffle(len(l), func(i, j int) { l[i], l[j] = l[j], l[i] })
			if got, err := prio.Sort(l, w, now); !slices.Equal(got, want) || err != api.OK {
				t.Fatalf("Sort(%+v, %+v, %d) = %v, %v, want %v", l, w, now, got, err, want)
			}
		}
	}
}

func TestEachOrderOfFew(t *testing.T) {
	w := prio.Weights{Age: 100, Part: 1000, Most: 100}
	l := []prio.Facts{one(2, 10), one(1, 10), one(3, 9), {Id: 4, Submitted: 11, Nodes: 1, Part: 1}, {Id: 5, Submitted: 50, Nodes: 1, Part: 41}}
	var turn func(k int)
	turn = func(k int) {
		if k == len(l) {
			// 40, 40, 41, 40 and 41 points.
			wantSort(t, l, w, 50, 3, 5, 1, 2, 4)
			return
		}
		for i := k; i < len(l); i++ {
			l[k], l[i] = l[i], l[k]
			turn(k + 1)
			l[k], l[i] = l[i], l[k]
		}
	}
	turn(0)
}

// R1: it ends soon, of as many as there may be too.

func TestSortOfAllIds(t *testing.T) {
	w := prio.Weights{Age: million, Most: mostTime}
	l := make([]prio.Facts, million)
	for i := range l {
		l[i] = one(1+i, 1+i%3)
	}
	ids, err := prio.Sort(l, w, 0)
	if len(ids) != million || err != api.OK {
		t.Fatalf("Sort of %d = %d, %v", million, len(ids), err)
	}
	place := 0
	for first := range 3 {
		for id := 1 + first; id <= million; id += 3 {
			if ids[place] != id {
				t.Fatalf("Sort of %d: %d at %d, want %d", million, ids[place], place, id)
			}
			place++
		}
	}
	// There is no further Id that nobody has.
	if ids, err := prio.Sort(append(l, one(77, 5)), w, 0); len(ids) != 0 || err != api.ErrArg {
		t.Errorf("Sort of %d = %d, %v, want none, and ErrArg", million+1, len(ids), err)
	}
}

// R3 and R4

func TestSortWritesIntoNothing(t *testing.T) {
	r := rand.New(rand.NewSource(53))
	for range 50 {
		l, w, now := some(r, 30), weighing(r), r.Intn(mostTime+1)>>r.Intn(41)
		all := slices.Clone(l)
		prio.Sort(l[:20], w, now)
		prio.Sort(append(l, l[0]), w, now)
		if !slices.Equal(l, all) {
			t.Fatalf("Sort turned %+v to %+v", all, l)
		}
	}
}

func TestWhatIsAnsweredIsTheCallers(t *testing.T) {
	r := rand.New(rand.NewSource(54))
	l, w := some(r, 30), weighing(r)
	first, _ := prio.Sort(l, w, 100)
	want := slices.Clone(first)
	for i := range first {
		first[i] = -1
	}
	first = append(first[:3], 5, 6, 7)
	if got, err := prio.Sort(l, w, 100); !slices.Equal(got, want) || err != api.OK || len(first) != 6 {
		t.Errorf("Sort = %v, %v, want %v", got, err, want)
	}
}

func TestTheSameCallsHaveTheSameAnswers(t *testing.T) {
	r := rand.New(rand.NewSource(55))
	for range 200 {
		l, w, now := some(r, 10), weighing(r), r.Intn(mostTime+1)>>r.Intn(41)
		first, _ := prio.Sort(l, w, now)
		n, _ := prio.Points(l[0], w, now)
		// What was asked, and refused, in between turns nothing.
		prio.Sort(some(r, 10), weighing(r), now)
		prio.Sort(append(l, l...), w, now)
		prio.Points(prio.Facts{}, w, -1)
		second, err := prio.Sort(l, w, now)
		if again, pointsErr := prio.Points(l[0], w, now); !slices.Equal(first, second) || err != api.OK || again != n || pointsErr != api.OK {
			t.Fatalf("Sort = %v, and %v, %v; Points = %d, and %d, %v", first, second, err, n, again, pointsErr)
		}
	}
}
