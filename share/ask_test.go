package share_test

import (
	"math"
	"math/big"
	"math/rand"
	"slices"
	"testing"

	"marlinspike/api"
)

// wantTotal holds what Total answers against a number, and against the model.
func (b both) wantTotal(t *testing.T, now, want int) {
	t.Helper()
	if got, err := b.l.Total(now); got != want || err != api.OK {
		t.Errorf("Total(%d) = %d, %v, want %d", now, got, err, want)
	}
	if got, err := b.m.total(now); got != want || err != api.OK {
		t.Errorf("the model's total(%d) = %d, %v, want %d", now, got, err, want)
	}
}

// wantFactor holds what Factor answers against a number, and against the model.
func (b both) wantFactor(t *testing.T, user string, now, want int) {
	t.Helper()
	if got, err := b.l.Factor(user, now); got != want || err != api.OK {
		t.Errorf("Factor(%q, %d) = %d, %v, want %d", user, now, got, err, want)
	}
	if got, err := b.m.factor(user, now); got != want || err != api.OK {
		t.Errorf("the model's factor(%q, %d) = %d, %v, want %d", user, now, got, err, want)
	}
}

// noUsed holds that nothing is told of a user at a time.
func (b both) noUsed(t *testing.T, user string, now int) {
	t.Helper()
	if got, err := b.l.Used(user, now); got != 0 || err != api.ErrArg {
		t.Errorf("Used(%q, %d) = %d, %v, want 0, and ErrArg", user, now, got, err)
	}
	if got, err := b.l.Factor(user, now); got != 0 || err != api.ErrArg {
		t.Errorf("Factor(%q, %d) = %d, %v, want 0, and ErrArg", user, now, got, err)
	}
}

// P14.1: Used

func TestUsedAtEachTime(t *testing.T) {
	for _, half := range []int{1, 2, 3, 10, 100, mostHalf} {
		for _, amount := range []int{0, 1, 2, 3, 7, 8, 100, 1<<32 + 1, mostUsed - 1, mostUsed} {
			b := bothAt(t, half, entry{"ann", amount, 5})
			for k := range 70 {
				want := amount >> k
				b.used(t, "ann", 5+k*half, want)
				b.used(t, "ann", 5+k*half+half/2, want>>(half/2/half))
				b.used(t, "ann", 4+(k+1)*half, want)
			}
			b.used(t, "ann", mostTime, 0)
			b.noUsed(t, "ann", 4)
			b.noUsed(t, "ann", 0)
		}
	}
}

func TestUsedOfOthers(t *testing.T) {
	b := bothOf(t, 10)
	for range 2 {
		for _, user := range append([]string{"bob", "an", "annn", "Ann", "ann ", "ann\x00"}, noNames...) {
			for _, now := range []int{0, 1, 50, 51, mostTime} {
				b.used(t, user, now, 0)
			}
			for _, now := range noTimes {
				b.noUsed(t, user, now)
			}
		}
		b.add(t, "ann", 100, 50, api.OK)
	}
}

func TestUsedOfNoTime(t *testing.T) {
	b := bothAt(t, 10, entry{"ann", 100, 0}, entry{"bob", 100, mostTime})
	for _, now := range noTimes {
		b.noUsed(t, "ann", now)
		b.noUsed(t, "bob", now)
	}
	b.used(t, "ann", 0, 100)
	b.used(t, "bob", mostTime, 100)
	b.noUsed(t, "bob", mostTime-1)
	b.used(t, "ann", mostTime-1, 0)
}

// With the longest half-life something of the most is there long behind it.
func TestUsedAtTheLatestTime(t *testing.T) {
	b := bothAt(t, mostHalf, entry{"ann", mostUsed, mostTime - 60*mostHalf}, entry{"bob", mostUsed, mostTime - 61*mostHalf})
	b.used(t, "ann", mostTime, 1)
	b.used(t, "ann", mostTime-1, 2)
	b.used(t, "bob", mostTime, 0)
	b.used(t, "bob", mostTime-1, 1)
}

// P14.1: Total

func TestTotal(t *testing.T) {
	b := bothAt(t, 10, entry{"ann", 100, 3}, entry{"bob", 7, 0}, entry{"cat", 1000, 20})
	b.wantTotal(t, 0, 7)
	b.wantTotal(t, 2, 7)
	b.wantTotal(t, 3, 107)
	b.wantTotal(t, 9, 107)
	b.wantTotal(t, 10, 103)
	b.wantTotal(t, 12, 103)
	b.wantTotal(t, 13, 53)
	b.wantTotal(t, 19, 53)
	b.wantTotal(t, 20, 1051)
	b.wantTotal(t, 23, 1026)
	b.wantTotal(t, 30, 525)
	b.wantTotal(t, 33, 512)
	b.wantTotal(t, mostTime, 0)
}

func TestTotalOfNoTime(t *testing.T) {
	b := bothAt(t, 10, entry{"ann", 100, 3})
	for _, now := range noTimes {
		if got, err := b.l.Total(now); got != 0 || err != api.ErrArg {
			t.Errorf("Total(%d) = %d, %v, want 0, and ErrArg", now, got, err)
		}
	}
	b.wantTotal(t, mostTime, 0)
	b.wantTotal(t, 0, 0)
}

// Each is halved for itself, and what is left of each is rounded.
func TestTotalRoundsEach(t *testing.T) {
	b := bothAt(t, 10, entry{"a", 1, 0}, entry{"b", 1, 0}, entry{"c", 3, 0}, entry{"d", 1, 5})
	b.wantTotal(t, 5, 6)
	b.wantTotal(t, 10, 2)
	b.wantTotal(t, 15, 1)
}

func TestTotalAboveTheGreatestInt(t *testing.T) {
	var entries []entry
	for i, user := range names(1024) {
		entries = append(entries, entry{user, mostUsed, i})
	}
	// Eight times the most is one above the greatest int.
	for n := 1; n <= 1024; n = 2*n + n%2 {
		b := bothAt(t, 10000, entries[:n]...)
		want := math.MaxInt
		if n < 8 {
			want = n * mostUsed
		}
		b.wantTotal(t, 2000, want)
	}
	for _, last := range []int{0, 1, mostUsed - 2, mostUsed - 1} {
		eight := slices.Concat(slices.Clone(entries[:7]), []entry{{"v", last, 8}})
		bothAt(t, 10000, eight...).wantTotal(t, 9, 7*mostUsed+last)
		bothAt(t, 10000, eight...).wantTotal(t, 7, 7*mostUsed)
		bothAt(t, 10000, append(eight, entry{"w", 1, 3})...).wantTotal(t, 9, 7*mostUsed+last+min(1, mostUsed-1-last))
	}
	// It is above in the first, and not behind one half-life.
	b := bothAt(t, 10000, entries[:10]...)
	b.wantTotal(t, 9, math.MaxInt)
	b.wantTotal(t, 9999, math.MaxInt)
	b.wantTotal(t, 10009, 5*mostUsed)
}

// P14.2: Factor

func TestFactor(t *testing.T) {
	b := bothAt(t, 10, entry{"ann", 100, 0}, entry{"bob", 200, 0}, entry{"cat", 0, 0}, entry{"dan", 1, 5})
	b.wantFactor(t, "ann", 0, 666)
	b.wantFactor(t, "bob", 0, 333)
	b.wantFactor(t, "cat", 0, 1000)
	b.noUsed(t, "dan", 0)
	b.wantFactor(t, "eve", 0, 1000)
	b.wantFactor(t, "ann", 5, 667)
	b.wantFactor(t, "bob", 5, 335)
	b.wantFactor(t, "dan", 5, 996)
	b.wantFactor(t, "ann", 10, 668)
	b.wantFactor(t, "dan", 10, 993)
	b.wantFactor(t, "dan", 15, 1000)
	for _, user := range []string{"ann", "bob", "cat", "dan", "eve", ""} {
		b.wantFactor(t, user, mostTime, 1000)
	}
}

// Any part, however small, is one of 1000 at least.
func TestFactorIsRoundedDown(t *testing.T) {
	for _, total := range []int{2, 3, 999, 1000, 1001, 1999, 2000, 2001, 1 << 32, mostUsed} {
		b := bothAt(t, 10, entry{"ann", 1, 0}, entry{"bob", total - 1, 0})
		b.wantFactor(t, "ann", 0, 1000-(1000+total-1)/total)
		b.wantFactor(t, "bob", 0, 1000/total)
	}
	b := bothAt(t, 10, entry{"ann", 1, 0}, entry{"bob", 999, 0}, entry{"cat", 1000, 0})
	b.wantFactor(t, "ann", 0, 999)
	b.wantFactor(t, "bob", 0, 500)
	b.wantFactor(t, "cat", 0, 500)
}

func TestFactorOfAllOfIt(t *testing.T) {
	for _, amount := range []int{1, 2, 3, 1000, mostAdded, mostUsed - 1, mostUsed} {
		b := bothAt(t, 10, entry{"ann", amount, 2}, entry{"bob", 0, 1})
		b.wantFactor(t, "ann", 2, 0)
		b.wantFactor(t, "bob", 2, 1000)
		// Nobody of them has anything at 1.
		b.wantFactor(t, "bob", 1, 1000)
		b.wantFactor(t, "eve", 1, 1000)
	}
}

// Nothing is told of a time below the user's, though Total is 0 there.
func TestFactorBelowTheUsersTime(t *testing.T) {
	b := bothAt(t, 10, entry{"ann", 100, 50})
	for _, now := range []int{0, 1, 49} {
		b.wantTotal(t, now, 0)
		b.noUsed(t, "ann", now)
		b.wantFactor(t, "bob", now, 1000)
	}
	b.wantFactor(t, "ann", 50, 0)
}

func TestFactorOfNoTime(t *testing.T) {
	b := bothAt(t, 10, entry{"ann", 100, 5})
	for _, now := range noTimes {
		for _, user := range []string{"ann", "bob", "", long + "q"} {
			b.noUsed(t, user, now)
		}
	}
}

// A thousand times the most is no int, and neither is the sum.
func TestFactorOfGreatAmounts(t *testing.T) {
	for n := range 20 {
		var entries []entry
		for _, user := range names(n + 1) {
			entries = append(entries, entry{user, mostUsed, 0})
		}
		b := bothAt(t, 10, entries...)
		total := min(n+1, 8)
		// What is above the greatest int is not told, so that eight of the most are all but one.
		want := 1000 - (1000+total-1)/total
		if n+1 >= 8 {
			want = 1000 - 126
		}
		b.wantFactor(t, "u10000", 9, want)
		b.wantFactor(t, entries[n].name, 0, want)
		b.wantFactor(t, "nobody", 0, 1000)
	}
}

func TestManyFactorsAsTheModel(t *testing.T) {
	r := rand.New(rand.NewSource(43))
	for range 5000 {
		var entries []entry
		size := r.Intn(61)
		for _, user := range names(1 + r.Intn(12)) {
			entries = append(entries, entry{user, r.Intn(mostUsed+1) >> size, r.Intn(3)})
		}
		b := bothAt(t, 1+r.Intn(4), entries...)
		for now := range 6 {
			for _, e := range entries {
				wantUsed(t, b.l, b.m, e.name, now)
			}
		}
		if t.Failed() {
			return
		}
	}
}

// The parts of all, each rounded down, leave no more of the whole than one of each.
func TestFactorsOfAllTogether(t *testing.T) {
	r := rand.New(rand.NewSource(44))
	for range 500 {
		n := 2 + r.Intn(30)
		var entries []entry
		sum := new(big.Int)
		for _, user := range names(n) {
			e := entry{user, 1 + r.Intn(100000), 0}
			entries, sum = append(entries, e), sum.Add(sum, big.NewInt(int64(e.amount)))
		}
		b := bothAt(t, 10, entries...)
		parts := 0
		for _, e := range entries {
			factor, err := b.l.Factor(e.name, 0)
			if err != api.OK || factor < 0 || factor > 999 {
				t.Fatalf("Factor(%q, 0) = %d, %v", e.name, factor, err)
			}
			parts += 1000 - factor
		}
		if parts < 1000 || parts >= 1000+n {
			t.Fatalf("the parts of %v are %d in all", entries, parts)
		}
	}
}

// P14.2: Users

func TestUsersRise(t *testing.T) {
	b := bothOf(t, 10)
	for i, user := range []string{"bob", "ann", "b", "Ann", "\xff", "anna", "", "\x00", "ä", "10", "9", "ann", "z" + long, long} {
		b.l.Add(user, i, 100-i)
	}
	want := []string{"\x00", "10", "9", "Ann", long, "ann", "anna", "b", "bob", "ä", "\xff"}
	if got := b.l.Users(); !slices.Equal(got, want) {
		t.Errorf("Users() = %q, want %q", got, want)
	}
}

// Who has nothing left is a user for all that.
func TestUsersStay(t *testing.T) {
	b := bothOf(t, 1)
	b.add(t, "bob", 1, 0, api.OK)
	b.add(t, "ann", 0, mostTime, api.OK)
	b.add(t, "bob", 0, mostTime, api.OK)
	b.wantTotal(t, mostTime, 0)
	if got := b.l.Users(); !slices.Equal(got, []string{"ann", "bob"}) {
		t.Errorf("Users() = %q, want ann and bob", got)
	}
}

func TestUsersOfMany(t *testing.T) {
	r := rand.New(rand.NewSource(45))
	users := names(1024)
	for range 5 {
		b := bothOf(t, 10)
		for _, i := range r.Perm(1024) {
			b.l.Add(users[i], 1, i)
		}
		if got := b.l.Users(); !slices.Equal(got, users) {
			t.Errorf("Users() = %q, want them rising", got)
		}
	}
}

// Who was refused is no user.
func TestUsersOfWhoWasRefused(t *testing.T) {
	b := bothOf(t, 10)
	b.add(t, "ann", -1, 5, api.ErrArg)
	b.add(t, "ann", mostAdded+1, 5, api.ErrArg)
	b.add(t, "ann", 5, -1, api.ErrArg)
	b.add(t, "ann", 5, mostTime+1, api.ErrArg)
	if got := b.l.Users(); len(got) != 0 {
		t.Errorf("Users() = %q, want none", got)
	}
}
