package share_test

import (
	"bytes"
	"math/rand"
	"slices"
	"testing"

	"marlinspike/api"
	"marlinspike/share"
)

// P14.3: what is no ledger

func TestNoLedger(t *testing.T) {
	for name, l := range map[string]*share.Ledger{"nil": nil, "zero": {}, "new": new(share.Ledger)} {
		for range 2 {
			for _, user := range append([]string{"ann", long}, noNames...) {
				for _, now := range append([]int{0, 1, mostTime}, noTimes...) {
					wantNone(t, name, l, user, now)
				}
			}
			if got := l.Users(); len(got) != 0 {
				t.Errorf("%s: Users() = %q, want none", name, got)
			}
			if got := l.Save(); len(got) != 0 {
				t.Errorf("%s: Save() = %v, want nothing", name, got)
			}
		}
	}
}

// wantNone holds that nothing is told of what is no ledger.
func wantNone(t *testing.T, name string, l *share.Ledger, user string, now int) {
	t.Helper()
	for _, amount := range append([]int{0, 1, mostAdded}, noAmounts...) {
		if err := l.Add(user, amount, now); err != api.ErrNil {
			t.Errorf("%s: Add(%q, %d, %d) = %v, want ErrNil", name, user, amount, now, err)
		}
	}
	if got, err := l.Used(user, now); got != 0 || err != api.ErrNil {
		t.Errorf("%s: Used(%q, %d) = %d, %v, want 0, and ErrNil", name, user, now, got, err)
	}
	if got, err := l.Total(now); got != 0 || err != api.ErrNil {
		t.Errorf("%s: Total(%d) = %d, %v, want 0, and ErrNil", name, now, got, err)
	}
	if got, err := l.Factor(user, now); got != 0 || err != api.ErrNil {
		t.Errorf("%s: Factor(%q, %d) = %d, %v, want 0, and ErrNil", name, user, now, got, err)
	}
}

// P14.4

func TestWhatWasUsedNeverGrowsByItself(t *testing.T) {
	r := rand.New(rand.NewSource(49))
	for range 200 {
		half := 1 + r.Intn(50)
		begin := r.Intn(1000)
		l := loaded(t, half, entry{"ann", r.Intn(mostUsed+1) >> r.Intn(60), begin}, entry{"bob", r.Intn(1000), begin})
		last, lastTotal := mostUsed, 2*mostUsed
		for now := begin; now < begin+20*half; now += 1 + r.Intn(half) {
			used, _ := l.Used("ann", now)
			total, _ := l.Total(now)
			halved, err := l.Used("ann", now+half)
			if used > last || total > lastTotal || halved != used/2 || err != api.OK {
				t.Fatalf("half-life %d, at %d: %d behind %d, and %d a half-life later; in all %d behind %d", half, now, used, last, halved, total, lastTotal)
			}
			last, lastTotal = used, total
		}
	}
}

// Time goes on by whole half-lives behind Add, so that each later one comes when it did.
func TestNothingAddedTurnsNothing(t *testing.T) {
	r := rand.New(rand.NewSource(50))
	for range 300 {
		half, amount, begin := 1+r.Intn(30), r.Intn(100000), r.Intn(100)
		b := bothAt(t, half, entry{"ann", amount, begin})
		asked := loaded(t, half, entry{"ann", amount, begin})
		for now := begin; now < begin+20*half; now += r.Intn(2 * half) {
			if err := b.l.Add("ann", 0, now); err != api.OK {
				t.Fatalf("Add(ann, 0, %d) = %v", now, err)
			}
			for at := now; at < now+3*half; at++ {
				got, _ := b.l.Used("ann", at)
				if want, _ := asked.Used("ann", at); got != want {
					t.Fatalf("half-life %d, %d at %d: Used(ann, %d) = %d behind Add of nothing at %d, want %d", half, amount, begin, at, got, now, want)
				}
			}
			if half == 1 {
				now++
			}
		}
	}
}

// P14.5

func TestWhatOneUsesTurnsNothingOfAnotherOnes(t *testing.T) {
	r := rand.New(rand.NewSource(51))
	for range 100 {
		half := 1 + r.Intn(20)
		all := bothOf(t, half)
		alone := bothOf(t, half)
		now := r.Intn(20)
		for range 100 {
			user, amount, at := string(rune('a'+r.Intn(4))), r.Intn(1000), max(0, now-r.Intn(3))
			err := all.l.Add(user, amount, at)
			if user == "a" {
				if got := alone.l.Add(user, amount, at); got != err {
					t.Fatalf("Add(%q, %d, %d) = %v among others, and %v alone", user, amount, at, err, got)
				}
			}
			for ask := max(0, now-half); ask < now+2*half; ask++ {
				got, gotErr := all.l.Used("a", ask)
				if want, wantErr := alone.l.Used("a", ask); got != want || gotErr != wantErr {
					t.Fatalf("Used(a, %d) = %d, %v among others, and %d, %v alone", ask, got, gotErr, want, wantErr)
				}
			}
			now += r.Intn(half + 1)
		}
	}
}

// R3, and that asking turns nothing

func TestAskingTurnsNothing(t *testing.T) {
	b := bothAt(t, 10, some()...)
	for range 3 {
		for _, now := range append(b.m.times(), noTimes...) {
			b.l.Total(now)
			for _, user := range append([]string{"ann", "bob", "bobby", "c", "nobody", long}, noNames...) {
				b.l.Used(user, now)
				b.l.Factor(user, now)
			}
			b.l.Users()
			if got := b.l.Save(); !bytes.Equal(got, record(some()...)) {
				t.Fatalf("asked at %d, Save() = %v", now, got)
			}
		}
		b.at(t)
	}
}

func TestTheSameCallsHaveTheSameAnswers(t *testing.T) {
	r := rand.New(rand.NewSource(52))
	first, second := made(t, 10), made(t, 10)
	now := 0
	for range 2000 {
		user, amount := names(40)[r.Intn(40)], r.Intn(1<<20)
		if first.Add(user, amount, now) != second.Add(user, amount, now) {
			t.Fatalf("Add(%q, %d, %d) has two answers", user, amount, now)
		}
		for range 3 {
			one, oneErr := first.Total(now)
			other, otherErr := second.Total(now)
			if one != other || oneErr != otherErr {
				t.Fatalf("Total(%d) = %d and %d", now, one, other)
			}
			one, oneErr = first.Factor(user, now)
			other, otherErr = second.Factor(user, now)
			if one != other || oneErr != otherErr {
				t.Fatalf("Factor(%q, %d) = %d and %d", user, now, one, other)
			}
		}
		if !slices.Equal(first.Users(), second.Users()) || !bytes.Equal(first.Save(), second.Save()) {
			t.Fatalf("at %d two ledgers are apart", now)
		}
		now += r.Intn(4)
	}
}

// The order in which users were added turns nothing.
func TestTheOrderOfUsersTurnsNothing(t *testing.T) {
	r := rand.New(rand.NewSource(53))
	users := names(30)
	var want []byte
	for range 20 {
		l := made(t, 10)
		for _, i := range r.Perm(len(users)) {
			l.Add(users[i], mostAdded-i, 3*i)
			l.Add(users[i], i, 3*i+15)
		}
		if want == nil {
			want = l.Save()
		}
		if got := l.Save(); !bytes.Equal(got, want) {
			t.Fatalf("Save() = %v, want %v", got, want)
		}
	}
}
