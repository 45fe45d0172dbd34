package share_test

import (
	"bytes"
	"encoding/binary"
	"maps"
	"math"
	"math/big"
	"math/rand"
	"slices"
	"strconv"
	"strings"
	"testing"

	"marlinspike/api"
	"marlinspike/share"
)

const (
	// mostHalf is the longest half-life.
	mostHalf = 1000000
	// mostAdded is how much is added at once at most, and mostUsed how much a user has used at most.
	mostAdded = 1 << 40
	mostUsed  = 1 << 60
	// mostTime is the latest time.
	mostTime = 1 << 40
	// long is a name of as many bytes as one may have.
	long = "abcdefghijklmnop"
)

var (
	// noTimes are numbers that are no time.
	noTimes = []int{-1, -2, -64, -mostTime, math.MinInt, math.MinInt + 1, mostTime + 1, mostTime + 2, 2 * mostTime, mostUsed, math.MaxInt - 1, math.MaxInt}
	// noHalves are numbers that are no half-life.
	noHalves = []int{0, -1, -2, -10, -mostHalf, math.MinInt, mostHalf + 1, mostHalf + 2, 2 * mostHalf, 1 << 32, 1<<32 + 10, math.MaxInt}
	// noAmounts are numbers that are not added.
	noAmounts = []int{-1, -2, -mostAdded, math.MinInt, math.MinInt + 1, mostAdded + 1, mostAdded + 2, mostUsed, math.MaxInt - 1, math.MaxInt}
	// noNames are texts that are nobody's name.
	noNames = []string{"", long + "q", long + "\x00", long + long, strings.Repeat("x", 1<<16), strings.Repeat("\xff", 17), "äöüäöüäöü"}
)

// entry is what a model has of a user.
type entry struct {
	name         string
	amount, time int
}

// model is what the chapter's words say of a ledger.
type model struct {
	half    int
	entries map[string]entry
}

func newModel(half int) *model { return &model{half, map[string]entry{}} }

// modelOf is one that has these entries.
func modelOf(half int, entries ...entry) *model {
	m := newModel(half)
	for _, e := range entries {
		m.entries[e.name] = e
	}
	return m
}

// copied is another model that is at the same.
func (m *model) copied() *model { return &model{m.half, maps.Clone(m.entries)} }

// noTime tells whether a number is no time.
func noTime(now int) bool { return now < 0 || now > mostTime }

// used halves an amount so often, step by step.
func (m *model) used(user string, now int) (int, api.Errno) {
	e, there := m.entries[user]
	if noTime(now) || there && now < e.time {
		return 0, api.ErrArg
	}
	amount := e.amount
	for passed := now - e.time; passed >= m.half && amount > 0; passed -= m.half {
		amount /= 2
	}
	return amount, api.OK
}

func (m *model) add(user string, amount, now int) api.Errno {
	used, err := m.used(user, now)
	if err != api.OK || user == "" || len(user) > 16 || amount < 0 || amount > mostAdded {
		return api.ErrArg
	}
	e, there := m.entries[user]
	if !there {
		if len(m.entries) >= 1024 {
			return api.ErrMany
		}
		e = entry{user, 0, now}
	}
	e.amount = used + amount
	if e.amount > mostUsed {
		e.amount = mostUsed
	}
	// The latest time that is not above now, and whole half-lives above the one there was.
	e.time = now - (now-e.time)%m.half
	m.entries[user] = e
	return api.OK
}

func (m *model) total(now int) (int, api.Errno) {
	if noTime(now) {
		return 0, api.ErrArg
	}
	sum := new(big.Int)
	for user := range m.entries {
		// It is told of just those whose time is not above now.
		if used, err := m.used(user, now); err == api.OK {
			sum.Add(sum, big.NewInt(int64(used)))
		}
	}
	if !sum.IsInt64() {
		return math.MaxInt, api.OK
	}
	return int(sum.Int64()), api.OK
}

// factor is what others have used, in parts of 1000, rounded down.
func (m *model) factor(user string, now int) (int, api.Errno) {
	used, err := m.used(user, now)
	if err != api.OK {
		return 0, err
	}
	total, _ := m.total(now)
	if total == 0 {
		return 1000, api.OK
	}
	others := big.NewInt(int64(total - used))
	others.Mul(others, big.NewInt(1000))
	return int(others.Div(others, big.NewInt(int64(total))).Int64()), api.OK
}

func (m *model) users() []string { return slices.Sorted(maps.Keys(m.entries)) }

// record is that of entries as they stand, by another library's numbers of the same form.
func record(entries ...entry) []byte {
	return recordOf(len(entries), entries...)
}

// recordOf is one that tells of another count than it has entries.
func recordOf(count int, entries ...entry) []byte {
	b := binary.AppendVarint(nil, int64(count))
	for _, e := range entries {
		b = append(binary.AppendVarint(b, int64(len(e.name))), e.name...)
		b = binary.AppendVarint(b, int64(e.amount))
		b = binary.AppendVarint(b, int64(e.time))
	}
	return b
}

func (m *model) record() []byte {
	var entries []entry
	for _, user := range m.users() {
		entries = append(entries, m.entries[user])
	}
	return record(entries...)
}

// times are those around which something that a model tells turns.
func (m *model) times() []int {
	l := []int{-1, 0, mostTime, mostTime + 1}
	for _, e := range m.entries {
		for _, n := range []int{-1, 0, 1, m.half - 1, m.half, m.half + 1, 7*m.half - 1, 7 * m.half, 62 * m.half, 63 * m.half} {
			l = append(l, e.time+n)
		}
		if len(l) > 60 {
			break
		}
	}
	slices.Sort(l)
	return slices.Compact(l)
}

// wantAt holds all that a ledger tells against a model, at some times.
func wantAt(t testing.TB, l *share.Ledger, m *model, times ...int) {
	t.Helper()
	users := m.users()
	if got := l.Users(); !slices.Equal(got, users) {
		t.Errorf("Users() = %q, want %q", got, users)
	}
	if got, want := l.Save(), m.record(); !bytes.Equal(got, want) {
		t.Errorf("Save() = %v, want %v", got, want)
	}
	users = append(users[:min(len(users), 8)], "nobody", "")
	for _, now := range times {
		want, err := m.total(now)
		if got, gotErr := l.Total(now); got != want || gotErr != err {
			t.Errorf("Total(%d) = %d, %v, want %d, %v", now, got, gotErr, want, err)
		}
		for _, user := range users {
			wantUsed(t, l, m, user, now)
		}
	}
}

// wantUsed holds what a ledger tells of a user at a time against a model.
func wantUsed(t testing.TB, l *share.Ledger, m *model, user string, now int) {
	t.Helper()
	want, err := m.used(user, now)
	if got, gotErr := l.Used(user, now); got != want || gotErr != err {
		t.Errorf("Used(%q, %d) = %d, %v, want %d, %v", user, now, got, gotErr, want, err)
	}
	want, err = m.factor(user, now)
	if got, gotErr := l.Factor(user, now); got != want || gotErr != err {
		t.Errorf("Factor(%q, %d) = %d, %v, want %d, %v", user, now, got, gotErr, want, err)
	}
}

// made is a new ledger.
func made(t testing.TB, half int) *share.Ledger {
	t.Helper()
	l, err := share.New(half)
	if l == nil || err != api.OK {
		t.Fatalf("New(%d) = %v, %v, want a ledger", half, l, err)
	}
	return l
}

// loaded is one that has these entries, which rise.
func loaded(t testing.TB, half int, entries ...entry) *share.Ledger {
	t.Helper()
	l, err := share.Load(half, record(entries...))
	if l == nil || err != api.OK {
		t.Fatalf("Load of %v = %v, %v, want a ledger", entries, l, err)
	}
	return l
}

// both are a ledger and its model, to which all is done at once.
type both struct {
	l *share.Ledger
	m *model
}

func bothOf(t testing.TB, half int) both {
	t.Helper()
	return both{made(t, half), newModel(half)}
}

// bothAt are ones that have these entries, which rise.
func bothAt(t testing.TB, half int, entries ...entry) both {
	t.Helper()
	return both{loaded(t, half, entries...), modelOf(half, entries...)}
}

// at holds all that the ledger tells against the model.
func (b both) at(t testing.TB) {
	t.Helper()
	wantAt(t, b.l, b.m, b.m.times()...)
}

// add holds what Add answers, and all that the ledger tells behind it.
func (b both) add(t testing.TB, user string, amount, now int, want api.Errno) {
	t.Helper()
	if got := b.m.add(user, amount, now); got != want {
		t.Fatalf("the model's add(%q, %d, %d) = %v, want %v", user, amount, now, got, want)
	}
	if got := b.l.Add(user, amount, now); got != want {
		t.Errorf("Add(%q, %d, %d) = %v, want %v", user, amount, now, got, want)
	}
	b.at(t)
}

// used holds what a user has used against a number, and against the model.
func (b both) used(t testing.TB, user string, now, want int) {
	t.Helper()
	if got, err := b.l.Used(user, now); got != want || err != api.OK {
		t.Errorf("Used(%q, %d) = %d, %v, want %d", user, now, got, err, want)
	}
	wantUsed(t, b.l, b.m, user, now)
}

// step adds something to one of some users, at some time, or is refused.
func (b both) step(t testing.TB, r *rand.Rand, now *int) {
	t.Helper()
	user, amount, at := string(rune('a'+r.Intn(6))), r.Intn(2000), *now
	switch r.Intn(12) {
	case 0:
		amount = []int{-1, 0, 1, mostAdded, mostAdded + 1}[r.Intn(5)]
	case 1:
		user = []string{"", long, long + "x", "\x00", "ab"}[r.Intn(5)]
	case 2:
		at = max(0, at-r.Intn(3*b.m.half))
	}
	if got, want := b.l.Add(user, amount, at), b.m.add(user, amount, at); got != want {
		t.Errorf("Add(%q, %d, %d) = %v, want %v", user, amount, at, got, want)
	}
	if r.Intn(2) == 0 {
		*now += r.Intn(2*b.m.half + 2)
	}
}

// names are so many, rising.
func names(n int) []string {
	var l []string
	for i := range n {
		l = append(l, "u"+strconv.Itoa(10000+i))
	}
	return l
}

// P14.1: New

func TestNew(t *testing.T) {
	for _, half := range []int{1, 2, 3, 10, 1000, mostHalf - 1, mostHalf} {
		b := bothOf(t, half)
		b.at(t)
		b.add(t, "ann", 100, 0, api.OK)
		b.used(t, "ann", half-1, 100)
		b.used(t, "ann", half, 50)
	}
}

func TestNewIsEmpty(t *testing.T) {
	l := made(t, 10)
	if got := l.Users(); len(got) != 0 {
		t.Errorf("Users() = %q, want none", got)
	}
	if got, err := l.Total(5); got != 0 || err != api.OK {
		t.Errorf("Total(5) = %d, %v, want 0", got, err)
	}
	if got, err := l.Factor("ann", 5); got != 1000 || err != api.OK {
		t.Errorf("Factor(ann, 5) = %d, %v, want 1000", got, err)
	}
	if got := l.Save(); !bytes.Equal(got, []byte{0}) {
		t.Errorf("Save() = %v, want a 0", got)
	}
}

func TestNewOfHalvesThatMayNotBe(t *testing.T) {
	for _, half := range noHalves {
		if l, err := share.New(half); l != nil || err != api.ErrArg {
			t.Errorf("New(%d) = %v, %v, want none, and ErrArg", half, l, err)
		}
	}
}

func TestLedgersAreApart(t *testing.T) {
	first, second := bothOf(t, 10), bothOf(t, 10)
	first.add(t, "ann", 100, 3, api.OK)
	second.at(t)
	second.add(t, "bob", 7, 1, api.OK)
	second.add(t, "ann", 7, 1, api.OK)
	first.at(t)
}

// P14.1: Add

func TestAddOfTheExample(t *testing.T) {
	b := bothOf(t, 10)
	b.add(t, "ann", 100, 0, api.OK)
	b.used(t, "ann", 0, 100)
	b.used(t, "ann", 9, 100)
	b.used(t, "ann", 10, 50)
	b.used(t, "ann", 19, 50)
	b.used(t, "ann", 20, 25)
	b.used(t, "ann", 25, 25)
	b.used(t, "ann", 30, 12)
}

// A user's time goes on by whole half-lives alone, so that what is added behind one is halved with the rest.
func TestAddLetsTimeGoOnByWholeHalves(t *testing.T) {
	b := bothOf(t, 10)
	b.add(t, "ann", 100, 3, api.OK)
	b.add(t, "ann", 10, 12, api.OK)
	b.used(t, "ann", 12, 110)
	b.used(t, "ann", 13, 55)
	b.add(t, "ann", 5, 32, api.OK)
	b.used(t, "ann", 32, 32)
	b.used(t, "ann", 33, 16)
	for now, want := range map[int]api.Errno{22: api.ErrArg, 0: api.ErrArg} {
		b.add(t, "ann", 5, now, want)
	}
	if got, want := b.l.Save(), record(entry{"ann", 32, 23}); !bytes.Equal(got, want) {
		t.Errorf("Save() = %v, want %v", got, want)
	}
	b.add(t, "ann", 5, 23, api.OK)
	b.used(t, "ann", 23, 37)
}

// What is added at any time behind the first one, with any half-life.
func TestAddAtEachTime(t *testing.T) {
	for half := 1; half <= 8; half++ {
		for first := range 10 {
			for second := range 40 {
				b := bothOf(t, half)
				b.add(t, "ann", 1000, first, api.OK)
				want := api.OK
				if second < first {
					want = api.ErrArg
				}
				b.add(t, "ann", 1, second, want)
				if t.Failed() {
					return
				}
			}
		}
	}
}

func TestAddOfAmounts(t *testing.T) {
	for _, amount := range []int{0, 1, 2, 999, 1 << 32, mostAdded - 1, mostAdded} {
		b := bothOf(t, 10)
		b.add(t, "ann", amount, 7, api.OK)
		b.used(t, "ann", 7, amount)
		b.used(t, "ann", 17, amount/2)
		b.add(t, "ann", amount, 7, api.OK)
		b.used(t, "ann", 7, 2*amount)
	}
	for _, amount := range noAmounts {
		b := bothOf(t, 10)
		b.add(t, "ann", amount, 7, api.ErrArg)
		b.add(t, "bob", 3, 7, api.OK)
		b.add(t, "ann", amount, 7, api.ErrArg)
		b.add(t, "bob", amount, 7, api.ErrArg)
		b.add(t, "bob", amount, 27, api.ErrArg)
	}
}

// Nothing added makes a user too.
func TestAddOfNothing(t *testing.T) {
	b := bothOf(t, 10)
	b.add(t, "ann", 0, 7, api.OK)
	if got := b.l.Users(); !slices.Equal(got, []string{"ann"}) {
		t.Errorf("Users() = %q, want ann", got)
	}
	b.add(t, "ann", 0, 6, api.ErrArg)
	b.add(t, "ann", 0, 26, api.OK)
	b.add(t, "ann", 0, 16, api.ErrArg)
	b.add(t, "ann", 0, 17, api.OK)
}

func TestAddOfNames(t *testing.T) {
	b := bothOf(t, 10)
	for _, user := range []string{"a", " ", "\x00", "\xff", "ab", "a b", "ann\n", "ä", "0", long, long[1:] + "z", strings.Repeat("\x00", 16), "äöüäöüäö"} {
		b.add(t, user, 9, 2, api.OK)
		b.used(t, user, 2, 9)
	}
	for _, user := range noNames {
		b.add(t, user, 9, 2, api.ErrArg)
		b.used(t, user, 2, 0)
	}
}

func TestAddOfTimes(t *testing.T) {
	for _, now := range []int{0, 1, 9, 10, 1 << 32, mostTime - 1, mostTime} {
		b := bothOf(t, 10)
		b.add(t, "ann", 9, now, api.OK)
		b.add(t, "ann", 9, now, api.OK)
		b.add(t, "ann", 9, now-1, api.ErrArg)
		b.add(t, "bob", 9, 0, api.OK)
		b.add(t, "bob", 9, mostTime, api.OK)
		b.add(t, "ann", 9, mostTime, api.OK)
	}
	for _, now := range noTimes {
		b := bothOf(t, 10)
		b.add(t, "ann", 9, now, api.ErrArg)
		b.add(t, "ann", 9, 4, api.OK)
		b.add(t, "ann", 9, now, api.ErrArg)
		b.add(t, "bob", 9, now, api.ErrArg)
	}
}

func TestAddStopsAtTheMost(t *testing.T) {
	b := bothAt(t, 10, entry{"ann", mostUsed - 5, 0}, entry{"bob", mostUsed, 0}, entry{"cat", mostUsed - mostAdded, 0})
	b.add(t, "ann", 4, 3, api.OK)
	b.used(t, "ann", 3, mostUsed-1)
	b.add(t, "ann", 1, 3, api.OK)
	b.used(t, "ann", 3, mostUsed)
	b.add(t, "ann", 1, 3, api.OK)
	b.used(t, "ann", 3, mostUsed)
	b.add(t, "bob", mostAdded, 9, api.OK)
	b.used(t, "bob", 9, mostUsed)
	b.used(t, "bob", 10, mostUsed/2)
	b.add(t, "bob", mostAdded, 10, api.OK)
	b.used(t, "bob", 10, mostUsed/2+mostAdded)
	b.add(t, "cat", mostAdded, 9, api.OK)
	b.used(t, "cat", 9, mostUsed)
	b.add(t, "cat", 0, 9, api.OK)
	b.used(t, "cat", 9, mostUsed)
}

func TestAddOfMostUsers(t *testing.T) {
	b := bothOf(t, 10)
	for i, user := range names(1024) {
		if b.l.Add(user, i, 5) != api.OK || b.m.add(user, i, 5) != api.OK {
			t.Fatalf("Add of user %d is refused", i)
		}
	}
	b.at(t)
	b.add(t, "one more", 0, 5, api.ErrMany)
	b.add(t, "one more", 9, 5, api.ErrMany)
	b.add(t, "a", 9, mostTime, api.ErrMany)
	// Those that are there go on.
	b.add(t, "u10000", 9, 5, api.OK)
	b.add(t, "u11023", 9, 25, api.OK)
	b.add(t, "u11024", 9, 25, api.ErrMany)
	b.add(t, "u10500", 0, mostTime, api.OK)
	// ErrArg goes ahead of it.
	b.add(t, "", 9, 5, api.ErrArg)
	b.add(t, long+"q", 9, 5, api.ErrArg)
	for _, amount := range noAmounts {
		b.add(t, "one more", amount, 5, api.ErrArg)
	}
	for _, now := range noTimes {
		b.add(t, "one more", 9, now, api.ErrArg)
	}
}

func TestAddOfMostUsersInAnyOrder(t *testing.T) {
	r := rand.New(rand.NewSource(40))
	b := bothOf(t, 10)
	users := names(1030)
	r.Shuffle(len(users), func(i, k int) { users[i], users[k] = users[k], users[i] })
	for i, user := range users {
		want := api.OK
		if i >= 1024 {
			want = api.ErrMany
		}
		now := r.Intn(1000)
		if got := b.l.Add(user, i, now); got != want || b.m.add(user, i, now) != want {
			t.Fatalf("Add of user %d = %v, want %v", i, got, want)
		}
	}
	b.at(t)
}

func TestAddOfSeveralCausesToRefuse(t *testing.T) {
	b := bothOf(t, 10)
	b.add(t, "ann", 9, 50, api.OK)
	b.add(t, "", -1, -1, api.ErrArg)
	b.add(t, "ann", -1, 49, api.ErrArg)
	b.add(t, long+"q", mostAdded+1, mostTime+1, api.ErrArg)
}

func TestManyAddsAsTheModel(t *testing.T) {
	r := rand.New(rand.NewSource(41))
	for range 300 {
		b := bothOf(t, []int{1, 2, 3, 10, 77}[r.Intn(5)])
		now := r.Intn(50)
		for range 100 {
			b.step(t, r, &now)
			wantAt(t, b.l, b.m, now, now-1, now+r.Intn(3*b.m.half), r.Intn(now+1))
			if t.Failed() {
				return
			}
		}
		b.at(t)
	}
}

// The amounts and half-lives that there are at all, over all times.
func TestManyGreatAddsAsTheModel(t *testing.T) {
	r := rand.New(rand.NewSource(42))
	for range 500 {
		half := 1 + r.Intn(mostHalf)>>r.Intn(20)
		var entries []entry
		for _, user := range []string{"a", "b", "c", "d"} {
			entries = append(entries, entry{user, r.Intn(mostUsed+1) >> r.Intn(60), r.Intn(mostTime+1) >> r.Intn(40)})
		}
		b := bothAt(t, half, entries...)
		b.at(t)
		now := 0
		for range 30 {
			user, amount := string(rune('a'+r.Intn(5))), r.Intn(mostAdded+1)
			now = min(mostTime, now+r.Intn(mostTime)>>r.Intn(40))
			if got, want := b.l.Add(user, amount, now), b.m.add(user, amount, now); got != want {
				t.Errorf("Add(%q, %d, %d) = %v, want %v", user, amount, now, got, want)
			}
			wantAt(t, b.l, b.m, now, r.Intn(mostTime+1))
			if t.Failed() {
				return
			}
		}
	}
}
