package share_test

import (
	"bytes"
	"encoding/binary"
	"math"
	"math/rand"
	"slices"
	"strings"
	"testing"

	"marlinspike/api"
	"marlinspike/share"
)

// P14.3

// number is the number that comes next, and what stands behind it.
func number(b []byte) (int, []byte, bool) {
	n, size := binary.Varint(b)
	if size <= 0 {
		return 0, nil, false
	}
	return int(n), b[size:], true
}

// readEntry is the user that comes next, and what stands behind it.
func readEntry(b []byte) (entry, []byte, bool) {
	var e entry
	size, rest, ok := number(b)
	if !ok || size < 0 || size > len(rest) {
		return e, nil, false
	}
	e.name = string(rest[:size])
	if e.amount, rest, ok = number(rest[size:]); !ok {
		return e, nil, false
	}
	e.time, rest, ok = number(rest)
	return e, rest, ok
}

// read is what the chapter's words say of a record: its model, and whether it is one.
func read(half int, b []byte) (*model, bool) {
	count, rest, ok := number(b)
	if !ok || count < 0 || count > 1024 {
		return nil, false
	}
	m := newModel(half)
	var entries []entry
	for i := range count {
		var e entry
		if e, rest, ok = readEntry(rest); !ok {
			return nil, false
		}
		if e.name == "" || len(e.name) > 16 || e.amount < 0 || e.amount > mostUsed || noTime(e.time) {
			return nil, false
		}
		if i > 0 && e.name <= entries[i-1].name {
			return nil, false
		}
		entries = append(entries, e)
		m.entries[e.name] = e
	}
	// Each number has one form, and nothing stands behind the last one.
	return m, bytes.Equal(b, record(entries...))
}

// wantAsRead holds what Load answers against the chapter's words, and tells whether these say that it is a record.
func wantAsRead(t *testing.T, half int, b []byte) bool {
	t.Helper()
	m, ok := read(half, b)
	l, err := share.Load(half, b)
	switch {
	case !ok:
		if l != nil || err != api.ErrForm {
			t.Errorf("Load of %v = %v, %v, want none, and ErrForm", b, l, err)
		}
	case l == nil || err != api.OK:
		t.Errorf("Load of %v = %v, %v, want a ledger", b, l, err)
	default:
		wantAt(t, l, m, m.times()...)
	}
	return ok
}

// wantForm holds that Load answers ErrForm.
func wantForm(t *testing.T, b []byte) {
	t.Helper()
	if wantAsRead(t, 10, b) {
		t.Errorf("%v is a record", b)
	}
}

// wantRead holds that Load answers the ledger of these.
func wantRead(t *testing.T, entries ...entry) {
	t.Helper()
	if !wantAsRead(t, 10, record(entries...)) {
		t.Errorf("%v is no record", entries)
	}
}

// some are entries that have numbers of one byte and of more.
func some() []entry {
	return []entry{{long, 1 << 32, 8191}, {"ann", 63, 64}, {"bob", 0, 0}, {"bobby", mostUsed, 5}, {"c", 64, mostTime}}
}

func TestSaveOfAnExample(t *testing.T) {
	l := made(t, 10)
	l.Add("bob", 100, 3)
	l.Add("ann", 1, 0)
	l.Add("bob", 14, 13)
	// Two: ann with 1 at 0, and bob with 64 at 13.
	if got, want := l.Save(), []byte{4, 6, 'a', 'n', 'n', 2, 0, 6, 'b', 'o', 'b', 0x80, 1, 26}; !bytes.Equal(got, want) {
		t.Errorf("Save() = %v, want %v", got, want)
	}
}

func TestSaveOfMostUsers(t *testing.T) {
	var entries []entry
	for i, user := range names(1024) {
		entries = append(entries, entry{user, i * 1000, mostTime - i})
	}
	l := loaded(t, 10, entries...)
	if got := l.Save(); !bytes.Equal(got, record(entries...)) {
		t.Errorf("Save() of most users is another record")
	}
}

func TestLoadOfWhatWasSaved(t *testing.T) {
	wantRead(t)
	wantRead(t, some()...)
	for _, e := range some() {
		wantRead(t, e)
	}
	b := bothOf(t, 10)
	for i, user := range []string{"z", "a", "\xff", long, "a"} {
		b.add(t, user, 1000*i, 7*i, api.OK)
		again, err := share.Load(10, b.l.Save())
		if again == nil || err != api.OK {
			t.Fatalf("Load of what was saved = %v, %v", again, err)
		}
		wantAt(t, again, b.m, b.m.times()...)
	}
}

func TestLoadOfHalves(t *testing.T) {
	for _, half := range []int{1, 2, 10, 999999, mostHalf} {
		wantAsRead(t, half, record(some()...))
		wantAsRead(t, half, []byte{2})
	}
	// ErrArg is told of them whether or not the bytes are a record.
	for _, half := range noHalves {
		for _, b := range [][]byte{nil, {0}, record(some()...), {2}, {0x80}, bytes.Repeat([]byte{0xff}, 20)} {
			if l, err := share.Load(half, b); l != nil || err != api.ErrArg {
				t.Errorf("Load(%d, %v) = %v, %v, want none, and ErrArg", half, b, l, err)
			}
		}
	}
}

func TestLoadOfNoRecord(t *testing.T) {
	for _, b := range [][]byte{nil, {}, {1}, {2}, {0, 0}, {0x80}, {0xff}, {0x80, 0}, {2, 0, 0, 0}, {2, 1, 'a', 0, 0}, []byte("record"), bytes.Repeat([]byte{0x80}, 30), bytes.Repeat([]byte{0xff}, 5000)} {
		wantForm(t, b)
	}
}

func TestLoadOfARecordThatIsCutOff(t *testing.T) {
	b := record(some()...)
	for n := range len(b) {
		wantForm(t, b[:n])
		wantAsRead(t, 10, b[n+1:])
	}
}

func TestLoadOfARecordWithAByteMore(t *testing.T) {
	b := record(some()...)
	for last := range 256 {
		wantForm(t, append(slices.Clone(b), byte(last)))
		wantForm(t, append(slices.Clone(b), byte(last), 0))
		wantForm(t, []byte{0, byte(last)})
	}
}

// What has a byte more amid it, or one that is turned, is another record, or none at all.
func TestLoadOfARecordWithAnyByteTurned(t *testing.T) {
	b := record(some()...)
	records := 0
	for at := range b {
		for value := range 256 {
			turned := slices.Clone(b)
			turned[at] = byte(value)
			if wantAsRead(t, 10, turned) {
				records++
			}
			wantAsRead(t, 10, slices.Insert(slices.Clone(b), at, byte(value)))
			wantAsRead(t, 10, slices.Delete(turned, at, at+1))
		}
		if t.Failed() {
			return
		}
	}
	if records <= len(b) || records > 128*len(b) {
		t.Errorf("%d are records, want some, and not all", records)
	}
}

// Each number is in its shortest form.
func TestLoadOfNumbersOfAnotherForm(t *testing.T) {
	wantForm(t, []byte{0x80, 0})
	wantForm(t, []byte{0x82, 0, 2, 'a', 2, 2})
	wantForm(t, []byte{2, 0x82, 0, 'a', 2, 2})
	wantForm(t, []byte{2, 2, 'a', 0x82, 0, 2})
	wantForm(t, []byte{2, 2, 'a', 2, 0x82, 0})
	wantRead(t, entry{"a", 1, 1})
}

func TestLoadOfCounts(t *testing.T) {
	var entries []entry
	for _, user := range names(1026) {
		entries = append(entries, entry{user, 5, 6})
	}
	for _, n := range []int{0, 1, 2, 3, 63, 64, 65, 1023, 1024} {
		wantRead(t, entries[:n]...)
		for _, count := range []int{n - 1, n + 1, -n - 1, math.MinInt, math.MaxInt, 1 << 32, n + 1<<32, 1025} {
			wantForm(t, recordOf(count, entries[:n]...))
		}
	}
	wantForm(t, record(entries[:1025]...))
	wantForm(t, record(entries...))
	wantForm(t, recordOf(1024, entries...))
	wantForm(t, recordOf(-1))
}

func TestLoadOfNames(t *testing.T) {
	for _, user := range []string{"a", "\x00", "\xff", " ", "ä", long, strings.Repeat("\xff", 16)} {
		wantRead(t, entry{user, 5, 6})
		b := record(entry{user, 5, 6}, entry{user, 5, 6})
		wantForm(t, b)
	}
	for _, user := range noNames {
		wantForm(t, record(entry{user, 5, 6}))
		wantForm(t, record(entry{user, 5, 6}, entry{"\xff\xff", 5, 6}))
		wantForm(t, record(entry{"\x00", 5, 6}, entry{user, 5, 6}))
	}
}

// A text that tells of fewer bytes than none, or of more than there are.
func TestLoadOfLengthsOfNames(t *testing.T) {
	for _, size := range []int{-1, -2, math.MinInt, 5, 16, 17, 1 << 32, math.MaxInt} {
		b := append(binary.AppendVarint([]byte{2}, int64(size)), 'a', 2, 2)
		wantForm(t, b)
	}
}

func TestLoadOfUsersThatDoNotRise(t *testing.T) {
	a, b, c := entry{"a", 1, 1}, entry{"b", 2, 2}, entry{"c", 3, 3}
	wantRead(t, a, b, c)
	wantRead(t, a, c)
	for _, l := range [][]entry{{b, a}, {a, c, b}, {b, a, c}, {c, b, a}, {a, a}, {a, b, b}, {a, a, b}, {a, b, a}, {a, b, c, a}} {
		wantForm(t, record(l...))
	}
	// Byte by byte, and the shorter one first.
	wantRead(t, entry{"B", 0, 0}, entry{"a", 0, 0}, entry{"a\x00", 0, 0}, entry{"aa", 0, 0}, entry{"b", 0, 0}, entry{"ä", 0, 0})
	wantForm(t, record(entry{"aa", 0, 0}, entry{"a", 0, 0}))
	wantForm(t, record(entry{"a", 0, 0}, entry{"B", 0, 0}))
	wantForm(t, record(entry{"9", 0, 0}, entry{"10", 0, 0}))
	wantForm(t, record(entry{"ä", 0, 0}, entry{"z", 0, 0}))
}

func TestLoadOfAmounts(t *testing.T) {
	for at := range 3 {
		entries := []entry{{"a", 5, 5}, {"b", 5, 5}, {"c", 5, 5}}
		for _, amount := range []int{0, 1, 63, 64, mostAdded, mostAdded + 1, mostUsed - 1, mostUsed} {
			entries[at].amount = amount
			wantRead(t, entries...)
		}
		for _, amount := range []int{-1, -2, -mostUsed, math.MinInt, math.MinInt + 1, mostUsed + 1, mostUsed + 2, 2 * mostUsed, math.MaxInt - 1, math.MaxInt} {
			entries[at].amount = amount
			wantForm(t, record(entries...))
		}
	}
}

func TestLoadOfTimes(t *testing.T) {
	for at := range 3 {
		entries := []entry{{"a", 5, 5}, {"b", 5, 5}, {"c", 5, 5}}
		for _, now := range []int{0, 1, 63, 64, 1 << 32, mostTime - 1, mostTime} {
			entries[at].time = now
			wantRead(t, entries...)
		}
		for _, now := range noTimes {
			entries[at].time = now
			wantForm(t, record(entries...))
		}
	}
}

func TestLoadOfManyBytesAsTheModel(t *testing.T) {
	r := rand.New(rand.NewSource(46))
	number := func(to int) int {
		if r.Intn(40) == 0 {
			return to + r.Intn(5) - 2
		}
		return r.Intn(to + 1)
	}
	records := 0
	for range 20000 {
		var entries []entry
		for _, user := range []string{"a", "b", "bb", "c", long} {
			if r.Intn(2) == 0 {
				entries = append(entries, entry{user, number([]int{0, 5, mostUsed}[r.Intn(3)]), number([]int{0, 5, mostTime}[r.Intn(3)])})
			}
		}
		slices.SortFunc(entries, func(a, b entry) int { return strings.Compare(a.name, b.name) })
		if len(entries) > 1 && r.Intn(8) == 0 {
			i, k := r.Intn(len(entries)), r.Intn(len(entries))
			entries[i], entries[k] = entries[k], entries[i]
		}
		b := record(entries...)
		if r.Intn(4) == 0 {
			b[r.Intn(len(b))] = byte(r.Intn(256))
		}
		if wantAsRead(t, 1+r.Intn(20), b) {
			records++
		}
		if t.Failed() {
			return
		}
	}
	if records < 2000 || records > 18000 {
		t.Errorf("%d of 20000 are records, want some, and not all", records)
	}
}

// What was used is halved by the half-life that Load has, whatever the one of New was.
func TestLoadOfAnotherHalf(t *testing.T) {
	l := made(t, 10)
	l.Add("ann", 100, 3)
	l.Add("ann", 0, 14)
	other, err := share.Load(4, l.Save())
	if err != api.OK {
		t.Fatalf("Load of what was saved: %v", err)
	}
	b := both{other, modelOf(4, entry{"ann", 50, 13})}
	b.at(t)
	b.used(t, "ann", 16, 50)
	b.used(t, "ann", 17, 25)
	b.add(t, "ann", 1, 22, api.OK)
	b.used(t, "ann", 25, 6)
}

// R4

func TestLoadDoesNotWriteIntoItsBytesOrKeepThem(t *testing.T) {
	b := record(some()...)
	long := append(slices.Clone(b), 7, 7, 7)
	l, err := share.Load(10, long[:len(b)])
	if err != api.OK || !bytes.Equal(long, append(slices.Clone(b), 7, 7, 7)) {
		t.Fatalf("Load = %v, and the bytes are %v behind it", err, long)
	}
	for i := range long {
		long[i] = 0xff
	}
	m := modelOf(10, some()...)
	wantAt(t, l, m, m.times()...)
}

func TestWhatIsAnsweredIsTheCallers(t *testing.T) {
	l := loaded(t, 10, some()...)
	m := modelOf(10, some()...)
	saved, users := l.Save(), l.Users()
	for i := range saved[:cap(saved)] {
		saved[:cap(saved)][i] = 0xff
	}
	for i := range users[:cap(users)] {
		users[:cap(users)][i] = "zed"
	}
	wantAt(t, l, m, m.times()...)
	users = append(users[:1], "yes", "no")
	wantAt(t, l, m, m.times()...)
	l.Add("dan", 5, 5)
	if !slices.Equal(users, []string{"zed", "yes", "no"}) {
		t.Errorf("Add writes into what was answered: %q", users)
	}
}

// P14.6

func TestWhatWasSavedAndLoadedGoesOnAsWhatWasNot(t *testing.T) {
	r := rand.New(rand.NewSource(47))
	for range 60 {
		half := 1 + r.Intn(20)
		b := bothOf(t, half)
		now := r.Intn(30)
		for range 60 {
			b.step(t, r, &now)
			if r.Intn(4) == 0 {
				was := b.l
				again, err := share.Load(half, was.Save())
				if err != api.OK {
					t.Fatalf("Load of what was saved: %v", err)
				}
				b.l = again
				b.at(t)
				// The one that was saved is another one.
				m := b.m.copied()
				b.step(t, r, &now)
				wantAt(t, was, m, m.times()...)
			}
			if t.Failed() {
				return
			}
		}
	}
}

// Two that go on side by side, one of them loaded at each step.
func TestALoadedLedgerHasTheSameAnswers(t *testing.T) {
	r := rand.New(rand.NewSource(48))
	kept, other := made(t, 7), made(t, 7)
	now := 0
	for range 3000 {
		var err api.Errno
		if other, err = share.Load(7, other.Save()); err != api.OK {
			t.Fatalf("Load of what was saved: %v", err)
		}
		user, amount := names(50)[r.Intn(50)], r.Intn(mostAdded+2)-1
		now += r.Intn(3)
		at := max(0, now-r.Intn(4))
		if first, second := kept.Add(user, amount, at), other.Add(user, amount, at); first != second {
			t.Fatalf("Add(%q, %d, %d) = %v, and of one that was loaded %v", user, amount, at, first, second)
		}
		if !bytes.Equal(kept.Save(), other.Save()) {
			t.Fatalf("at %d, one that was loaded is at another place", now)
		}
	}
}
