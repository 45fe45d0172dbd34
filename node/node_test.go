package node_test

import (
	"math"
	"math/big"
	"math/rand"
	"slices"
	"strings"
	"testing"

	"marlinspike/api"
	"marlinspike/node"
)

// The events, by the chapter's numbers.
const (
	powerOn  = 1
	booted   = 2
	bootLate = 3
	take     = 4
	give     = 5
	drain    = 6
	resume   = 7
	fail     = 8
	repair   = 9
	powerOff = 10
	stopped  = 11
)

// most is how often a node is counted not to have booted in time at most.
const most = 1 << 62

// chapter is the chapter's table, as it stands there.
const chapter = `
Off | PowerOn: Booting; Drain: Drained; Fail: Down
Booting | Booted: Idle; BootLate: Off, or Down; Fail: Down
Idle | Take: Busy; Drain: Drained; PowerOff: Stopping; Fail: Down
Busy | Give: Idle; Drain: Draining; Fail: Down
Draining | Give: Drained; Resume: Busy; Fail: Down
Drained | Resume: Idle; Fail: Down
Down | Repair: Off
Stopping | Stopped: Off; Fail: Down
`

// stateNames and eventNames are the chapter's names; an event's number is one more than its place.
var (
	stateNames = []string{"Off", "Booting", "Idle", "Busy", "Draining", "Drained", "Down", "Stopping"}
	eventNames = []string{"PowerOn", "Booted", "BootLate", "Take", "Give", "Drain", "Resume", "Fail", "Repair", "PowerOff", "Stopped"}
)

// pair is a state and an event.
type pair struct{ state, event int }

// table is the chapter's, by state and event; where there are two states, it has the first one.
var table = readTable()

// readTable reads the chapter's table.
func readTable() map[pair]int {
	read := map[pair]int{}
	for _, line := range strings.Split(strings.TrimSpace(chapter), "\n") {
		state, cells, _ := strings.Cut(line, " | ")
		for _, cell := range strings.Split(cells, "; ") {
			event, then, _ := strings.Cut(cell, ": ")
			then, _, _ = strings.Cut(then, ",")
			read[pair{slices.Index(stateNames, state), slices.Index(eventNames, event) + 1}] = slices.Index(stateNames, then)
		}
	}
	return read
}

// states are those that there are, and noStates some that there are not.
var (
	states   = []int{api.Off, api.Booting, api.Idle, api.Busy, api.Draining, api.Drained, api.Down, api.Stopping}
	noStates = []int{-1, 8, 9, -2, -8, 11, 12, 63, 64, 255, 256, -256, 1 << 16, 1 << 32, -1 << 32, 1<<32 + 2, math.MinInt32, math.MaxInt32, math.MinInt, math.MinInt + 1, math.MaxInt}
)

// events are those that there are, and noEvents some that there are not.
var (
	events   = []int{powerOn, booted, bootLate, take, give, drain, resume, fail, repair, powerOff, stopped}
	noEvents = []int{0, 12, -1, 13, -2, -11, 16, 63, 64, 256, 257, -255, 1 << 16, 1 << 32, 1<<32 + 1, -1<<32 + 1, math.MinInt32, math.MaxInt32, math.MinInt, math.MinInt + 1, math.MaxInt}
)

// numbers are edges of 32 and of 64 bits, of times, and of tries.
var numbers = []int{
	math.MinInt, math.MinInt + 1, -most - 1, -most, -most + 1, -1 << 32, -2, -1, 0, 1, 2, 3, 100, 1<<31 - 1, 1 << 31, 1 << 32,
	api.MaxTime - 1, api.MaxTime, api.MaxTime + 1, most/2 - 1, most / 2, most - 2, most - 1, most, most + 1, math.MaxInt - 1, math.MaxInt,
}

// model is what the chapter's words say of Next.
func model(n node.Node, event, now, retry int) (node.Node, api.Errno) {
	if !slices.Contains(states, n.State) || !slices.Contains(events, event) || n.Tries < 0 || now < n.Since {
		return node.Node{}, api.ErrArg
	}
	then, has := table[pair{n.State, event}]
	if !has {
		return node.Node{}, api.ErrState
	}
	want := node.Node{State: then, Since: now, Tries: n.Tries}
	if event == bootLate {
		if n.Tries < most {
			want.Tries = n.Tries + 1
		}
		if want.Tries > retry {
			want.State = api.Down
		}
	}
	if event == booted || event == repair {
		want.Tries = 0
	}
	return want, api.OK
}

// wantNext holds what Next answers against a node and an error.
func wantNext(t *testing.T, n node.Node, event, now, retry int, want node.Node, why api.Errno) {
	t.Helper()
	if got, err := node.Next(n, event, now, retry); got != want || err != why {
		t.Errorf("Next(%v, %d, %d, %d) = %v, %v, want %v, %v", n, event, now, retry, got, err, want, why)
	}
}

// wantRefused holds what Next answers against an error, and no node.
func wantRefused(t *testing.T, n node.Node, event, now, retry int, why api.Errno) {
	t.Helper()
	wantNext(t, n, event, now, retry, node.Node{}, why)
}

// next is a node behind an event that it may have.
func next(t *testing.T, n node.Node, event, now, retry int) node.Node {
	t.Helper()
	got, err := node.Next(n, event, now, retry)
	if err != api.OK {
		t.Fatalf("Next(%v, %d, %d, %d) = %v, %v, want no error", n, event, now, retry, got, err)
	}
	return got
}

func TestTheChaptersTableIsReadWhole(t *testing.T) {
	if len(table) != 21 {
		t.Fatalf("the table has %d events, want 21: %v", len(table), table)
	}
	for p, then := range table {
		if !slices.Contains(states, p.state) || !slices.Contains(events, p.event) || !slices.Contains(states, then) {
			t.Errorf("the table has %v: %d", p, then)
		}
	}
}

// P11.1

func TestNextOfTheExample(t *testing.T) {
	n := node.Node{}
	n = next(t, n, powerOn, 5, 3)
	if want := (node.Node{State: api.Booting, Since: 5}); n != want {
		t.Fatalf("PowerOn at 5: %v, want %v", n, want)
	}
	n = next(t, n, booted, 9, 3)
	if want := (node.Node{State: api.Idle, Since: 9}); n != want {
		t.Fatalf("Booted at 9: %v, want %v", n, want)
	}
}

// Each line of the table, written out once more.
func TestNextOfEachEventOfTheTable(t *testing.T) {
	for _, test := range []struct{ state, event, then, tries int }{
		{api.Off, powerOn, api.Booting, 2},
		{api.Off, drain, api.Drained, 2},
		{api.Off, fail, api.Down, 2},
		{api.Booting, booted, api.Idle, 0},
		{api.Booting, bootLate, api.Off, 3},
		{api.Booting, fail, api.Down, 2},
		{api.Idle, take, api.Busy, 2},
		{api.Idle, drain, api.Drained, 2},
		{api.Idle, powerOff, api.Stopping, 2},
		{api.Idle, fail, api.Down, 2},
		{api.Busy, give, api.Idle, 2},
		{api.Busy, drain, api.Draining, 2},
		{api.Busy, fail, api.Down, 2},
		{api.Draining, give, api.Drained, 2},
		{api.Draining, resume, api.Busy, 2},
		{api.Draining, fail, api.Down, 2},
		{api.Drained, resume, api.Idle, 2},
		{api.Drained, fail, api.Down, 2},
		{api.Down, repair, api.Off, 0},
		{api.Stopping, stopped, api.Off, 2},
		{api.Stopping, fail, api.Down, 2},
	} {
		n := node.Node{State: test.state, Since: 4, Tries: 2}
		wantNext(t, n, test.event, 7, 3, node.Node{State: test.then, Since: 7, Tries: test.tries}, api.OK)
	}
}

func TestNextOfEventsThatTheTableHasNot(t *testing.T) {
	for _, state := range states {
		for _, event := range events {
			if _, has := table[pair{state, event}]; has {
				continue
			}
			for _, retry := range []int{-1, 0, 3, math.MaxInt} {
				for _, tries := range []int{0, 1, 5, most, math.MaxInt} {
					wantRefused(t, node.Node{State: state, Since: 4, Tries: tries}, event, 7, retry, api.ErrState)
					wantRefused(t, node.Node{State: state, Since: 4, Tries: tries}, event, 4, retry, api.ErrState)
				}
			}
		}
	}
}

func TestNextOfStatesThatAreNone(t *testing.T) {
	for _, state := range noStates {
		for _, event := range slices.Concat(events, noEvents) {
			wantRefused(t, node.Node{State: state}, event, 0, 0, api.ErrArg)
			wantRefused(t, node.Node{State: state, Since: 4, Tries: 2}, event, 7, 3, api.ErrArg)
		}
	}
}

func TestNextOfEventsThatAreNone(t *testing.T) {
	for _, event := range noEvents {
		for _, state := range slices.Concat(states, noStates) {
			wantRefused(t, node.Node{State: state}, event, 0, 0, api.ErrArg)
			wantRefused(t, node.Node{State: state, Since: 4, Tries: 2}, event, 7, 3, api.ErrArg)
		}
	}
}

func TestNextOfTriesBelow0(t *testing.T) {
	for p, then := range table {
		for _, tries := range []int{-1, -2, -1 << 32, math.MinInt32, -most, math.MinInt, math.MinInt + 1} {
			for _, retry := range []int{math.MinInt, -2, -1, 0, 3} {
				wantRefused(t, node.Node{State: p.state, Since: 4, Tries: tries}, p.event, 7, retry, api.ErrArg)
			}
		}
		// 0 may be.
		want := node.Node{State: then, Since: 7}
		if p.event == bootLate {
			want.Tries = 1
		}
		wantNext(t, node.Node{State: p.state, Since: 4}, p.event, 7, 3, want, api.OK)
	}
}

func TestNextOfNowAndSince(t *testing.T) {
	for p, then := range table {
		for _, since := range []int{-5, -1, 0, 1, 5, 1 << 32, api.MaxTime, math.MinInt + 1, math.MaxInt - 1} {
			n := node.Node{State: p.state, Since: since, Tries: 2}
			tries := 2
			switch p.event {
			case bootLate:
				tries = 3
			case booted, repair:
				tries = 0
			}
			wantRefused(t, n, p.event, since-1, 3, api.ErrArg)
			for _, now := range []int{since, since + 1, math.MaxInt} {
				wantNext(t, n, p.event, now, 3, node.Node{State: then, Since: now, Tries: tries}, api.OK)
			}
		}
	}
}

// What lies further apart than an int tells is not taken for its opposite.
func TestNextOfNowFarFromSince(t *testing.T) {
	for p, then := range table {
		if p.event == bootLate || p.event == booted || p.event == repair {
			continue
		}
		wantNext(t, node.Node{State: p.state, Since: math.MinInt}, p.event, math.MaxInt, 3, node.Node{State: then, Since: math.MaxInt}, api.OK)
		wantNext(t, node.Node{State: p.state, Since: -2}, p.event, math.MaxInt, 3, node.Node{State: then, Since: math.MaxInt}, api.OK)
		wantNext(t, node.Node{State: p.state, Since: math.MinInt}, p.event, math.MinInt, 3, node.Node{State: then, Since: math.MinInt}, api.OK)
		wantNext(t, node.Node{State: p.state, Since: math.MaxInt}, p.event, math.MaxInt, 3, node.Node{State: then, Since: math.MaxInt}, api.OK)
		wantRefused(t, node.Node{State: p.state, Since: math.MaxInt}, p.event, math.MinInt, 3, api.ErrArg)
		wantRefused(t, node.Node{State: p.state, Since: math.MaxInt}, p.event, -2, 3, api.ErrArg)
	}
}

func TestNextOfBootLate(t *testing.T) {
	for _, test := range []struct{ tries, retry, then, after int }{
		// One below retry, at it, and above it.
		{2, 3, api.Off, 3},
		{3, 3, api.Down, 4},
		{4, 3, api.Down, 5},
		{0, 3, api.Off, 1},
		{1, 3, api.Off, 2},
		{9, 3, api.Down, 10},
		{0, 1, api.Off, 1},
		{1, 1, api.Down, 2},
		{2, 1, api.Down, 3},
		// A retry of 0, and below 0.
		{0, 0, api.Down, 1},
		{1, 0, api.Down, 2},
		{0, -1, api.Down, 1},
		{5, -1, api.Down, 6},
		{0, -2, api.Down, 1},
		{0, math.MinInt, api.Down, 1},
		{most, math.MinInt, api.Down, most},
		{math.MaxInt, -1, api.Down, math.MaxInt},
		// What has more than 32 bits.
		{1<<32 - 1, 1 << 32, api.Off, 1 << 32},
		{1 << 32, 1 << 32, api.Down, 1<<32 + 1},
		{1 << 32, 3, api.Down, 1<<32 + 1},
		{0, 1 << 32, api.Off, 1},
		// At and about 2^62, from where on the tries stay.
		{most - 2, most - 1, api.Off, most - 1},
		{most - 2, most - 2, api.Down, most - 1},
		{most - 1, most + 1, api.Off, most},
		{most - 1, most, api.Off, most},
		{most - 1, most - 1, api.Down, most},
		{most - 1, 3, api.Down, most},
		{most, most + 1, api.Off, most},
		{most, most, api.Off, most},
		{most, most - 1, api.Down, most},
		{most, 3, api.Down, most},
		{most + 1, most + 1, api.Off, most + 1},
		{most + 1, most, api.Down, most + 1},
		{math.MaxInt - 1, math.MaxInt, api.Off, math.MaxInt - 1},
		{math.MaxInt - 1, math.MaxInt - 1, api.Off, math.MaxInt - 1},
		{math.MaxInt - 1, math.MaxInt - 2, api.Down, math.MaxInt - 1},
		{math.MaxInt, math.MaxInt, api.Off, math.MaxInt},
		{math.MaxInt, math.MaxInt - 1, api.Down, math.MaxInt},
		{math.MaxInt, 0, api.Down, math.MaxInt},
	} {
		n := node.Node{State: api.Booting, Since: 4, Tries: test.tries}
		wantNext(t, n, bootLate, 7, test.retry, node.Node{State: test.then, Since: 7, Tries: test.after}, api.OK)
		wantNext(t, n, bootLate, 4, test.retry, node.Node{State: test.then, Since: 4, Tries: test.after}, api.OK)
	}
}

// The event is done, whether or not the node is late: that is Late's to tell.
func TestNextOfBootLateAheadOfTime(t *testing.T) {
	n := node.Node{State: api.Booting, Since: 4}
	wantNext(t, n, bootLate, 4, 3, node.Node{State: api.Off, Since: 4, Tries: 1}, api.OK)
	wantNext(t, n, booted, 1<<40, 3, node.Node{State: api.Idle, Since: 1 << 40}, api.OK)
}

func TestNextOfBootedAndRepairMakesTheTries0(t *testing.T) {
	for _, tries := range []int{0, 1, 2, 3, 4, 100, 1 << 32, most - 1, most, most + 1, math.MaxInt} {
		for _, retry := range []int{math.MinInt, -1, 0, 2, 3, most, math.MaxInt} {
			wantNext(t, node.Node{State: api.Booting, Since: 4, Tries: tries}, booted, 7, retry, node.Node{State: api.Idle, Since: 7}, api.OK)
			wantNext(t, node.Node{State: api.Down, Since: 4, Tries: tries}, repair, 7, retry, node.Node{State: api.Off, Since: 7}, api.OK)
		}
	}
}

func TestNextOfEachOtherEventLeavesTheTries(t *testing.T) {
	for p, then := range table {
		if p.event == bootLate || p.event == booted || p.event == repair {
			continue
		}
		for _, tries := range []int{0, 1, 2, 3, 4, 100, 1 << 32, most - 1, most, most + 1, math.MaxInt} {
			for _, retry := range []int{math.MinInt, -1, 0, 2, 3, most, math.MaxInt} {
				wantNext(t, node.Node{State: p.state, Since: 4, Tries: tries}, p.event, 7, retry, node.Node{State: then, Since: 7, Tries: tries}, api.OK)
			}
		}
	}
}

func TestNextTellsErrArgAheadOfErrState(t *testing.T) {
	for _, state := range states {
		for _, event := range events {
			wantRefused(t, node.Node{State: state, Since: 4, Tries: -1}, event, 7, 3, api.ErrArg)
			wantRefused(t, node.Node{State: state, Since: 8, Tries: 0}, event, 7, 3, api.ErrArg)
			wantRefused(t, node.Node{State: state, Since: 8, Tries: -1}, event, 7, 3, api.ErrArg)
		}
	}
	// All at once.
	wantRefused(t, node.Node{State: 8, Since: 8, Tries: -1}, 12, 7, -1, api.ErrArg)
	wantRefused(t, node.Node{State: -1, Since: 8, Tries: -1}, 0, 7, -1, api.ErrArg)
}

func TestNextAsTheModel(t *testing.T) {
	some := []int{math.MinInt, -most, -1, 0, 1, 3, 1 << 32, most - 1, most, most + 1, math.MaxInt}
	for _, state := range slices.Concat(states, noStates[:2]) {
		for _, event := range slices.Concat(events, noEvents[:2]) {
			for _, since := range some {
				for _, tries := range some {
					for _, now := range some {
						for _, retry := range some {
							n := node.Node{State: state, Since: since, Tries: tries}
							want, why := model(n, event, now, retry)
							wantNext(t, n, event, now, retry, want, why)
						}
					}
				}
			}
		}
		if t.Failed() {
			return
		}
	}
}

func TestNextOfManyNumbersAsTheModel(t *testing.T) {
	r := rand.New(rand.NewSource(11))
	number := func() int {
		if r.Intn(2) == 0 {
			return r.Intn(9) - 1
		}
		return numbers[r.Intn(len(numbers))] + r.Intn(3) - 1
	}
	for range 300000 {
		n := node.Node{State: r.Intn(10) - 1, Since: number(), Tries: number()}
		event, now, retry := r.Intn(13), number(), number()
		want, why := model(n, event, now, retry)
		wantNext(t, n, event, now, retry, want, why)
		if t.Failed() {
			return
		}
	}
}

func TestEvents(t *testing.T) {
	for _, test := range []struct {
		state int
		want  []int
	}{
		{api.Off, []int{powerOn, drain, fail}},
		{api.Booting, []int{booted, bootLate, fail}},
		{api.Idle, []int{take, drain, fail, powerOff}},
		{api.Busy, []int{give, drain, fail}},
		{api.Draining, []int{give, resume, fail}},
		{api.Drained, []int{resume, fail}},
		{api.Down, []int{repair}},
		{api.Stopping, []int{fail, stopped}},
	} {
		if got := node.Events(test.state); !slices.Equal(got, test.want) {
			t.Errorf("Events(%d) = %v, want %v", test.state, got, test.want)
		}
	}
}

func TestEventsOfNumbersThatAreNoState(t *testing.T) {
	for _, state := range noStates {
		if got := node.Events(state); len(got) != 0 {
			t.Errorf("Events(%d) = %v, want none", state, got)
		}
	}
}

// What Events tells is just what Next does not refuse.
func TestEventsAreThoseThatNextTakes(t *testing.T) {
	for _, state := range states {
		var want []int
		for event := -1; event <= 13; event++ {
			if _, err := node.Next(node.Node{State: state}, event, 0, 0); err == api.OK {
				want = append(want, event)
			}
		}
		if got := node.Events(state); !slices.Equal(got, want) {
			t.Errorf("Events(%d) = %v, want %v", state, got, want)
		}
	}
}

// P11.2

// wantLate holds what Late answers against an answer.
func wantLate(t *testing.T, n node.Node, now, boot int, want bool) {
	t.Helper()
	if got := node.Late(n, now, boot); got != want {
		t.Errorf("Late(%v, %d, %d) = %v, want %v", n, now, boot, got, want)
	}
}

// isLate is what the chapter's words say of Late, with numbers without bounds.
func isLate(n node.Node, now, boot int) bool {
	if n.State != api.Booting || now < n.Since || boot < 0 {
		return false
	}
	passed := new(big.Int).Sub(big.NewInt(int64(now)), big.NewInt(int64(n.Since)))
	twice := new(big.Int).Mul(big.NewInt(2), big.NewInt(int64(boot)))
	return passed.Cmp(twice) > 0
}

func TestLateOfEachState(t *testing.T) {
	for _, state := range slices.Concat(states, noStates) {
		booting := state == api.Booting
		for _, tries := range []int{0, 1, 3, -1, math.MaxInt} {
			n := node.Node{State: state, Since: 5, Tries: tries}
			// Twice boot is 20, so that it may take till 25.
			wantLate(t, n, 24, 10, false)
			wantLate(t, n, 25, 10, false)
			wantLate(t, n, 26, 10, booting)
			wantLate(t, n, 15, 10, false)
			wantLate(t, n, 16, 10, false)
			wantLate(t, n, 27, 10, booting)
			wantLate(t, n, 1000, 10, booting)
			wantLate(t, n, math.MaxInt, 10, booting)
			wantLate(t, n, 5, 10, false)
			// One below Since, and far below.
			wantLate(t, n, 4, 10, false)
			wantLate(t, n, 4, 0, false)
			wantLate(t, n, -1000, 10, false)
			wantLate(t, n, math.MinInt, 10, false)
		}
	}
}

func TestLateOfBootOf0AndBelow(t *testing.T) {
	n := node.Node{State: api.Booting, Since: 5}
	wantLate(t, n, 4, 0, false)
	wantLate(t, n, 5, 0, false)
	wantLate(t, n, 6, 0, true)
	wantLate(t, n, 7, 0, true)
	wantLate(t, n, 6, 1, false)
	wantLate(t, n, 7, 1, false)
	wantLate(t, n, 8, 1, true)
	for _, boot := range []int{-1, -2, -10, -1 << 32, -most - 1, -most, -most + 1, math.MinInt, math.MinInt + 1} {
		for _, now := range []int{math.MinInt, 0, 3, 4, 5, 6, 7, 100, math.MaxInt} {
			wantLate(t, n, now, boot, false)
		}
	}
}

func TestLateOfNumbersThatWouldGoRound(t *testing.T) {
	for _, test := range []struct {
		since, now, boot int
		want             bool
	}{
		// Twice boot is no int.
		{0, math.MaxInt, most - 1, true},
		{0, math.MaxInt, most, false},
		{0, math.MaxInt, most + 1, false},
		{0, 100, most, false},
		{0, 100, math.MaxInt, false},
		{0, math.MaxInt, math.MaxInt, false},
		{0, 1, 1<<62 + 1<<61, false},
		// Since and twice boot together are no int.
		{math.MaxInt - 1, math.MaxInt, 0, true},
		{math.MaxInt - 1, math.MaxInt, 1, false},
		{math.MaxInt - 2, math.MaxInt, 1, false},
		{math.MaxInt - 3, math.MaxInt, 1, true},
		{math.MaxInt - 5, math.MaxInt, 10, false},
		{math.MaxInt, math.MaxInt, 0, false},
		{math.MaxInt, math.MaxInt, math.MaxInt, false},
		{math.MaxInt, math.MinInt, 0, false},
		{math.MaxInt, math.MinInt, 1, false},
		// What has passed is no int.
		{-1, math.MaxInt, most - 1, true},
		{-1, math.MaxInt, most, false},
		{-2, math.MaxInt, most, true},
		{-2, math.MaxInt, most + 1, false},
		{-2, math.MaxInt, 0, true},
		{math.MinInt, math.MaxInt, 0, true},
		{math.MinInt, math.MaxInt, most, true},
		{math.MinInt, math.MaxInt, math.MaxInt - 1, true},
		{math.MinInt, math.MaxInt, math.MaxInt, true},
		{math.MinInt + 1, math.MaxInt, math.MaxInt, false},
		{math.MinInt, math.MaxInt - 1, math.MaxInt, false},
		{math.MinInt, 0, most - 1, true},
		{math.MinInt, 0, most, false},
		{math.MinInt, 1, most, true},
		{math.MinInt, math.MinInt, 0, false},
		{math.MinInt, math.MinInt + 1, 0, true},
		{math.MinInt, math.MinInt + 2, 1, false},
		{math.MinInt, math.MinInt + 3, 1, true},
		// What has more than 32 bits.
		{0, 1 << 32, 1 << 31, false},
		{0, 1<<32 + 1, 1 << 31, true},
		{0, 1 << 32, 10, true},
		{0, 100, 1 << 32, false},
		{api.MaxTime - 21, api.MaxTime, 10, true},
		{api.MaxTime - 20, api.MaxTime, 10, false},
	} {
		wantLate(t, node.Node{State: api.Booting, Since: test.since}, test.now, test.boot, test.want)
		wantLate(t, node.Node{State: api.Idle, Since: test.since}, test.now, test.boot, false)
	}
}

func TestLateAsTheModel(t *testing.T) {
	for _, since := range numbers {
		for _, now := range numbers {
			for _, boot := range numbers {
				n := node.Node{State: api.Booting, Since: since}
				wantLate(t, n, now, boot, isLate(n, now, boot))
			}
		}
	}
}

func TestLateOfManyNumbersAsTheModel(t *testing.T) {
	r := rand.New(rand.NewSource(12))
	for range 100000 {
		n := node.Node{State: api.Booting, Since: int(r.Uint64() >> r.Intn(64))}
		boot := int(r.Uint64() >> r.Intn(64))
		// Near what is just late, as far as that goes round.
		now := n.Since + 2*boot + r.Intn(5) - 2
		wantLate(t, n, now, boot, isLate(n, now, boot))
		now = int(r.Uint64() >> r.Intn(64))
		wantLate(t, n, now, boot, isLate(n, now, boot))
		if t.Failed() {
			return
		}
	}
}

func TestUpAndPowered(t *testing.T) {
	for _, test := range []struct {
		state       int
		up, powered bool
	}{
		{api.Off, false, false},
		{api.Booting, false, true},
		{api.Idle, true, true},
		{api.Busy, true, true},
		{api.Draining, true, true},
		{api.Drained, true, true},
		{api.Down, false, false},
		{api.Stopping, false, true},
	} {
		if got := node.Up(test.state); got != test.up {
			t.Errorf("Up(%d) = %v, want %v", test.state, got, test.up)
		}
		if got := node.Powered(test.state); got != test.powered {
			t.Errorf("Powered(%d) = %v, want %v", test.state, got, test.powered)
		}
	}
}

func TestUpAndPoweredOfNumbersThatAreNoState(t *testing.T) {
	for _, state := range noStates {
		if node.Up(state) {
			t.Errorf("Up(%d) = true, want false", state)
		}
		if node.Powered(state) {
			t.Errorf("Powered(%d) = true, want false", state)
		}
	}
	for bit := range 64 {
		for state := range 8 {
			// A number of which only the lowest bits are a state's.
			if n := state + 1<<bit; bit >= 3 && (node.Up(n) || node.Powered(n) || len(node.Events(n)) != 0) {
				t.Errorf("%d is taken for a state", n)
			}
		}
	}
}

// P11.3

func TestFromEachStateEachOtherOneIsComeTo(t *testing.T) {
	for _, from := range states {
		come := map[int]bool{from: true}
		for ways := []node.Node{{State: from}}; len(ways) > 0; ways = ways[1:] {
			for _, event := range node.Events(ways[0].State) {
				n := next(t, ways[0], event, ways[0].Since+1, 1)
				if !come[n.State] {
					come[n.State] = true
					ways = append(ways, n)
				}
			}
		}
		for _, to := range states {
			if !come[to] {
				t.Errorf("from %d no events lead to %d", from, to)
			}
		}
	}
}

// P11.4

func TestANodeIsDownBehindMoreThanRetryLateBoots(t *testing.T) {
	for retry := range 40 {
		n, now := node.Node{}, 0
		for late := 1; late <= retry+1; late++ {
			n = next(t, n, powerOn, now, retry)
			now += 21
			if !node.Late(n, now, 10) {
				t.Fatalf("Late(%v, %d, 10) = false, want true", n, now)
			}
			n = next(t, n, bootLate, now, retry)
			want := node.Node{State: api.Off, Since: now, Tries: late}
			if late > retry {
				want.State = api.Down
			}
			if n != want {
				t.Fatalf("with retry %d, behind %d late boots: %v, want %v", retry, late, n, want)
			}
		}
		wantRefused(t, n, powerOn, now, retry, api.ErrState)
		// Repaired, it may try as often again.
		n = next(t, n, repair, now, retry)
		for range retry {
			n = next(t, next(t, n, powerOn, now, retry), bootLate, now, retry)
		}
		if n.State != api.Off {
			t.Fatalf("with retry %d, repaired, and behind as many late boots: %v, want it Off", retry, n)
		}
	}
}

func TestLateBootsAreCountedOnEnd(t *testing.T) {
	const retry = 2
	n := node.Node{}
	late := func() { n = next(t, next(t, n, powerOn, n.Since, retry), bootLate, n.Since+1, retry) }
	off := func() { n = next(t, next(t, n, powerOff, n.Since, retry), stopped, n.Since+1, retry) }
	for range 5 {
		late()
		late()
		if n.State != api.Off {
			t.Fatalf("behind 2 late boots: %v, want it Off", n)
		}
		// A boot in time ends the count.
		n = next(t, next(t, n, powerOn, n.Since, retry), booted, n.Since+1, retry)
		off()
	}
	late()
	// What comes between, and is no boot, does not end it.
	n = next(t, next(t, n, drain, n.Since, retry), resume, n.Since+1, retry)
	n = next(t, next(t, n, take, n.Since, retry), give, n.Since+1, retry)
	off()
	late()
	if n.State != api.Off {
		t.Fatalf("behind 2 late boots: %v, want it Off", n)
	}
	late()
	if n.State != api.Down {
		t.Fatalf("behind 3 late boots: %v, want it Down", n)
	}
}

// Many ways, of which each counts late boots of its own.
func TestOnLongWaysANodeIsDownJustBehindMoreThanRetryLateBoots(t *testing.T) {
	r := rand.New(rand.NewSource(13))
	for range 300 {
		n, late, retry := node.Node{}, 0, r.Intn(5)-1
		for range 300 {
			may := node.Events(n.State)
			event := may[r.Intn(len(may))]
			if n.State == api.Booting && r.Intn(3) > 0 {
				event = bootLate
			}
			if event == fail && r.Intn(3) > 0 {
				continue
			}
			n = next(t, n, event, n.Since+r.Intn(3), retry)
			switch event {
			case bootLate:
				late++
				if down := n.State == api.Down; down != (late > retry) {
					t.Fatalf("with retry %d, behind %d late boots on end: %v", retry, late, n)
				}
			case booted, repair:
				late = 0
			}
			if n.Tries != late {
				t.Fatalf("behind %d late boots on end: %v", late, n)
			}
		}
	}
}

// P11.5

func TestOnlyANodeThatWasIdleIsStoppedOrTaken(t *testing.T) {
	for _, state := range states {
		for _, event := range events {
			for _, retry := range []int{-1, 0, 1, 9} {
				n, err := node.Next(node.Node{State: state, Tries: 1}, event, 3, retry)
				if err != api.OK {
					continue
				}
				if n.State == api.Stopping && (state != api.Idle || event != powerOff) {
					t.Errorf("from %d, by %d, a node is Stopping", state, event)
				}
				if event == take && (state != api.Idle || n.State != api.Busy) {
					t.Errorf("from %d a node is taken, and is %v", state, n)
				}
				// One that is Draining was taken already.
				if n.State == api.Busy && event != take && state != api.Draining {
					t.Errorf("from %d, by %d, a node is Busy", state, event)
				}
			}
		}
	}
	for _, state := range states {
		if state != api.Idle {
			wantRefused(t, node.Node{State: state}, powerOff, 3, 1, api.ErrState)
			wantRefused(t, node.Node{State: state}, take, 3, 1, api.ErrState)
		}
	}
	wantNext(t, node.Node{State: api.Idle}, powerOff, 3, 1, node.Node{State: api.Stopping, Since: 3}, api.OK)
	wantNext(t, node.Node{State: api.Idle}, take, 3, 1, node.Node{State: api.Busy, Since: 3}, api.OK)
}

// R3, R4

func TestAnswersAreTheCallers(t *testing.T) {
	for _, state := range slices.Concat(states, noStates) {
		first, second := node.Events(state), node.Events(state)
		want := slices.Clone(first)
		// Beyond the list's end, too, as far as it has room.
		for i := range first[:cap(first)] {
			first[:cap(first)][i] = -7
		}
		if !slices.Equal(second, want) {
			t.Errorf("Events(%d), written over, turns another answer to %v", state, second)
		}
		if got := node.Events(state); !slices.Equal(got, want) {
			t.Errorf("Events(%d), written over, is %v, want %v", state, got, want)
		}
		_ = append(second, take, give)
		if got := node.Events(state); !slices.Equal(got, want) {
			t.Errorf("Events(%d), made longer, is %v, want %v", state, got, want)
		}
	}
	// Nothing else was turned, either.
	for p, then := range table {
		if n, err := node.Next(node.Node{State: p.state}, p.event, 1, 9); n.State != then || err != api.OK {
			t.Errorf("Next of %v = %v, %v, want state %d", p, n, err, then)
		}
	}
}

func TestTheSameCallsHaveTheSameAnswers(t *testing.T) {
	type call struct {
		n                node.Node
		event, now, some int
	}
	type answer struct {
		n                 node.Node
		err               api.Errno
		late, up, powered bool
		events            string
	}
	ask := func(c call) answer {
		n, err := node.Next(c.n, c.event, c.now, c.some)
		a := answer{n: n, err: err, late: node.Late(c.n, c.now, c.some), up: node.Up(c.n.State), powered: node.Powered(c.n.State)}
		for _, event := range node.Events(c.n.State) {
			a.events += eventNames[event-1] + " "
		}
		return a
	}
	var calls []call
	for _, state := range slices.Concat(noStates[:2], states) {
		for _, event := range slices.Concat(noEvents[:2], events) {
			for tries := -1; tries <= 3; tries++ {
				for now := 4; now <= 8; now++ {
					calls = append(calls, call{node.Node{State: state, Since: 5, Tries: tries}, event, now, 1})
				}
			}
		}
	}
	first := make([]answer, len(calls))
	for i, c := range calls {
		first[i] = ask(c)
	}
	r := rand.New(rand.NewSource(14))
	for range 3 {
		for _, i := range r.Perm(len(calls)) {
			if got := ask(calls[i]); got != first[i] {
				t.Fatalf("%v: %v, and again %v", calls[i], first[i], got)
			}
		}
	}
}

// R1

func TestNoCallPanicsAtAnyNumbers(t *testing.T) {
	r := rand.New(rand.NewSource(15))
	number := func() int { return int(r.Uint64()) >> r.Intn(64) }
	for range 100000 {
		n := node.Node{State: number(), Since: number(), Tries: number()}
		event, now, retry := number(), number(), number()
		want, why := model(n, event, now, retry)
		wantNext(t, n, event, now, retry, want, why)
		wantLate(t, n, now, retry, isLate(n, now, retry))
		if up := slices.Contains([]int{api.Idle, api.Busy, api.Draining, api.Drained}, n.State); node.Up(n.State) != up {
			t.Errorf("Up(%d) = %v, want %v", n.State, !up, up)
		}
		if !slices.Contains(states, n.State) && (node.Powered(n.State) || len(node.Events(n.State)) != 0) {
			t.Errorf("%d is taken for a state", n.State)
		}
		if t.Failed() {
			return
		}
	}
}
