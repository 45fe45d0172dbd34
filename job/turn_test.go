package job_test

import (
	"math"
	"math/rand"
	"slices"
	"testing"

	"marlinspike/api"
	"marlinspike/bits"
	"marlinspike/job"
)

// P13.2

// twoFree are two nodes that no job of ofEach holds.
var twoFree = bits.Of(100, 200)

// good is a call of ofEach's job in a state that is refused for its state at most.
func good(name string, state, now int) call {
	return call{name: name, id: state + 1, state: api.Failed, now: now, nodes: twoFree}
}

// Each call of the chapter's table, at each state.
func TestCallsAtEachState(t *testing.T) {
	for _, name := range calls {
		for _, state := range states {
			b := ofEach(t)
			if !slices.Contains(from[name], state) {
				b.refused(t, good(name, state, 50), api.ErrState)
				continue
			}
			b.must(t, good(name, state, 50))
		}
	}
}

// want holds a job against what the chapter says, told one by one.
func (b both) want(t testing.TB, id, state, began, ended, tries int, nodes ...int) {
	t.Helper()
	got, err := b.table.Get(id)
	if got.State != state || got.Began != began || got.Ended != ended || got.Tries != tries || got.Nodes != bits.Of(nodes...) || err != api.OK {
		t.Errorf("Get(%d) = %+v, %v, want state %d, began at %d, ended at %d, begun %d times, and nodes %v", id, got, err, state, began, ended, tries, nodes)
	}
}

// What a job is behind each call, in each state that the chapter's table has.
func TestJobsBehindCalls(t *testing.T) {
	free := []int{100, 200}
	for _, test := range []struct {
		name                             string
		state, then, began, ended, tries int
		nodes, held                      []int
	}{
		{"Hold", api.Pending, api.Held, 0, 0, 0, nil, nil},
		{"Release", api.Held, api.Pending, 0, 0, 0, nil, nil},
		{"Cancel", api.Pending, api.Cancelled, 0, 50, 0, nil, nil},
		{"Cancel", api.Held, api.Cancelled, 0, 50, 0, nil, nil},
		{"Cancel", api.Running, api.Cancelled, 22, 50, 1, nil, []int{4, 5}},
		{"Start", api.Pending, api.Running, 50, 0, 1, free, nil},
		{"Finish", api.Running, api.Failed, 22, 50, 1, nil, []int{4, 5}},
		{"Requeue", api.Running, api.Pending, 0, 0, 1, nil, []int{4, 5}},
		{"Requeue", api.Completed, api.Pending, 0, 0, 1, nil, nil},
		{"Requeue", api.Failed, api.Pending, 0, 0, 1, nil, nil},
		{"Requeue", api.TimedOut, api.Pending, 0, 0, 1, nil, nil},
		{"Bar", api.Pending, api.Never, 0, 50, 0, nil, nil},
		{"Bar", api.Held, api.Never, 0, 50, 0, nil, nil},
	} {
		b := ofEach(t)
		was, _ := b.table.Get(test.state + 1)
		if held := b.must(t, good(test.name, test.state, 50)); held != bits.Of(test.held...) {
			t.Errorf("%s in state %d answers %v, want %v", test.name, test.state, bits.List(held), test.held)
		}
		b.want(t, test.state+1, test.then, test.began, test.ended, test.tries, test.nodes...)
		// What it was submitted with, and when, stays.
		got, _ := b.table.Get(test.state + 1)
		was.State, was.Began, was.Ended, was.Tries, was.Nodes = got.State, got.Began, got.Ended, got.Tries, got.Nodes
		if !plainly(got, was) {
			t.Errorf("%s in state %d turns more than may be: %+v, want %+v", test.name, test.state, got, was)
		}
	}
}

// Began and Ended are those of the call, whatever they were, and whichever may be.
func TestCallsAtTimes(t *testing.T) {
	for _, first := range times {
		for _, second := range times {
			b := newBoth(t)
			b.submit(t, "", 7, 1)
			b.start(t, 1, first, 9)
			b.want(t, 1, api.Running, first, 0, 1, 9)
			b.finish(t, 1, api.Completed, second)
			b.want(t, 1, api.Completed, first, second, 1)
			b.must(t, call{name: "Requeue", id: 1, now: second})
			b.want(t, 1, api.Pending, 0, 0, 1)
			b.start(t, 1, second, 8)
			b.want(t, 1, api.Running, second, 0, 2, 8)
			b.must(t, call{name: "Requeue", id: 1, now: first})
			b.want(t, 1, api.Pending, 0, 0, 2)
			b.start(t, 1, second, 8)
			b.must(t, call{name: "Cancel", id: 1, now: first})
			b.want(t, 1, api.Cancelled, second, first, 3)
			b.submit(t, "", 7, 2)
			b.must(t, call{name: "Bar", id: 2, now: first})
			b.want(t, 2, api.Never, 0, first, 0)
			b.submit(t, "", 7, 3)
			b.must(t, call{name: "Cancel", id: 3, now: second})
			b.want(t, 3, api.Cancelled, 0, second, 0)
		}
	}
}

// Times that may not be, in each state, and of numbers that are no job's.
func TestCallsAtTimesThatMayNotBe(t *testing.T) {
	b := ofEach(t)
	for _, now := range noTimes {
		for _, name := range []string{"Cancel", "Start", "Finish", "Requeue", "Bar"} {
			for _, state := range states {
				b.refused(t, good(name, state, now), api.ErrArg)
			}
			for _, id := range slices.Concat(noIds, []int{9}) {
				b.refused(t, call{name: name, id: id, state: api.Failed, now: now, nodes: twoFree}, api.ErrArg)
			}
		}
	}
}

// Hold and Release have no time: each job's state alone counts.
func TestHoldAndRelease(t *testing.T) {
	b := newBoth(t)
	b.submit(t, "nodes=2", api.MaxTime, 1)
	b.submit(t, "", 3, 2)
	for range 3 {
		b.refused(t, call{name: "Release", id: 1}, api.ErrState)
		b.must(t, call{name: "Hold", id: 1})
		b.want(t, 1, api.Held, 0, 0, 0)
		b.want(t, 2, api.Pending, 0, 0, 0)
		b.refused(t, call{name: "Hold", id: 1}, api.ErrState)
		b.refused(t, call{name: "Start", id: 1, now: 5, nodes: bits.Of(1, 2)}, api.ErrState)
		b.must(t, call{name: "Release", id: 1})
	}
	b.start(t, 1, 5, 1, 2)
	b.must(t, call{name: "Requeue", id: 1, now: 6})
	b.must(t, call{name: "Hold", id: 1})
	// What was begun stays counted.
	b.want(t, 1, api.Held, 0, 0, 1)
}

func TestNumbersThatAreNoJobs(t *testing.T) {
	for _, jobs := range []int{1, 2, 7} {
		b := newBoth(t)
		for id := range jobs {
			b.submit(t, "", id, id+1)
		}
		// The last one is there, and one above it is not.
		for _, name := range calls {
			for _, id := range slices.Concat(noIds, []int{jobs + 1, jobs + 2}) {
				b.refused(t, call{name: name, id: id, state: api.Failed, now: 5, nodes: bits.Of(3)}, api.ErrNone)
				// However many nodes, since there is no job that asks for any.
				b.refused(t, call{name: name, id: id, state: api.TimedOut, now: 5}, api.ErrNone)
				b.refused(t, call{name: name, id: id, state: api.Completed, now: 5, nodes: bits.Span(0, 255)}, api.ErrNone)
			}
		}
		b.must(t, call{name: "Hold", id: jobs})
		b.must(t, call{name: "Release", id: jobs})
		b.start(t, jobs, 5, 3)
		b.must(t, call{name: "Cancel", id: jobs, now: 5})
	}
}

func TestStartOfCountsOfNodes(t *testing.T) {
	for _, test := range []struct {
		options string
		nodes   int
	}{{"", 1}, {"nodes=1", 1}, {"nodes=2", 2}, {"nodes=64", 64}, {"nodes=255", 255}, {"nodes=256", 256}} {
		for count := range 257 {
			near := count < 4 || count > 254 || count >= test.nodes-2 && count <= test.nodes+2
			if !near {
				continue
			}
			b := newBoth(t)
			b.submit(t, test.options, 3, 1)
			nodes := bits.Span(256-count, 255)
			if count != test.nodes {
				b.refused(t, call{name: "Start", id: 1, now: 5, nodes: nodes}, api.ErrArg)
				continue
			}
			b.must(t, call{name: "Start", id: 1, now: 5, nodes: nodes})
			b.want(t, 1, api.Running, 5, 0, 1, bits.List(nodes)...)
		}
	}
}

// Any nodes that there may be, at the edges of words, too.
func TestStartOnEachNode(t *testing.T) {
	b := newBoth(t)
	b.submit(t, "array=0-255", 3, upTo(257)[1:]...)
	for i := range 256 {
		if got := (call{name: "Start", id: 256 - i, now: 5, nodes: bits.Of(i)}).on(b.table); !alike(got, answer{}) {
			t.Errorf("Start(%d) on %d = %v", 256-i, i, got)
		}
		if got := b.table.Busy(); got != bits.Span(0, i) {
			t.Errorf("Busy() = %v, want 0 to %d", bits.List(got), i)
		}
	}
}

func TestStartOnNodesThatAnotherJobHolds(t *testing.T) {
	for _, held := range []int{0, 63, 64, 128, 191, 192, 255} {
		b := newBoth(t)
		b.submit(t, "", 3, 1)
		b.submit(t, "nodes=3", 3, 2)
		b.submit(t, "nodes=3", 3, 3)
		b.start(t, 1, 5, held)
		on := func(nodes ...int) call { return call{name: "Start", id: 2, now: 6, nodes: bits.Of(nodes...)} }
		b.refused(t, on(held, 100, 101), api.ErrArg)
		b.refused(t, on(99, held, 101), api.ErrArg)
		b.refused(t, on(99, 100, held), api.ErrArg)
		b.refused(t, on(held), api.ErrArg)
		// Nor is a fourth one taken for it.
		b.refused(t, on(held, 99, 100, 101), api.ErrArg)
		b.must(t, on(99, 100, 101))
		b.refused(t, call{name: "Start", id: 3, now: 6, nodes: bits.Of(101, 102, 103)}, api.ErrArg)
		// What is held no more may be taken.
		b.finish(t, 2, api.TimedOut, 7)
		b.start(t, 3, 7, 99, 102, 101)
	}
}

// ErrArg is named ahead of ErrState.
func TestStartTellsErrArgAheadOfErrState(t *testing.T) {
	for _, state := range states {
		b := ofEach(t)
		for _, nodes := range [][]int{nil, {100}, {100, 101, 102}, {4, 100}, {4, 5}, {5, 200}} {
			b.refused(t, call{name: "Start", id: state + 1, now: 50, nodes: bits.Of(nodes...)}, api.ErrArg)
		}
		if state != api.Pending {
			b.refused(t, good("Start", state, 50), api.ErrState)
		}
	}
}

func TestFinishWithEachState(t *testing.T) {
	for _, state := range []int{api.Completed, api.Failed, api.TimedOut} {
		b := ofEach(t)
		held := b.must(t, call{name: "Finish", id: api.Running + 1, state: state, now: 60})
		if held != bits.Of(4, 5) {
			t.Errorf("Finish answers %v, want 4 and 5", bits.List(held))
		}
		b.want(t, api.Running+1, state, 22, 60, 1)
		// Behind it, it is refused.
		b.refused(t, call{name: "Finish", id: api.Running + 1, state: state, now: 61}, api.ErrState)
	}
}

func TestFinishWithStatesThatAreNoneOfThree(t *testing.T) {
	b := ofEach(t)
	for _, state := range slices.Concat(noStates, []int{api.Pending, api.Held, api.Running, api.Cancelled, api.Never}) {
		for _, id := range slices.Concat(noIds, []int{1, 2, 3, 4, 8, 9}) {
			b.refused(t, call{name: "Finish", id: id, state: state, now: 5}, api.ErrArg)
		}
		b.refused(t, call{name: "Finish", id: 3, state: state, now: -1}, api.ErrArg)
	}
}

// A number of which only the lowest bits are those of a state is none.
func TestFinishWithNumbersThatEndAsStatesDo(t *testing.T) {
	b := ofEach(t)
	for bit := 3; bit < 64; bit++ {
		for _, state := range states {
			if got := (call{name: "Finish", id: 3, state: state + 1<<bit, now: 5}).on(b.table); !alike(got, answer{err: api.ErrArg}) {
				t.Errorf("Finish with %d = %v, want ErrArg", state+1<<bit, got)
			}
		}
	}
	wantAt(t, b.table, b.m)
}

// begun has a job that was begun so many times, and runs at last, on node 3.
func begun(t testing.TB, tries int) both {
	t.Helper()
	b := newBoth(t)
	b.submit(t, "", 3, 1)
	for try := range tries {
		if try > 0 {
			b.must(t, call{name: "Requeue", id: 1, now: 5})
			b.want(t, 1, api.Pending, 0, 0, try)
		}
		b.start(t, 1, 10+try, 3)
		b.want(t, 1, api.Running, 10+try, 0, try+1, 3)
	}
	return b
}

func TestRequeueOfJobsBegunManyTimes(t *testing.T) {
	for _, tries := range []int{1, 2, 9, 10} {
		b := begun(t, tries)
		if held := b.must(t, call{name: "Requeue", id: 1, now: 50}); held != bits.Of(3) {
			t.Errorf("Requeue answers %v, want 3", bits.List(held))
		}
		b.want(t, 1, api.Pending, 0, 0, tries)
	}
	b := begun(t, 11)
	if held := b.must(t, call{name: "Requeue", id: 1, now: 50}); held != bits.Of(3) {
		t.Errorf("Requeue answers %v, want 3", bits.List(held))
	}
	b.want(t, 1, api.Failed, 20, 50, 11)
	// It is so at each further one, at its time, and no more is held.
	for _, now := range []int{51, 0, api.MaxTime, 7} {
		if held := b.must(t, call{name: "Requeue", id: 1, now: now}); held != (api.Nodes{}) {
			t.Errorf("Requeue answers %v, want none", bits.List(held))
		}
		b.want(t, 1, api.Failed, 20, now, 11)
	}
	b.refused(t, call{name: "Start", id: 1, now: 60, nodes: bits.Of(3)}, api.ErrState)
}

func TestRequeueOfJobsThatEnded(t *testing.T) {
	for _, state := range []int{api.Completed, api.Failed, api.TimedOut} {
		for _, tries := range []int{1, 10, 11} {
			b := begun(t, tries)
			b.finish(t, 1, state, 40)
			if held := b.must(t, call{name: "Requeue", id: 1, now: 50}); held != (api.Nodes{}) {
				t.Errorf("Requeue answers %v, want none", bits.List(held))
			}
			if tries == 11 {
				b.want(t, 1, api.Failed, 20, 50, 11)
				continue
			}
			b.want(t, 1, api.Pending, 0, 0, tries)
			b.start(t, 1, 60, 4)
			b.want(t, 1, api.Running, 60, 0, tries+1, 4)
		}
	}
}

// Other calls do not count how often a job was begun.
func TestOtherCallsOfJobsBegunManyTimes(t *testing.T) {
	b := begun(t, 10)
	b.must(t, call{name: "Requeue", id: 1, now: 5})
	b.must(t, call{name: "Hold", id: 1})
	b.must(t, call{name: "Release", id: 1})
	b.start(t, 1, 50, 3)
	b.finish(t, 1, api.Completed, 51)
	b.want(t, 1, api.Completed, 50, 51, 11)
	b = begun(t, 11)
	b.must(t, call{name: "Cancel", id: 1, now: 52})
	b.want(t, 1, api.Cancelled, 20, 52, 11)
	b = begun(t, 10)
	b.must(t, call{name: "Requeue", id: 1, now: 5})
	b.must(t, call{name: "Bar", id: 1, now: 53})
	b.want(t, 1, api.Never, 0, 53, 10)
}

// Each call turns the job of its number alone, and the nodes that it answers are that job's alone.
func TestCallsOfOneAmongMany(t *testing.T) {
	b := newBoth(t)
	b.submit(t, "array=1-3 nodes=2", 1, 1, 2, 3)
	b.submit(t, "nodes=2", 1, 4)
	for id := 1; id <= 4; id++ {
		b.start(t, id, id, 60+id, 120+id)
	}
	for _, c := range []call{
		{name: "Cancel", id: 2, now: 9},
		{name: "Requeue", id: 4, now: 9},
		{name: "Finish", id: 1, state: api.Completed, now: 9},
		{name: "Requeue", id: 3, now: 9},
	} {
		if held := b.must(t, c); held != bits.Of(60+c.id, 120+c.id) {
			t.Errorf("%s(%d) answers %v", c.name, c.id, bits.List(held))
		}
	}
	if got := b.table.Busy(); got != (api.Nodes{}) {
		t.Errorf("Busy() = %v, want none", bits.List(got))
	}
}

// P13.4

func TestNoNodeIsHeldByTwoJobs(t *testing.T) {
	r := rand.New(rand.NewSource(43))
	began := 0
	for range 30 {
		table := job.New()
		table.Submit(submit(t, "array=0-19 nodes=5"), 1)
		table.Submit(submit(t, "array=0-19 nodes=17"), 1)
		table.Submit(submit(t, "array=0-19"), 1)
		for range 400 {
			id := 1 + r.Intn(60)
			j, _ := table.Get(id)
			nodes, _ := bits.First(bits.Span(r.Intn(240), 255), j.Cmd.Nodes)
			switch r.Intn(4) {
			case 0:
				table.Requeue(id, 5)
			case 1:
				table.Finish(id, api.Completed, 5)
			default:
				if table.Start(id, nodes, 5) == api.OK {
					began++
				}
			}
			wantApart(t, table)
			if t.Failed() {
				return
			}
		}
	}
	if began < 500 {
		t.Errorf("%d jobs began, want more", began)
	}
}

// wantApart holds that those that run hold as many nodes as they ask for, none of another one's, and others none.
func wantApart(t testing.TB, table *job.Table) {
	t.Helper()
	sum := 0
	for id := 1; id <= table.Len(); id++ {
		j, _ := table.Get(id)
		want := 0
		if j.State == api.Running {
			want = j.Cmd.Nodes
		}
		if bits.Count(j.Nodes) != want {
			t.Errorf("job %d holds %v, want %d", id, bits.List(j.Nodes), want)
		}
		sum += want
	}
	if got := bits.Count(table.Busy()); got != sum {
		t.Errorf("%d nodes are held, want %d: one by two jobs", got, sum)
	}
}

// P13.5

func TestWhatHasEndedStaysSo(t *testing.T) {
	for _, state := range []int{api.Completed, api.Failed, api.Cancelled, api.TimedOut, api.Never} {
		b := ofEach(t)
		for _, name := range calls {
			for _, now := range []int{0, 5, 50, api.MaxTime} {
				for _, to := range []int{api.Completed, api.Failed, api.TimedOut} {
					c := good(name, state, now)
					c.state = to
					again := name == "Requeue" && (state == api.Completed || state == api.Failed || state == api.TimedOut)
					if !again {
						b.refused(t, c, api.ErrState)
					}
				}
			}
		}
	}
}

// P13.6

// What is refused turns nothing, whichever call it is, and in whichever state.
func TestWhatIsRefusedTurnsNothing(t *testing.T) {
	b := ofEach(t)
	ids := slices.Concat(noIds, []int{1, 2, 3, 4, 5, 6, 7, 8, 9, 10})
	sets := []api.Nodes{{}, bits.Of(100), twoFree, bits.Of(100, 101, 102), bits.Of(4, 5), bits.Of(4, 100), bits.Span(0, 255)}
	refused := 0
	for _, name := range calls {
		for _, id := range ids {
			for _, now := range []int{-1, 0, 50, api.MaxTime, api.MaxTime + 1, math.MinInt} {
				for _, state := range []int{api.Running, api.Completed, -1} {
					for _, nodes := range sets {
						c := call{name: name, id: id, state: state, now: now, nodes: nodes}
						want := b.m.copied().do(c)
						if want.err == api.OK {
							continue
						}
						if got := c.on(b.table); !alike(got, want) {
							t.Errorf("%s(%d, %d, %v) at %d = %v, want %v", name, id, state, bits.List(nodes), now, got, want)
						}
						refused++
					}
				}
			}
			wantAt(t, b.table, b.m)
		}
	}
	if refused < 10000 {
		t.Errorf("%d calls are refused, want more", refused)
	}
}
