package job_test

import (
	"math/rand"
	"slices"
	"strconv"
	"testing"

	"marlinspike/api"
	"marlinspike/bits"
	"marlinspike/cmd"
	"marlinspike/dep"
	"marlinspike/job"
)

// P13.1: Get, In, Busy, Len

func TestGet(t *testing.T) {
	b := ofEach(t)
	for _, state := range states {
		if got, err := b.table.Get(state + 1); got.Id != state+1 || got.State != state || got.Submitted != 10+state || err != api.OK {
			t.Errorf("Get(%d) = %+v, %v", state+1, got, err)
		}
	}
	for _, id := range slices.Concat(noIds, []int{9, 10}) {
		if got, err := b.table.Get(id); !plainly(got, job.Job{}) || err != api.ErrNone {
			t.Errorf("Get(%d) = %+v, %v, want none, and ErrNone", id, got, err)
		}
	}
}

func TestIn(t *testing.T) {
	b := ofEach(t)
	// Numbers 9 to 12 are Pending, Pending, Held and Running.
	b.submit(t, "array=1-4", 5, 9, 10, 11, 12)
	b.must(t, call{name: "Hold", id: 11})
	b.start(t, 12, 6, 90)
	for _, test := range []struct {
		states, want []int
	}{
		{nil, nil},
		{[]int{}, nil},
		{[]int{api.Pending}, []int{1, 9, 10}},
		{[]int{api.Held}, []int{2, 11}},
		{[]int{api.Running}, []int{3, 12}},
		{[]int{api.Completed}, []int{4}},
		{[]int{api.Failed}, []int{5}},
		{[]int{api.Cancelled}, []int{6}},
		{[]int{api.TimedOut}, []int{7}},
		{[]int{api.Never}, []int{8}},
		{[]int{api.Running, api.Pending}, []int{1, 3, 9, 10, 12}},
		{[]int{api.Pending, api.Running}, []int{1, 3, 9, 10, 12}},
		{[]int{api.Never, api.Held, api.Completed}, []int{2, 4, 8, 11}},
		// The same one twice, and more.
		{[]int{api.Held, api.Held}, []int{2, 11}},
		{[]int{api.Held, api.Pending, api.Held, api.Held, api.Pending}, []int{1, 2, 9, 10, 11}},
		// Numbers that are no state.
		{noStates, nil},
		{[]int{-1}, nil},
		{[]int{8}, nil},
		{[]int{-1, api.TimedOut, 8}, []int{7}},
		// All.
		{states, upTo(13)[1:]},
		{slices.Concat(noStates, states, noStates, states), upTo(13)[1:]},
	} {
		if got := b.table.In(test.states...); !slices.Equal(got, test.want) {
			t.Errorf("In(%v) = %v, want %v", test.states, got, test.want)
		}
	}
}

// Each set of states, as the model says.
func TestInOfEachSetOfStates(t *testing.T) {
	b := ofEach(t)
	for set := range 1 << 8 {
		var some, want []int
		for _, state := range states {
			if set>>state&1 == 1 {
				some = append(some, state)
				want = append(want, state+1)
			}
		}
		slices.Reverse(some)
		if got := b.table.In(some...); !slices.Equal(got, want) {
			t.Errorf("In(%v) = %v, want %v", some, got, want)
		}
	}
}

// A number of which only the lowest bits are a state's is none.
func TestInOfNumbersThatEndAsStatesDo(t *testing.T) {
	b := ofEach(t)
	for bit := 3; bit < 64; bit++ {
		for _, state := range states {
			if got := b.table.In(state + 1<<bit); len(got) != 0 {
				t.Errorf("In(%d) = %v, want none", state+1<<bit, got)
			}
		}
	}
}

func TestBusyAndLen(t *testing.T) {
	b := newBoth(t)
	want := func(jobs int, nodes ...int) {
		t.Helper()
		if got := b.table.Len(); got != jobs {
			t.Errorf("Len() = %d, want %d", got, jobs)
		}
		if got := b.table.Busy(); got != bits.Of(nodes...) {
			t.Errorf("Busy() = %v, want %v", bits.List(got), nodes)
		}
	}
	want(0)
	b.submit(t, "nodes=2", 1, 1)
	want(1)
	b.submit(t, "array=1-3", 1, 2, 3, 4)
	want(4)
	b.start(t, 1, 2, 0, 255)
	want(4, 0, 255)
	b.start(t, 3, 2, 64)
	want(4, 0, 64, 255)
	b.start(t, 4, 2, 63)
	want(4, 0, 63, 64, 255)
	b.finish(t, 1, api.Completed, 3)
	want(4, 63, 64)
	b.must(t, call{name: "Cancel", id: 3, now: 3})
	want(4, 63)
	b.must(t, call{name: "Requeue", id: 4, now: 3})
	want(4)
	b.start(t, 4, 4, 1)
	want(4, 1)
	b.must(t, call{name: "Bar", id: 2, now: 3})
	want(4, 1)
	b.submit(t, "nodes=256", 5, 5)
	b.finish(t, 4, api.Failed, 6)
	b.start(t, 5, 6, upTo(256)...)
	want(5, upTo(256)...)
}

// P13.3: Ask

// wantAsk holds what Ask answers of a job.
func (b both) wantAsk(t testing.TB, id, want int) {
	t.Helper()
	if got, err := b.table.Ask(id); got != want || err != api.OK {
		t.Errorf("Ask(%d) = %v, %v, want %v", id, got, err, want)
	}
	if got, err := b.m.ask(id); got != want || err != api.OK {
		t.Fatalf("the model's ask(%d) = %v, %v, want %v", id, got, err, want)
	}
}

func TestAskWithoutADependency(t *testing.T) {
	b := ofEach(t)
	b.submit(t, "array=1-3", 5, 9, 10, 11)
	for id := 1; id <= 11; id++ {
		b.wantAsk(t, id, dep.Holds)
	}
}

func TestAskOfNumbersThatAreNoJobs(t *testing.T) {
	b := ofEach(t)
	for _, id := range slices.Concat(noIds, []int{9, 10, 999998, 1000001}) {
		if got, err := b.table.Ask(id); got != 0 || err != api.ErrNone {
			t.Errorf("Ask(%d) = %v, %v, want 0 and ErrNone", id, got, err)
		}
	}
}

// Each kind of item, for a job in each state.
func TestAskOfItemsOfOneJob(t *testing.T) {
	const w, h, n = dep.Waits, dep.Holds, dep.Never
	for _, test := range []struct {
		kind string
		// want is by the state of the job that is waited for.
		want [8]int
	}{
		{"after", [8]int{w, w, h, h, h, h, h, n}},
		{"afterok", [8]int{w, w, w, h, n, n, n, n}},
		{"afternotok", [8]int{w, w, w, n, h, n, h, n}},
		{"afterany", [8]int{w, w, w, h, h, h, h, n}},
	} {
		b := ofEach(t)
		for state, want := range test.want {
			id := 9 + state
			b.submit(t, "dep="+test.kind+":"+strconv.Itoa(state+1), 5, id)
			b.wantAsk(t, id, want)
		}
	}
}

// Jobs that are not there are as Never: they may come later.
func TestAskOfJobsThatAreNotThere(t *testing.T) {
	for _, kind := range []string{"after", "afterok", "afternotok", "afterany"} {
		b := newBoth(t)
		b.submit(t, "dep="+kind+":4", 5, 1)
		b.submit(t, "dep="+kind+":999999", 5, 2)
		b.submit(t, "dep="+kind+":1024", 5, 3)
		for id := 1; id <= 3; id++ {
			b.wantAsk(t, id, dep.Never)
		}
		b.submit(t, "", 6, 4)
		b.wantAsk(t, 1, dep.Waits)
		b.wantAsk(t, 2, dep.Never)
		b.wantAsk(t, 3, dep.Never)
	}
}

// What waits for itself waits, or never can.
func TestAskOfAJobThatNamesItself(t *testing.T) {
	b := newBoth(t)
	b.submit(t, "dep=after:1", 5, 1)
	b.submit(t, "dep=afterok:2?afterany:1", 5, 2)
	b.wantAsk(t, 1, dep.Waits)
	b.wantAsk(t, 2, dep.Waits)
	b.must(t, call{name: "Bar", id: 1, now: 6})
	b.wantAsk(t, 1, dep.Never)
	b.wantAsk(t, 2, dep.Waits)
	b.must(t, call{name: "Cancel", id: 2, now: 6})
	b.wantAsk(t, 2, dep.Never)
}

func TestAskOfAllAndOfAny(t *testing.T) {
	const w, h, n = dep.Waits, dep.Holds, dep.Never
	// Of ofEach, job 1 is Pending, 3 Running, 4 Completed, 5 Failed and 8 Never.
	for _, test := range []struct {
		dep  string
		want int
	}{
		{"afterok:4,afternotok:5", h},
		{"afterok:4:4", h},
		{"afterok:4:1", w},
		{"afterok:4:5", n},
		{"afterok:1:5", n},
		{"afterok:4,after:1", w},
		{"afterok:4,after:1,after:8", n},
		{"after:3:4:5", h},
		{"after:3:4:5:1", w},
		{"after:3:4:5:1:8", n},
		{"after:3:4:5:999999", n},
		{"afterok:4?afterok:5", h},
		{"afterok:5?afterok:4", h},
		{"afterok:5?afterok:1", w},
		{"afterok:5?after:8", n},
		{"afterok:5?after:9999", n},
		{"afterok:1?after:3", h},
		{"afterok:1:8?afternotok:4?afterany:3", w},
		{"afterok:1:8?afternotok:4?afterany:6", h},
		{"singleton,afterok:4", h},
		{"singleton,afterok:5", n},
		{"singleton?afterok:5", h},
		{"afterok:1,singleton", w},
	} {
		b := ofEach(t)
		b.submit(t, "name=other dep="+test.dep, 5, 9)
		b.wantAsk(t, 9, test.want)
		// What the one that asks is at counts nothing.
		b.must(t, call{name: "Hold", id: 9})
		b.wantAsk(t, 9, test.want)
		b.must(t, call{name: "Cancel", id: 9, now: 6})
		b.wantAsk(t, 9, test.want)
	}
}

// The states are those of now.
func TestAskFollowsTheStates(t *testing.T) {
	b := newBoth(t)
	b.submit(t, "", 5, 1)
	for i, kind := range []string{"after", "afterok", "afternotok", "afterany"} {
		b.submit(t, "dep="+kind+":1", 5, 2+i)
	}
	want := func(all ...int) {
		t.Helper()
		for i, at := range all {
			b.wantAsk(t, 2+i, at)
		}
	}
	const w, h, n = dep.Waits, dep.Holds, dep.Never
	want(w, w, w, w)
	b.must(t, call{name: "Hold", id: 1})
	want(w, w, w, w)
	b.must(t, call{name: "Release", id: 1})
	b.start(t, 1, 6, 3)
	want(h, w, w, w)
	b.finish(t, 1, api.Failed, 7)
	want(h, n, h, h)
	b.must(t, call{name: "Requeue", id: 1, now: 8})
	want(w, w, w, w)
	b.start(t, 1, 9, 3)
	b.finish(t, 1, api.Completed, 9)
	want(h, h, n, h)
	b.must(t, call{name: "Requeue", id: 1, now: 8})
	b.must(t, call{name: "Bar", id: 1, now: 8})
	want(n, n, n, n)
}

// A singleton, behind a job and ahead of one in each state, of the same user and name.
func TestAskOfASingleton(t *testing.T) {
	over := []int{api.Completed, api.Failed, api.Cancelled, api.TimedOut, api.Never}
	for _, state := range states {
		b := newBoth(t)
		b.submit(t, "name=x", 5, 1)
		b.submit(t, "name=x dep=singleton", 5, 2)
		b.submit(t, "name=x", 5, 3)
		for _, id := range []int{1, 3} {
			bring(t, b, id, state)
		}
		want := dep.Waits
		if slices.Contains(over, state) {
			want = dep.Holds
		}
		b.wantAsk(t, 2, want)
		// With none ahead that has not ended, those behind count nothing.
		if want == dep.Waits {
			b.must(t, call{name: "Cancel", id: 1, now: 9})
			b.wantAsk(t, 2, dep.Holds)
		}
	}
}

// bring brings a Pending job of one node to a state, on the node of its number.
func bring(t testing.TB, b both, id, state int) {
	t.Helper()
	switch state {
	case api.Held:
		b.must(t, call{name: "Hold", id: id})
	case api.Running:
		b.start(t, id, 6, id)
	case api.Completed, api.Failed, api.TimedOut:
		b.start(t, id, 6, id)
		b.finish(t, id, state, 7)
	case api.Cancelled:
		b.must(t, call{name: "Cancel", id: id, now: 7})
	case api.Never:
		b.must(t, call{name: "Bar", id: id, now: 7})
	}
}

func TestAskOfASingletonOfOtherJobs(t *testing.T) {
	for _, test := range []struct {
		ahead, own string
		want       int
	}{
		{"user=ann name=x", "user=ann name=x", dep.Waits},
		{"user=ann name=x", "user=bob name=x", dep.Holds},
		{"user=ann name=x", "user=ann name=y", dep.Holds},
		{"user=ann name=x", "user=x name=ann", dep.Holds},
		{"user=ann name=x", "user=ann", dep.Holds},
		{"user=ann", "user=ann name=x", dep.Holds},
		// Without a name both have the same one.
		{"user=ann", "user=ann", dep.Waits},
		{"user=ann", "user=bob", dep.Holds},
		{"user=ann name=x", "user=ann name=xx", dep.Holds},
		// All else counts nothing.
		{"user=ann name=x nodes=9 time=5 run=2 qos=high req=cpu=1", "user=ann name=x", dep.Waits},
		{"user=ann name=x dep=singleton", "user=ann name=x", dep.Waits},
		{"user=ann name=x array=7", "user=ann name=x", dep.Waits},
	} {
		b := newBoth(t)
		for i, text := range []string{test.ahead, test.own + " dep=singleton", test.ahead} {
			c, err := cmd.Parse("submit part=p" + strconv.Itoa(i) + " " + text)
			if err != api.OK {
				t.Fatalf("%q: %v", text, err)
			}
			b.must(t, call{name: "Submit", cmd: c, now: 5})
		}
		b.wantAsk(t, 2, test.want)
		b.must(t, call{name: "Cancel", id: 1, now: 6})
		b.wantAsk(t, 2, dep.Holds)
	}
}

// Each of them waits for all of those ahead, one of an array, too.
func TestAskOfSeveralSingletons(t *testing.T) {
	b := newBoth(t)
	b.submit(t, "name=x dep=singleton array=1-4", 5, 1, 2, 3, 4)
	b.submit(t, "name=x dep=singleton", 5, 5)
	want := func(first int) {
		t.Helper()
		for id := 1; id <= 5; id++ {
			at := dep.Waits
			if id <= first {
				at = dep.Holds
			}
			b.wantAsk(t, id, at)
		}
	}
	want(1)
	b.start(t, 1, 6, 3)
	want(1)
	b.finish(t, 1, api.Failed, 7)
	want(2)
	b.must(t, call{name: "Bar", id: 3, now: 7})
	want(2)
	b.must(t, call{name: "Cancel", id: 2, now: 8})
	want(4)
	b.must(t, call{name: "Requeue", id: 1, now: 9})
	want(1)
}

// A singleton beside items that name jobs.
func TestAskOfASingletonAmongOthers(t *testing.T) {
	b := newBoth(t)
	b.submit(t, "name=x", 5, 1)
	b.submit(t, "", 5, 2)
	b.submit(t, "name=x dep=singleton,afterok:2", 5, 3)
	b.submit(t, "name=x dep=singleton?afterok:2", 5, 4)
	b.wantAsk(t, 3, dep.Waits)
	b.wantAsk(t, 4, dep.Waits)
	b.start(t, 2, 6, 5)
	b.finish(t, 2, api.Completed, 7)
	b.wantAsk(t, 3, dep.Waits)
	b.wantAsk(t, 4, dep.Holds)
	b.must(t, call{name: "Cancel", id: 1, now: 8})
	b.wantAsk(t, 3, dep.Holds)
	b.must(t, call{name: "Requeue", id: 2, now: 9})
	b.must(t, call{name: "Bar", id: 2, now: 9})
	b.wantAsk(t, 3, dep.Never)
	// A singleton is never one that can not hold.
	b.wantAsk(t, 4, dep.Waits)
}

// An array with a limit, of which fewer, as many and more run.
func TestAskOfAnArrayWithALimit(t *testing.T) {
	for _, limit := range []int{1, 2, 3, 5, 6, 999999} {
		b := newBoth(t)
		b.submit(t, "array=0-4%"+strconv.Itoa(limit), 5, 1, 2, 3, 4, 5)
		want := func(running int) {
			t.Helper()
			at := dep.Holds
			if running >= limit {
				at = dep.Waits
			}
			// Of those that run, too.
			for id := 1; id <= 5; id++ {
				b.wantAsk(t, id, at)
			}
		}
		want(0)
		for i, id := range []int{3, 1, 5, 2, 4} {
			b.start(t, id, 6, id)
			want(i + 1)
		}
		b.finish(t, 1, api.Completed, 7)
		want(4)
		b.must(t, call{name: "Requeue", id: 3, now: 7})
		want(3)
		b.must(t, call{name: "Cancel", id: 5, now: 7})
		want(2)
		b.must(t, call{name: "Hold", id: 3})
		want(2)
	}
}

func TestAskOfAnArrayWithoutALimit(t *testing.T) {
	b := newBoth(t)
	b.submit(t, "array=0-4", 5, 1, 2, 3, 4, 5)
	for id := 1; id <= 5; id++ {
		b.start(t, id, 6, id)
		for other := 1; other <= 5; other++ {
			b.wantAsk(t, other, dep.Holds)
		}
	}
}

// The jobs of other arrays, even alike in all, and of none, count nothing.
func TestAskOfArraysSideBySide(t *testing.T) {
	b := newBoth(t)
	b.submit(t, "array=1-2%1", 5, 1, 2)
	b.submit(t, "array=1-2%1", 5, 3, 4)
	b.submit(t, "", 5, 5)
	b.submit(t, "array=1-2%1", 5, 6, 7)
	want := func(full ...int) {
		t.Helper()
		for id := 1; id <= 7; id++ {
			at := dep.Holds
			if slices.Contains(full, id) {
				at = dep.Waits
			}
			b.wantAsk(t, id, at)
		}
	}
	want()
	b.start(t, 5, 6, 5)
	want()
	b.start(t, 3, 6, 3)
	want(3, 4)
	b.start(t, 7, 6, 7)
	want(3, 4, 6, 7)
	b.must(t, call{name: "Requeue", id: 3, now: 7})
	want(6, 7)
	b.start(t, 2, 6, 2)
	want(1, 2, 6, 7)
}

// It waits if it would hold alone: what never can never does, and what waits does.
func TestAskOfAFullArrayWithADependency(t *testing.T) {
	b := newBoth(t)
	b.submit(t, "", 5, 1)
	b.submit(t, "array=1-3%1 dep=afterok:1", 5, 2, 3, 4)
	b.wantAsk(t, 3, dep.Waits)
	b.start(t, 2, 6, 2)
	b.wantAsk(t, 3, dep.Waits)
	b.start(t, 1, 6, 1)
	b.finish(t, 1, api.Completed, 7)
	b.wantAsk(t, 3, dep.Waits)
	b.finish(t, 2, api.Failed, 7)
	b.wantAsk(t, 3, dep.Holds)
	b.start(t, 4, 8, 4)
	b.wantAsk(t, 3, dep.Waits)
	b.must(t, call{name: "Requeue", id: 1, now: 8})
	b.must(t, call{name: "Bar", id: 1, now: 8})
	b.wantAsk(t, 3, dep.Never)
	b.wantAsk(t, 4, dep.Never)
}

// Of a full table, too.
func TestAskOfAFullTable(t *testing.T) {
	table := ofMany(t, 1020)
	ids, _ := table.Submit(submit(t, "array=1-3%1 dep=singleton"), 5)
	last, _ := table.Submit(submit(t, "name=x dep=after:1024,singleton"), 5)
	if !slices.Equal(ids, []int{1021, 1022, 1023}) || !slices.Equal(last, []int{1024}) {
		t.Fatalf("Submit = %v, and %v", ids, last)
	}
	ask := func(id, want int) {
		t.Helper()
		if got, err := table.Ask(id); got != want || err != api.OK {
			t.Errorf("Ask(%d) = %v, %v, want %v", id, got, err, want)
		}
	}
	ask(1021, dep.Waits)
	for id := 1; id <= 1020; id++ {
		ask(1021, dep.Waits)
		table.Cancel(id, 6)
	}
	ask(1021, dep.Holds)
	ask(1022, dep.Waits)
	ask(1024, dep.Waits)
	table.Start(1024, bits.Of(3), 7)
	ask(1024, dep.Holds)
}

// What is asked turns nothing.
func TestAskingTurnsNothing(t *testing.T) {
	b := ofEach(t)
	b.submit(t, "array=1-3%1 dep=singleton,after:3", 5, 9, 10, 11)
	for range 3 {
		b.table.In(slices.Concat(states, noStates)...)
		b.table.Busy()
		b.table.Len()
		for _, id := range slices.Concat(noIds, []int{0, 1, 9, 11, 12}) {
			b.table.Get(id)
			b.table.Ask(id)
		}
		wantAt(t, b.table, b.m)
	}
}

// R4

func TestListsOfStatesAreNotWrittenTo(t *testing.T) {
	b := ofEach(t)
	long := []int{api.Never, 99, api.Pending, -1, api.Held, api.Pending, 7, 7}
	list := long[:6]
	kept := slices.Clone(long)
	want := []int{1, 2, 8}
	if got := b.table.In(list...); !slices.Equal(got, want) || !slices.Equal(long, kept) {
		t.Errorf("In(%v...) = %v, and the list is %v behind it", kept, got, long)
	}
	// Written over behind the call, it turns nothing.
	for i := range long {
		long[i] = api.Failed
	}
	wantAt(t, b.table, b.m)
	if got := b.table.In(kept[:6]...); !slices.Equal(got, want) {
		t.Errorf("In(%v...) = %v, want %v", kept, got, want)
	}
}

func TestAnswersAreTheCallers(t *testing.T) {
	b := ofEach(t)
	b.submit(t, "array=0-6:2,9%2 dep=afterok:3:4,singleton,after:1", 5, 9, 10, 11, 12, 13)
	b.submit(t, "array=1-2 dep=afterany:9?after:2", 5, 14, 15)
	for _, id := range []int{1, 9, 11, 13, 14, 15} {
		first, _ := b.table.Get(id)
		second, _ := b.table.Get(id)
		want := plain(second)
		spoil(&first.Cmd)
		first.Id, first.State, first.Nodes = 99, api.Never, bits.Span(0, 255)
		if !plainly(second, want) {
			t.Errorf("Get(%d), written over, turns another answer to %+v", id, second)
		}
		wantAt(t, b.table, b.m)
	}
	ids := b.table.In(states...)
	other := b.table.In(states...)
	for i := range ids[:cap(ids)] {
		ids[:cap(ids)][i] = -9
	}
	if !slices.Equal(other, upTo(16)[1:]) {
		t.Errorf("In, written over, turns another answer to %v", other)
	}
	wantAt(t, b.table, b.m)
}

// Dependencies, arrays and states at random, as the model says.
func TestAskAsTheModel(t *testing.T) {
	r := rand.New(rand.NewSource(44))
	kinds := []string{"after", "afterok", "afternotok", "afterany"}
	asked := map[int]int{}
	for range 400 {
		b := newBoth(t)
		for range 6 {
			options := []string{"", "name=x", "name=y"}[r.Intn(3)]
			if r.Intn(3) == 0 {
				options += " array=1-3%" + strconv.Itoa(1+r.Intn(3))
			}
			between := []string{",", "?"}[r.Intn(2)]
			sign := " dep="
			for range r.Intn(4) {
				options += sign
				sign = between
				if r.Intn(3) == 0 {
					options += "singleton"
					continue
				}
				options += kinds[r.Intn(4)]
				for range 1 + r.Intn(3) {
					options += ":" + strconv.Itoa(1+r.Intn(14))
				}
			}
			if got := (call{name: "Submit", cmd: submit(t, options), now: 5}); !alike(got.on(b.table), b.m.do(got)) {
				t.Fatalf("Submit of %q is not as the model's", options)
			}
		}
		for id := range b.m.jobs {
			bring(t, b, id+1, r.Intn(8))
		}
		for id := range b.m.jobs {
			want, _ := b.m.ask(id + 1)
			b.wantAsk(t, id+1, want)
			asked[want]++
		}
		if t.Failed() {
			return
		}
	}
	for _, at := range []int{dep.Waits, dep.Holds, dep.Never} {
		if asked[at] < 100 {
			t.Errorf("%d are at %d, want more: %v", asked[at], at, asked)
		}
	}
}
