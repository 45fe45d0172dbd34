package job_test

import (
	"math"
	"math/rand"
	"reflect"
	"slices"
	"strings"
	"testing"

	"marlinspike/api"
	"marlinspike/bits"
	"marlinspike/cmd"
	"marlinspike/dep"
	"marlinspike/job"
)

// chapter is the chapter's table of calls, as it stands there.
const chapter = `
| Hold | Pending | Held |
| Release | Held | Pending |
| Cancel | Pending, Held, Running | Cancelled |
| Start | Pending | Running |
| Finish | Running | Completed, Failed, TimedOut |
| Requeue | Running, Completed, Failed, TimedOut | Pending, or, if it was begun more than 10 times, Failed |
| Bar | Pending, Held | Never |
`

// stateNames are the states' names, by their numbers.
var stateNames = []string{"Pending", "Held", "Running", "Completed", "Failed", "Cancelled", "TimedOut", "Never"}

// states are those that there are, and noStates some that there are not.
var (
	states   = []int{api.Pending, api.Held, api.Running, api.Completed, api.Failed, api.Cancelled, api.TimedOut, api.Never}
	noStates = []int{-1, 8, 9, -2, -8, 16, 63, 64, 255, 256, -256, 1 << 16, 1 << 32, -1 << 32, 1<<32 + 2, math.MinInt32, math.MaxInt32, math.MinInt, math.MinInt + 1, math.MaxInt}
)

// times are some that may be, and noTimes some that may not.
var (
	times   = []int{0, 1, 5, 1 << 32, api.MaxTime - 1, api.MaxTime}
	noTimes = []int{-1, -2, -5, -1 << 32, -api.MaxTime, math.MinInt, math.MinInt + 1, api.MaxTime + 1, api.MaxTime + 2, 2 * api.MaxTime, 1 << 62, math.MaxInt}
)

// noIds are numbers that are no job's, whatever the table.
var noIds = []int{0, -1, -2, -1024, 1025, 1026, 2048, 999999, 1000000, 1 << 32, -1 << 32, 1<<32 + 1, math.MinInt32, math.MaxInt32, math.MinInt, math.MinInt + 1, math.MaxInt - 1, math.MaxInt}

// calls are those of the chapter's table.
var calls = []string{"Hold", "Release", "Cancel", "Start", "Finish", "Requeue", "Bar"}

// from has the states in which the chapter's table has a call, by the call.
var from = readTable()

// readTable reads the chapter's table.
func readTable() map[string][]int {
	read := map[string][]int{}
	for _, line := range strings.Split(strings.TrimSpace(chapter), "\n") {
		cells := strings.Split(line, "|")
		name := strings.TrimSpace(cells[1])
		for _, state := range strings.Split(cells[2], ",") {
			read[name] = append(read[name], slices.Index(stateNames, strings.TrimSpace(state)))
		}
	}
	return read
}

// submit is a submit with options.
func submit(t testing.TB, options string) cmd.Command {
	t.Helper()
	c, err := cmd.Parse("submit user=ann part=p " + options)
	if err != api.OK {
		t.Fatalf("a submit with %q: %v", options, err)
	}
	return c
}

// cloned is another command that is alike, and shares nothing with it.
func cloned(c cmd.Command) cmd.Command {
	c.Dep.Items = slices.Clone(c.Dep.Items)
	for i, item := range c.Dep.Items {
		c.Dep.Items[i].Jobs = slices.Clone(item.Jobs)
	}
	c.Array.Indexes = slices.Clone(c.Array.Indexes)
	return c
}

// call is one that may turn a table.
type call struct {
	name           string
	cmd            cmd.Command
	id, state, now int
	nodes          api.Nodes
}

// answer is what such a one answers.
type answer struct {
	ids   []int
	nodes api.Nodes
	err   api.Errno
}

// alike tells whether two answers are the same.
func alike(a, b answer) bool {
	return slices.Equal(a.ids, b.ids) && a.nodes == b.nodes && a.err == b.err
}

// on does the call to a table.
func (c call) on(table *job.Table) answer {
	var a answer
	switch c.name {
	case "Submit":
		a.ids, a.err = table.Submit(c.cmd, c.now)
	case "Hold":
		a.err = table.Hold(c.id)
	case "Release":
		a.err = table.Release(c.id)
	case "Cancel":
		a.nodes, a.err = table.Cancel(c.id, c.now)
	case "Start":
		a.err = table.Start(c.id, c.nodes, c.now)
	case "Finish":
		a.nodes, a.err = table.Finish(c.id, c.state, c.now)
	case "Requeue":
		a.nodes, a.err = table.Requeue(c.id, c.now)
	case "Bar":
		a.err = table.Bar(c.id, c.now)
	default:
		panic(c.name)
	}
	return a
}

// model is what the chapter's words say of a table.
type model struct {
	jobs []job.Job
	// came has of each job the submit with which it came.
	came    []int
	submits int
}

// copied is another model that is at the same.
func (m *model) copied() *model {
	return &model{jobs: slices.Clone(m.jobs), came: slices.Clone(m.came), submits: m.submits}
}

func (m *model) do(c call) answer {
	timed := c.name != "Hold" && c.name != "Release"
	switch {
	case timed && (c.now < 0 || c.now > 1<<40):
		return answer{err: api.ErrArg}
	case c.name == "Submit":
		return m.submit(c.cmd, c.now)
	case c.name == "Finish" && c.state != api.Completed && c.state != api.Failed && c.state != api.TimedOut:
		return answer{err: api.ErrArg}
	case c.id <= 0 || c.id > len(m.jobs):
		return answer{err: api.ErrNone}
	}
	j := &m.jobs[c.id-1]
	switch {
	case c.name == "Start" && (bits.Count(c.nodes) != j.Cmd.Nodes || bits.And(c.nodes, m.busy()) != api.Nodes{}):
		return answer{err: api.ErrArg}
	case !slices.Contains(from[c.name], j.State):
		return answer{err: api.ErrState}
	}
	held := j.Nodes
	switch c.name {
	case "Hold":
		j.State = api.Held
	case "Release":
		j.State = api.Pending
	case "Cancel":
		j.State, j.Ended, j.Nodes = api.Cancelled, c.now, api.Nodes{}
	case "Start":
		j.State, j.Began, j.Ended, j.Tries, j.Nodes = api.Running, c.now, 0, j.Tries+1, c.nodes
		return answer{}
	case "Finish":
		j.State, j.Ended, j.Nodes = c.state, c.now, api.Nodes{}
	case "Requeue":
		j.Nodes = api.Nodes{}
		if j.Tries > 10 {
			j.State, j.Ended = api.Failed, c.now
		} else {
			j.State, j.Began, j.Ended = api.Pending, 0, 0
		}
	case "Bar":
		j.State, j.Ended = api.Never, c.now
		return answer{}
	}
	return answer{nodes: held}
}

func (m *model) submit(c cmd.Command, now int) answer {
	if c.Kind != cmd.Submit || !cmd.Right(c) {
		return answer{err: api.ErrArg}
	}
	indexes := slices.Clone(c.Array.Indexes)
	if len(indexes) == 0 {
		indexes = []int{-1}
	}
	if len(m.jobs)+len(indexes) > 1024 {
		return answer{err: api.ErrMany}
	}
	var a answer
	for _, index := range indexes {
		m.jobs = append(m.jobs, job.Job{Id: len(m.jobs) + 1, Index: index, Cmd: cloned(c), Submitted: now})
		m.came = append(m.came, m.submits)
		a.ids = append(a.ids, len(m.jobs))
	}
	m.submits++
	return a
}

func (m *model) in(states ...int) []int {
	var ids []int
	for _, j := range m.jobs {
		for _, state := range states {
			if j.State == state && !slices.Contains(ids, j.Id) {
				ids = append(ids, j.Id)
			}
		}
	}
	return ids
}

func (m *model) busy() api.Nodes {
	var busy api.Nodes
	for _, j := range m.jobs {
		for word, some := range j.Nodes {
			busy[word] |= some
		}
	}
	return busy
}

// ask asks with the states of all jobs, and counts all that a singleton waits for.
func (m *model) ask(id int) (int, api.Errno) {
	if id < 1 || id > len(m.jobs) {
		return 0, api.ErrNone
	}
	j := m.jobs[id-1]
	state := map[int]int{}
	ahead, running := 0, 0
	for i, o := range m.jobs {
		state[o.Id] = o.State
		waitedFor := o.State == api.Pending || o.State == api.Held || o.State == api.Running
		if o.Id < id && o.Cmd.User == j.Cmd.User && o.Cmd.Name == j.Cmd.Name && waitedFor {
			ahead++
		}
		if m.came[i] == m.came[id-1] && o.State == api.Running {
			running++
		}
	}
	at := dep.Ask(j.Cmd.Dep, state, ahead == 0)
	if at == dep.Holds && j.Cmd.Array.Limit > 0 && running >= j.Cmd.Array.Limit {
		at = dep.Waits
	}
	return at, api.OK
}

// wantAt holds all that a table tells against a model.
func wantAt(t testing.TB, table *job.Table, m *model) {
	t.Helper()
	if got := table.Len(); got != len(m.jobs) {
		t.Errorf("Len() = %d, want %d", got, len(m.jobs))
	}
	for id := -1; id <= len(m.jobs)+2; id++ {
		wantJob(t, table, m, id)
	}
	for _, state := range states {
		if got, want := table.In(state), m.in(state); !slices.Equal(got, want) {
			t.Errorf("In(%d) = %v, want %v", state, got, want)
		}
	}
	if got, want := table.Busy(), m.busy(); got != want {
		t.Errorf("Busy() = %v, want %v", bits.List(got), bits.List(want))
	}
}

// wantJob holds what a table tells of a number against a model.
func wantJob(t testing.TB, table *job.Table, m *model, id int) {
	t.Helper()
	want, wantErr := job.Job{}, api.ErrNone
	if 1 <= id && id <= len(m.jobs) {
		want, wantErr = m.jobs[id-1], api.OK
	}
	if got, err := table.Get(id); !plainly(got, want) || err != wantErr {
		t.Errorf("Get(%d) = %+v, %v, want %+v, %v", id, got, err, want, wantErr)
	}
	wantAsked, wantErr := m.ask(id)
	if got, err := table.Ask(id); got != wantAsked || err != wantErr {
		t.Errorf("Ask(%d) = %v, %v, want %v, %v", id, got, err, wantAsked, wantErr)
	}
}

// plainly tells whether two jobs are the same, without the help of Same.
func plainly(a, b job.Job) bool { return reflect.DeepEqual(plain(a), plain(b)) }

// plain is a job whose empty lists are nil.
func plain(j job.Job) job.Job {
	j.Cmd = cloned(j.Cmd)
	if len(j.Cmd.Array.Indexes) == 0 {
		j.Cmd.Array.Indexes = nil
	}
	if len(j.Cmd.Dep.Items) == 0 {
		j.Cmd.Dep.Items = nil
	}
	for i, item := range j.Cmd.Dep.Items {
		if len(item.Jobs) == 0 {
			j.Cmd.Dep.Items[i].Jobs = nil
		}
	}
	return j
}

// both are a table and its model, to which all is done at once.
type both struct {
	table *job.Table
	m     *model
}

// newBoth are empty ones.
func newBoth(t testing.TB) both {
	t.Helper()
	table := job.New()
	if table == nil {
		t.Fatal("New() is nil")
	}
	return both{table, &model{}}
}

// do holds what a call answers against the model, and all that the table tells behind it.
func (b both) do(t testing.TB, c call) answer {
	t.Helper()
	got, want := c.on(b.table), b.m.do(c)
	if !alike(got, want) {
		t.Errorf("%s(%d, %d, %v) at %d = %v, want %v", c.name, c.id, c.state, bits.List(c.nodes), c.now, got, want)
	}
	wantAt(t, b.table, b.m)
	return got
}

// submit submits jobs at a time, and holds the numbers that are answered against these.
func (b both) submit(t testing.TB, options string, now int, want ...int) {
	t.Helper()
	if got := b.do(t, call{name: "Submit", cmd: submit(t, options), now: now}); !alike(got, answer{ids: want}) {
		t.Errorf("Submit of %q = %v, want %v", options, got, want)
	}
}

// must does a call that is not refused: the nodes that it answers.
func (b both) must(t testing.TB, c call) api.Nodes {
	t.Helper()
	got := b.do(t, c)
	if got.err != api.OK {
		t.Fatalf("%s(%d) at %d = %v", c.name, c.id, c.now, got)
	}
	return got.nodes
}

// refused does a call that is refused with an error, and turns nothing.
func (b both) refused(t testing.TB, c call, want api.Errno) {
	t.Helper()
	m := b.m.copied()
	if got := b.do(t, c); !alike(got, answer{err: want}) {
		t.Errorf("%s(%d, %d, %v) at %d = %v, want %v", c.name, c.id, c.state, bits.List(c.nodes), c.now, got, want)
	}
	wantAt(t, b.table, m)
}

// start starts a job on nodes.
func (b both) start(t testing.TB, id, now int, nodes ...int) {
	t.Helper()
	b.must(t, call{name: "Start", id: id, now: now, nodes: bits.Of(nodes...)})
}

// finish ends a job.
func (b both) finish(t testing.TB, id, state, now int) {
	t.Helper()
	b.must(t, call{name: "Finish", id: id, state: state, now: now})
}

// ofEach has a job of two nodes in each state, which was submitted at 10 and its state's number; its own number is one more than that of its state. Those that began did so at 20 and the state's number, and those that ended at 30 and it.
func ofEach(t testing.TB) both {
	t.Helper()
	b := newBoth(t)
	for _, state := range states {
		id := state + 1
		b.submit(t, "nodes=2 time=60 name=j", 10+state, id)
		began := call{name: "Start", id: id, now: 20 + state, nodes: bits.Of(2*state, 2*state+1)}
		switch state {
		case api.Held:
			b.must(t, call{name: "Hold", id: id})
		case api.Running:
			b.must(t, began)
		case api.Completed, api.Failed, api.TimedOut:
			b.must(t, began)
			b.finish(t, id, state, 30+state)
		case api.Cancelled:
			b.must(t, began)
			b.must(t, call{name: "Cancel", id: id, now: 30 + state})
		case api.Never:
			b.must(t, call{name: "Bar", id: id, now: 30 + state})
		}
	}
	for i, j := range b.m.jobs {
		if j.State != i {
			t.Fatalf("job %d is in state %d, want %d", j.Id, j.State, i)
		}
	}
	return b
}

// step does something, at random.
func (b both) step(t testing.TB, r *rand.Rand) {
	t.Helper()
	options := []string{
		"", "nodes=2", "nodes=3 name=x", "nodes=100", "nodes=256", "array=0-3", "array=1-4%2 nodes=2", "array=5%1",
		"dep=singleton", "dep=singleton name=x array=1-2", "dep=after:1", "dep=afterok:2:3", "dep=afternotok:1?afterany:2", "dep=afterany:3:1,singleton array=2-5%3",
	}
	c := call{id: 1 + r.Intn(len(b.m.jobs)+1), state: api.Completed + r.Intn(4), now: r.Intn(100)}
	if r.Intn(20) == 0 {
		c.now = slices.Concat(times, noTimes)[r.Intn(len(times)+len(noTimes))]
	}
	if r.Intn(20) == 0 {
		c.id = noIds[r.Intn(len(noIds))]
	}
	if r.Intn(20) == 0 {
		c.state = slices.Concat(states, noStates)[r.Intn(len(states)+len(noStates))]
	}
	c.name = slices.Concat(calls, []string{"Start", "Start", "Finish"})[r.Intn(len(calls)+3)]
	if len(b.m.jobs) < 3 || len(b.m.jobs) < 30 && r.Intn(10) == 0 {
		c.name, c.cmd = "Submit", submit(t, options[r.Intn(len(options))])
	}
	if j, err := b.table.Get(c.id); c.name == "Start" && err == api.OK {
		free := bits.Not(bits.Span(0, 255), b.m.busy())
		c.nodes, _ = bits.First(free, j.Cmd.Nodes+max(0, r.Intn(12)-10))
		if r.Intn(12) == 0 {
			c.nodes, _ = bits.First(bits.Span(r.Intn(256), 255), j.Cmd.Nodes)
		}
	}
	b.do(t, c)
}

// All calls, in any order, as the model says.
func TestLongRunsAsTheModel(t *testing.T) {
	r := rand.New(rand.NewSource(41))
	done := map[string]int{}
	for range 60 {
		b := newBoth(t)
		for range 400 {
			b.step(t, r)
			if t.Failed() {
				return
			}
		}
		for _, j := range b.m.jobs {
			done[stateNames[j.State]]++
		}
	}
	for _, name := range stateNames {
		if done[name] == 0 {
			t.Errorf("no job came to be %s: %v", name, done)
		}
	}
}

func TestTheSameCallsHaveTheSameAnswers(t *testing.T) {
	run := func() []job.Job {
		r := rand.New(rand.NewSource(42))
		b := newBoth(t)
		for range 300 {
			b.step(t, r)
		}
		var all []job.Job
		for id := range b.table.Len() {
			j, _ := b.table.Get(id + 1)
			all = append(all, plain(j))
		}
		return all
	}
	if first := run(); !reflect.DeepEqual(first, run()) {
		t.Errorf("the same calls have other answers")
	}
}

// Two tables have nothing in common.
func TestTablesDoNotTurnEachOther(t *testing.T) {
	a, b := newBoth(t), newBoth(t)
	a.submit(t, "array=1-3", 5, 1, 2, 3)
	wantAt(t, b.table, b.m)
	b.submit(t, "nodes=2", 6, 1)
	a.start(t, 1, 7, 3)
	b.start(t, 1, 8, 3, 4)
	a.finish(t, 1, api.Failed, 9)
	wantAt(t, a.table, a.m)
	wantAt(t, b.table, b.m)
}

// P13.3: a nil table, and one that New did not give.

func TestTablesThatNewDidNotGive(t *testing.T) {
	zero := job.Table{}
	for _, table := range []*job.Table{nil, {}, new(job.Table), &zero} {
		for range 2 {
			for _, id := range slices.Concat(noIds, []int{1, 2}) {
				for _, now := range slices.Concat(times, noTimes) {
					for _, name := range append([]string{"Submit"}, calls...) {
						for _, c := range []call{
							{name: name, id: id, now: now, state: api.Failed, nodes: bits.Of(3), cmd: submit(t, "")},
							{name: name, id: id, now: now, state: 9, cmd: cmd.Command{Kind: cmd.Hold}},
						} {
							if got := c.on(table); !alike(got, answer{err: api.ErrNil}) {
								t.Fatalf("%s(%d) at %d = %v, want ErrNil", name, id, now, got)
							}
						}
					}
				}
				if got, err := table.Get(id); !plainly(got, job.Job{}) || err != api.ErrNil {
					t.Errorf("Get(%d) = %+v, %v, want none, and ErrNil", id, got, err)
				}
				if got, err := table.Ask(id); got != 0 || err != api.ErrNil {
					t.Errorf("Ask(%d) = %v, %v, want 0 and ErrNil", id, got, err)
				}
			}
			if got := table.In(states...); len(got) != 0 {
				t.Errorf("In of all = %v, want none", got)
			}
			if got := table.In(); len(got) != 0 {
				t.Errorf("In() = %v, want none", got)
			}
			if got := table.Busy(); got != (api.Nodes{}) {
				t.Errorf("Busy() = %v, want none", got)
			}
			if got := table.Len(); got != 0 {
				t.Errorf("Len() = %d, want 0", got)
			}
		}
	}
}

func TestNewIsEmpty(t *testing.T) {
	b := newBoth(t)
	wantAt(t, b.table, b.m)
	for _, id := range slices.Concat(noIds, []int{1, 2, 1024}) {
		for _, name := range calls {
			b.refused(t, call{name: name, id: id, state: api.Completed, now: 5}, api.ErrNone)
		}
		wantJob(t, b.table, b.m, id)
	}
	if got := b.table.In(slices.Concat(states, noStates)...); len(got) != 0 {
		t.Errorf("In of all = %v, want none", got)
	}
}
