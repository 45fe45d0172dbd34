package job_test

import (
	"math"
	"slices"
	"strconv"
	"testing"

	"marlinspike/api"
	"marlinspike/array"
	"marlinspike/cmd"
	"marlinspike/dep"
	"marlinspike/job"
)

// P13.1: Submit

func TestSubmitWithoutAnArray(t *testing.T) {
	b := newBoth(t)
	b.submit(t, "", 5, 1)
	b.submit(t, "nodes=256 time=60 req=cpu=4,mem=8 qos=high name=x dep=afterok:3:4?singleton run=9", 7, 2)
	b.submit(t, "", 3, 3)
	for i, want := range []job.Job{
		{Id: 1, Index: -1, Cmd: cmd.Command{Kind: cmd.Submit, User: "ann", Part: "p", Nodes: 1}, State: api.Pending, Submitted: 5},
		{Id: 2, Index: -1, Cmd: cmd.Command{
			Kind: cmd.Submit, User: "ann", Part: "p", Qos: "high", Name: "x", Nodes: 256, Time: 60, Run: 9,
			Req: api.Vec{Cpu: 4, Mem: 8},
			Dep: dep.Dep{Any: true, Items: []dep.Item{{Kind: dep.AfterOk, Jobs: []int{3, 4}}, {Kind: dep.Singleton}}},
		}, State: api.Pending, Submitted: 7},
		{Id: 3, Index: -1, Cmd: cmd.Command{Kind: cmd.Submit, User: "ann", Part: "p", Nodes: 1}, State: api.Pending, Submitted: 3},
	} {
		if got, err := b.table.Get(i + 1); !plainly(got, want) || err != api.OK {
			t.Errorf("Get(%d) = %+v, %v, want %+v", i+1, got, err, want)
		}
	}
}

func TestSubmitWithAnArray(t *testing.T) {
	for _, test := range []struct {
		array   string
		indexes []int
	}{
		{"0", []int{0}},
		{"7", []int{7}},
		{"999999", []int{999999}},
		{"0%1", []int{0}},
		{"1-2", []int{1, 2}},
		{"0-6:2,9%2", []int{0, 2, 4, 6, 9}},
		{"9,0-6:2", []int{0, 2, 4, 6, 9}},
		{"3-5%999999", []int{3, 4, 5}},
		{"999998,0,5", []int{0, 5, 999998}},
	} {
		b := newBoth(t)
		b.submit(t, "", 1, 1)
		var want []int
		for i := range test.indexes {
			want = append(want, 2+i)
		}
		b.submit(t, "array="+test.array+" nodes=3", 8, want...)
		b.submit(t, "", 9, 2+len(test.indexes))
		for i, index := range test.indexes {
			want := job.Job{Id: 2 + i, Index: index, Cmd: submit(t, "array="+test.array+" nodes=3"), State: api.Pending, Submitted: 8}
			if got, err := b.table.Get(2 + i); !plainly(got, want) || err != api.OK {
				t.Errorf("with array %s, Get(%d) = %+v, %v, want %+v", test.array, 2+i, got, err, want)
			}
		}
		if got, _ := b.table.Get(2 + len(test.indexes)); got.Index != -1 {
			t.Errorf("the one behind the array has the index %d, want -1", got.Index)
		}
	}
}

func TestExample(t *testing.T) {
	table := job.New()
	if got, err := table.Submit(submit(t, "array=1-2"), 5); !slices.Equal(got, []int{1, 2}) || err != api.OK {
		t.Fatalf("Submit = %v, %v, want 1 and 2", got, err)
	}
	if got := table.In(api.Pending); !slices.Equal(got, []int{1, 2}) {
		t.Errorf("In(Pending) = %v, want 1 and 2", got)
	}
}

// wrongCommands are those that are no submits that may be.
func wrongCommands(t testing.TB) map[string]cmd.Command {
	t.Helper()
	wrong := map[string]cmd.Command{"nothing at all": {}}
	for _, text := range []string{"cancel 1", "hold 1", "release 1", "requeue 1", "drain n1", "resume n[1-3]", "queue", "nodes", "usage"} {
		c, err := cmd.Parse(text)
		if err != api.OK {
			t.Fatalf("%q: %v", text, err)
		}
		wrong[text] = c
		// One with all that a submit has may not be, either.
		full := submit(t, "nodes=2 array=1-2")
		full.Kind = c.Kind
		wrong[text+", as a submit"] = full
	}
	for name, turn := range map[string]func(c *cmd.Command){
		"kind 0":                func(c *cmd.Command) { c.Kind = 0 },
		"kind 11":               func(c *cmd.Command) { c.Kind = 11 },
		"kind -1":               func(c *cmd.Command) { c.Kind = -1 },
		"a far kind":            func(c *cmd.Command) { c.Kind = 1<<32 + 1 },
		"no user":               func(c *cmd.Command) { c.User = "" },
		"no part":               func(c *cmd.Command) { c.Part = "" },
		"a user of capitals":    func(c *cmd.Command) { c.User = "Ann" },
		"a long part":           func(c *cmd.Command) { c.Part = "abcdefghijklmnopq" },
		"a quality with blanks": func(c *cmd.Command) { c.Qos = "a b" },
		"a name with a sign":    func(c *cmd.Command) { c.Name = "x=1" },
		"no nodes":              func(c *cmd.Command) { c.Nodes = 0 },
		"nodes -1":              func(c *cmd.Command) { c.Nodes = -1 },
		"257 nodes":             func(c *cmd.Command) { c.Nodes = 257 },
		"far nodes":             func(c *cmd.Command) { c.Nodes = 1<<32 + 1 },
		"time -1":               func(c *cmd.Command) { c.Time = -1 },
		"time of 8 digits":      func(c *cmd.Command) { c.Time = 10000000 },
		"run -1":                func(c *cmd.Command) { c.Run = -1 },
		"run of 8 digits":       func(c *cmd.Command) { c.Run = 10000000 },
		"cpu -1":                func(c *cmd.Command) { c.Req.Cpu = -1 },
		"much mem":              func(c *cmd.Command) { c.Req.Mem = math.MaxInt },
		"an unknown item":       func(c *cmd.Command) { c.Dep.Items = []dep.Item{{Kind: 6, Jobs: []int{1}}} },
		"an item of no jobs":    func(c *cmd.Command) { c.Dep.Items = []dep.Item{{Kind: dep.After}} },
		"a job 0":               func(c *cmd.Command) { c.Dep.Items = []dep.Item{{Kind: dep.After, Jobs: []int{0}}} },
		"a job above 999999":    func(c *cmd.Command) { c.Dep.Items = []dep.Item{{Kind: dep.AfterAny, Jobs: []int{1, 1000000}}} },
		"any of nothing":        func(c *cmd.Command) { c.Dep.Any = true },
		"indexes that fall":     func(c *cmd.Command) { c.Array.Indexes = []int{2, 1} },
		"an index twice":        func(c *cmd.Command) { c.Array.Indexes = []int{2, 2} },
		"an index -1":           func(c *cmd.Command) { c.Array.Indexes = []int{-1} },
		"an index of 1000000":   func(c *cmd.Command) { c.Array.Indexes = []int{1000000} },
		"257 indexes":           func(c *cmd.Command) { c.Array.Indexes = upTo(257) },
		"1025 indexes":          func(c *cmd.Command) { c.Array.Indexes = upTo(1025) },
		"a limit without one":   func(c *cmd.Command) { c.Array = array.Array{Limit: 1} },
		"a limit of -1":         func(c *cmd.Command) { c.Array = array.Array{Indexes: []int{1}, Limit: -1} },
		"a limit of 1000000":    func(c *cmd.Command) { c.Array = array.Array{Indexes: []int{1}, Limit: 1000000} },
		"of a job":              func(c *cmd.Command) { c.Job = 1 },
		"of nodes":              func(c *cmd.Command) { c.Host = "n1" },
	} {
		c := submit(t, "nodes=2 time=9 req=cpu=2 qos=q name=x run=3")
		turn(&c)
		wrong[name] = c
	}
	return wrong
}

// upTo are the numbers from 0 on, so many.
func upTo(n int) []int {
	var l []int
	for i := range n {
		l = append(l, i)
	}
	return l
}

func TestSubmitOfCommandsThatMayNotBe(t *testing.T) {
	for name, c := range wrongCommands(t) {
		b := newBoth(t)
		b.refused(t, call{name: "Submit", cmd: c, now: 5}, api.ErrArg)
		b.submit(t, "array=1-3", 5, 1, 2, 3)
		b.refused(t, call{name: "Submit", cmd: c, now: 5}, api.ErrArg)
		b.refused(t, call{name: "Submit", cmd: c, now: -1}, api.ErrArg)
		// No number was taken.
		b.submit(t, "", 6, 4)
		if t.Failed() {
			t.Fatal(name)
		}
	}
}

func TestSubmitAtTimes(t *testing.T) {
	b := newBoth(t)
	id := 1
	for _, now := range times {
		b.submit(t, "", now, id)
		if got, _ := b.table.Get(id); got.Submitted != now {
			t.Errorf("submitted at %d: %+v", now, got)
		}
		b.submit(t, "array=1-2", now, id+1, id+2)
		if got, _ := b.table.Get(id + 2); got.Submitted != now {
			t.Errorf("submitted at %d: %+v", now, got)
		}
		id += 3
	}
	for _, now := range noTimes {
		b.refused(t, call{name: "Submit", cmd: submit(t, ""), now: now}, api.ErrArg)
		b.refused(t, call{name: "Submit", cmd: submit(t, "array=1-5"), now: now}, api.ErrArg)
	}
	// A time below one that was, too.
	b.submit(t, "", 0, id)
}

// ofMany has so many jobs, each of an array.
func ofMany(t testing.TB, n int) *job.Table {
	t.Helper()
	table := job.New()
	for table.Len() < n {
		size := min(256, n-table.Len())
		ids, err := table.Submit(submit(t, "array=0-"+strconv.Itoa(size-1)), 5)
		if len(ids) != size || err != api.OK {
			t.Fatalf("Submit of %d = %v, %v", size, ids, err)
		}
	}
	return table
}

// wantMany holds that jobs are refused, and that nothing is there then.
func wantMany(t testing.TB, table *job.Table, options string, n int) {
	t.Helper()
	if got, err := table.Submit(submit(t, options), 5); len(got) != 0 || err != api.ErrMany {
		t.Errorf("of %d jobs, Submit of %q = %v, %v, want ErrMany", n, options, got, err)
	}
	if got := table.Len(); got != n {
		t.Errorf("Len() = %d, want %d", got, n)
	}
	if got := len(table.In(states...)); got != n {
		t.Errorf("there are %d, want %d", got, n)
	}
	if got, err := table.Get(n + 1); !plainly(got, job.Job{}) || err != api.ErrNone {
		t.Errorf("Get(%d) = %+v, %v, want none", n+1, got, err)
	}
}

// wantFit holds that jobs are taken, by numbers that go on.
func wantFit(t testing.TB, table *job.Table, options string, size int) {
	t.Helper()
	n := table.Len()
	got, err := table.Submit(submit(t, options), 6)
	if len(got) != size || got[0] != n+1 || got[size-1] != n+size || err != api.OK {
		t.Errorf("of %d jobs, Submit of %q = %v, %v, want %d", n, options, got, err, size)
	}
	if got := table.Len(); got != n+size {
		t.Errorf("Len() = %d, want %d", got, n+size)
	}
	if got, err := table.Get(n + size); got.Id != n+size || got.Submitted != 6 || err != api.OK {
		t.Errorf("Get(%d) = %+v, %v", n+size, got, err)
	}
}

func TestSubmitOneByOneUpTo1024(t *testing.T) {
	table := job.New()
	for range 1024 {
		wantFit(t, table, "", 1)
	}
	for range 3 {
		wantMany(t, table, "", 1024)
		wantMany(t, table, "array=7", 1024)
		wantMany(t, table, "array=0-255", 1024)
	}
}

func TestSubmitOfArraysUpTo1024(t *testing.T) {
	for _, size := range []int{1, 2, 3, 100, 255, 256} {
		options := "array=0-" + strconv.Itoa(size-1)
		// One that just fits, and one that is one too many.
		table := ofMany(t, 1024-size)
		wantFit(t, table, options, size)
		wantMany(t, table, "", 1024)
		table = ofMany(t, 1024-size+1)
		wantMany(t, table, options, 1024-size+1)
		wantMany(t, table, options+"%1", 1024-size+1)
		if size > 1 {
			wantFit(t, table, "array=0-"+strconv.Itoa(size-2), size-1)
		}
		wantMany(t, table, "", 1024)
	}
}

// An array that is far too many leaves the room that there is.
func TestSubmitBehindOneThatIsTooMany(t *testing.T) {
	table := ofMany(t, 1020)
	wantMany(t, table, "array=0-255", 1020)
	wantMany(t, table, "array=0-4", 1020)
	wantFit(t, table, "array=0-1", 2)
	wantMany(t, table, "array=0-2", 1022)
	wantFit(t, table, "", 1)
	wantFit(t, table, "array=3", 1)
	wantMany(t, table, "", 1024)
}

// What has ended takes room, too.
func TestSubmitOfAFullTableOfJobsThatEnded(t *testing.T) {
	table := ofMany(t, 1024)
	for id := range 1024 {
		if _, err := table.Cancel(id+1, 9); err != api.OK {
			t.Fatalf("Cancel(%d): %v", id+1, err)
		}
	}
	wantMany(t, table, "", 1024)
}

// A fault that is named first is told first.
func TestSubmitTellsErrArgAheadOfErrMany(t *testing.T) {
	table := ofMany(t, 1024)
	if got, err := table.Submit(submit(t, ""), -1); len(got) != 0 || err != api.ErrArg {
		t.Errorf("Submit at -1 = %v, %v, want ErrArg", got, err)
	}
	for name, c := range wrongCommands(t) {
		if got, err := table.Submit(c, 5); len(got) != 0 || err != api.ErrArg {
			t.Errorf("Submit of %s = %v, %v, want ErrArg", name, got, err)
		}
	}
	if table.Len() != 1024 {
		t.Errorf("Len() = %d, want 1024", table.Len())
	}
}

// The numbers, from 1 to 1024, each once and in order.
func TestNumbersOfManySubmits(t *testing.T) {
	table := job.New()
	next := 1
	for i := 0; next <= 1024; i++ {
		size := min(1+i%7, 1024-next+1)
		options := "array=0-" + strconv.Itoa(size-1)
		if size == 1 {
			options = ""
		}
		ids, err := table.Submit(submit(t, options), i)
		if err != api.OK {
			t.Fatalf("Submit of %d behind %d: %v", size, next-1, err)
		}
		for _, id := range ids {
			if id != next {
				t.Fatalf("number %d, want %d", id, next)
			}
			next++
		}
	}
	if got := table.In(api.Pending); !slices.Equal(got, upTo(1025)[1:]) {
		t.Errorf("In(Pending) = %v, want 1 to 1024", got)
	}
	for _, id := range []int{1, 1023, 1024} {
		if _, err := table.Get(id); err != api.OK {
			t.Errorf("Get(%d): %v", id, err)
		}
		if err := table.Hold(id); err != api.OK {
			t.Errorf("Hold(%d): %v", id, err)
		}
	}
	for _, id := range noIds {
		if _, err := table.Get(id); err != api.ErrNone {
			t.Errorf("Get(%d): %v, want ErrNone", id, err)
		}
	}
}

// R4

// spoil writes over all lists of a command, as far as there is room.
func spoil(c *cmd.Command) {
	for i := range c.Dep.Items {
		jobs := c.Dep.Items[i].Jobs
		for k := range jobs[:cap(jobs)] {
			jobs[:cap(jobs)][k] = 77
		}
	}
	items := c.Dep.Items[:cap(c.Dep.Items)]
	for i := range items {
		items[i] = dep.Item{Kind: dep.AfterNotOk, Jobs: []int{55}}
	}
	indexes := c.Array.Indexes[:cap(c.Array.Indexes)]
	for i := range indexes {
		indexes[i] = 66
	}
}

func TestSubmitDoesNotWriteIntoItsListsOrKeepThem(t *testing.T) {
	for _, options := range []string{"", "array=0-6:2,9%2", "dep=afterok:3:4,singleton,after:1", "array=5 dep=afterany:7?after:2:2"} {
		b := newBoth(t)
		c := submit(t, options)
		// Lists with room behind them, in which something stands.
		c.Array.Indexes = append(c.Array.Indexes, 91, 92)[:len(c.Array.Indexes)]
		c.Dep.Items = append(c.Dep.Items, dep.Item{Kind: 9})[:len(c.Dep.Items)]
		was := cloned(c)
		ids, err := b.table.Submit(c, 5)
		if err != api.OK || !plainly(job.Job{Cmd: c}, job.Job{Cmd: was}) {
			t.Fatalf("Submit = %v, %v, and the command is %+v behind it", ids, err, c)
		}
		if got := c.Array.Indexes[:len(c.Array.Indexes)+2]; got[len(got)-2] != 91 || got[len(got)-1] != 92 {
			t.Errorf("%v stand behind the indexes", got)
		}
		if got := c.Dep.Items[:len(c.Dep.Items)+1]; got[len(got)-1].Kind != 9 {
			t.Errorf("%v stand behind the items", got)
		}
		b.m.do(call{name: "Submit", cmd: was, now: 5})
		wantAt(t, b.table, b.m)
		spoil(&c)
		wantAt(t, b.table, b.m)
		// The numbers are the caller's.
		for i := range ids[:cap(ids)] {
			ids[:cap(ids)][i] = -9
		}
		wantAt(t, b.table, b.m)
		b.submit(t, "", 6, len(b.m.jobs)+1)
	}
}
