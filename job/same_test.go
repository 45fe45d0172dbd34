package job_test

import (
	"math"
	"math/rand"
	"reflect"
	"testing"

	"marlinspike/api"
	"marlinspike/array"
	"marlinspike/bits"
	"marlinspike/cmd"
	"marlinspike/dep"
	"marlinspike/job"
)

// wantSame holds what Same answers of two jobs, either one ahead.
func wantSame(t *testing.T, a, b job.Job, want bool) {
	t.Helper()
	if got := job.Same(a, b); got != want {
		t.Errorf("Same(%+v, %+v) = %v", a, b, got)
	}
	if got := job.Same(b, a); got != want {
		t.Errorf("Same(%+v, %+v) = %v", b, a, got)
	}
}

// full is a job that has something in each part.
func full() job.Job {
	return job.Job{
		Id: 7, Index: 2,
		Cmd: cmd.Command{
			Kind: cmd.Submit, User: "ann", Part: "p", Qos: "high", Name: "x",
			Nodes: 2, Time: 60, Run: 50, Req: api.Vec{Cpu: 4, Mem: 16, Gpu: 1},
			Dep:   dep.Dep{Any: true, Items: []dep.Item{{Kind: dep.AfterOk, Jobs: []int{3, 4}}, {Kind: dep.Singleton}}},
			Array: array.Array{Indexes: []int{0, 2, 4}, Limit: 2},
		},
		State: api.Running, Submitted: 11, Began: 12, Ended: 13, Tries: 4,
		Nodes: bits.Of(0, 64, 128, 255),
	}
}

// another is a job that is alike, and shares nothing with it.
func another(j job.Job) job.Job {
	j.Cmd = cloned(j.Cmd)
	return j
}

// P13.3: Same

func TestSame(t *testing.T) {
	for _, j := range []job.Job{{}, full(), {Id: math.MinInt, Index: -1, State: 99, Nodes: bits.Span(0, 255), Cmd: cmd.Command{Kind: -1, Array: array.Array{Limit: -1}}}} {
		wantSame(t, j, another(j), true)
	}
	b := ofEach(t)
	for id := 1; id <= 8; id++ {
		j, _ := b.table.Get(id)
		other, _ := b.table.Get(id)
		wantSame(t, j, other, true)
		wantSame(t, j, b.m.jobs[id-1], true)
		for k := 1; k <= 8; k++ {
			other, _ := b.table.Get(k)
			wantSame(t, j, other, k == id)
		}
	}
}

// A list that is nil and one that is empty are the same.
func TestSameOfEmptyLists(t *testing.T) {
	a, b := full(), full()
	a.Cmd.Dep.Items, b.Cmd.Dep.Items = nil, []dep.Item{}
	wantSame(t, a, b, true)
	a.Cmd.Array.Indexes, b.Cmd.Array.Indexes = nil, []int{}
	wantSame(t, a, b, true)
	a.Cmd.Dep.Items, b.Cmd.Dep.Items = []dep.Item{{Kind: dep.Singleton}}, []dep.Item{{Kind: dep.Singleton, Jobs: []int{}}}
	wantSame(t, a, b, true)
}

func TestSameOfOneThatDiffers(t *testing.T) {
	for name, turn := range map[string]func(j *job.Job){
		"id":               func(j *job.Job) { j.Id++ },
		"a far id":         func(j *job.Job) { j.Id += 1 << 32 },
		"index":            func(j *job.Job) { j.Index-- },
		"state":            func(j *job.Job) { j.State++ },
		"a far state":      func(j *job.Job) { j.State += 8 },
		"submitted":        func(j *job.Job) { j.Submitted++ },
		"a far submitted":  func(j *job.Job) { j.Submitted += 1 << 40 },
		"began":            func(j *job.Job) { j.Began++ },
		"ended":            func(j *job.Job) { j.Ended++ },
		"began for ended":  func(j *job.Job) { j.Began, j.Ended = j.Ended+1, j.Began },
		"tries":            func(j *job.Job) { j.Tries++ },
		"node 1":           func(j *job.Job) { j.Nodes[0] ^= 2 },
		"node 64":          func(j *job.Job) { j.Nodes[1] ^= 1 },
		"node 190":         func(j *job.Job) { j.Nodes[2] ^= 1 << 62 },
		"node 255":         func(j *job.Job) { j.Nodes[3] ^= 1 << 63 },
		"kind":             func(j *job.Job) { j.Cmd.Kind++ },
		"user":             func(j *job.Job) { j.Cmd.User += "x" },
		"part":             func(j *job.Job) { j.Cmd.Part += "x" },
		"quality":          func(j *job.Job) { j.Cmd.Qos += "x" },
		"name":             func(j *job.Job) { j.Cmd.Name += "x" },
		"nodes":            func(j *job.Job) { j.Cmd.Nodes++ },
		"time":             func(j *job.Job) { j.Cmd.Time++ },
		"run":              func(j *job.Job) { j.Cmd.Run++ },
		"cpu":              func(j *job.Job) { j.Cmd.Req.Cpu++ },
		"mem":              func(j *job.Job) { j.Cmd.Req.Mem++ },
		"gpu":              func(j *job.Job) { j.Cmd.Req.Gpu++ },
		"any":              func(j *job.Job) { j.Cmd.Dep.Any = !j.Cmd.Dep.Any },
		"one more item":    func(j *job.Job) { j.Cmd.Dep.Items = append(j.Cmd.Dep.Items, dep.Item{}) },
		"one more index":   func(j *job.Job) { j.Cmd.Array.Indexes = append(j.Cmd.Array.Indexes, 9) },
		"limit":            func(j *job.Job) { j.Cmd.Array.Limit++ },
		"job":              func(j *job.Job) { j.Cmd.Job++ },
		"host":             func(j *job.Job) { j.Cmd.Host += "x" },
		"all of the nodes": func(j *job.Job) { j.Nodes = bits.Span(0, 255) },
	} {
		for _, j := range []job.Job{{}, full()} {
			turned := another(j)
			turn(&turned)
			wantSame(t, j, turned, false)
			wantSame(t, turned, another(turned), true)
		}
		if t.Failed() {
			t.Fatal(name)
		}
	}
	for _, turn := range []func(j *job.Job){
		func(j *job.Job) { j.Cmd.Dep.Items[0].Kind++ },
		func(j *job.Job) { j.Cmd.Dep.Items[0].Jobs[1]++ },
		func(j *job.Job) { j.Cmd.Dep.Items[0].Jobs = j.Cmd.Dep.Items[0].Jobs[:1] },
		func(j *job.Job) { j.Cmd.Dep.Items = j.Cmd.Dep.Items[:1] },
		func(j *job.Job) { j.Cmd.Array.Indexes[2]++ },
		func(j *job.Job) { j.Cmd.Array.Indexes = j.Cmd.Array.Indexes[:2] },
		func(j *job.Job) { j.Cmd.Array = array.Array{} },
	} {
		turned := another(full())
		turn(&turned)
		wantSame(t, full(), turned, false)
	}
}

// No field of a job counts nothing.
func TestSameOfEachField(t *testing.T) {
	kind := reflect.TypeOf(job.Job{})
	for i := range kind.NumField() {
		turned := full()
		reflect.ValueOf(&turned).Elem().Field(i).SetZero()
		wantSame(t, full(), turned, false)
	}
}

func TestSameAsPlainly(t *testing.T) {
	r := rand.New(rand.NewSource(45))
	some := func() job.Job {
		j := job.Job{
			Id: r.Intn(2), Index: r.Intn(2), State: r.Intn(2), Submitted: r.Intn(2), Began: r.Intn(2), Ended: r.Intn(2), Tries: r.Intn(2),
			Nodes: bits.Of(r.Intn(2)),
		}
		j.Cmd.Nodes = r.Intn(2)
		return j
	}
	same := 0
	for range 20000 {
		a, b := some(), some()
		if plainly(a, b) {
			same++
		}
		wantSame(t, a, b, plainly(a, b))
	}
	if same == 0 {
		t.Errorf("no two are the same")
	}
}

// What is held against each other is not written to.
func TestSameDoesNotWrite(t *testing.T) {
	a, b := full(), full()
	job.Same(a, b)
	if !plainly(a, full()) || !plainly(b, full()) {
		t.Errorf("%+v and %+v, want them as they were", a, b)
	}
}
