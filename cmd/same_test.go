package cmd_test

import (
	"math"
	"math/rand"
	"testing"

	"marlinspike/api"
	"marlinspike/array"
	"marlinspike/cmd"
	"marlinspike/dep"
)

// wantSame holds what Same answers of two commands, either one ahead.
func wantSame(t *testing.T, a, b cmd.Command, want bool) {
	t.Helper()
	if got := cmd.Same(a, b); got != want {
		t.Errorf("Same(%+v, %+v) = %v", a, b, got)
	}
	if got := cmd.Same(b, a); got != want {
		t.Errorf("Same(%+v, %+v) = %v", b, a, got)
	}
}

// P10.2: Same.

func TestSame(t *testing.T) {
	for _, c := range []cmd.Command{
		{}, submit(), full(), ofJob(cmd.Cancel, 7), ofHost(cmd.Drain, "n[1-3]"), {Kind: cmd.Queue}, {Kind: cmd.List}, {Kind: cmd.Usage}, long(mostBytes + 1),
		// Ones that may not be, too.
		{Kind: -1, Nodes: math.MinInt, Job: math.MaxInt, Host: " ", Array: array.Array{Limit: -1}, Dep: dep.Dep{Any: true, Items: []dep.Item{{Kind: 99}}}},
	} {
		wantSame(t, c, clone(c), true)
	}
	a, _ := cmd.Parse(fullText)
	wantSame(t, a, full(), true)
}

func TestSameOfOneThatDiffers(t *testing.T) {
	whole := map[string]func(c *cmd.Command){
		"kind":             func(c *cmd.Command) { c.Kind++ },
		"user":             func(c *cmd.Command) { c.User += "x" },
		"no user":          func(c *cmd.Command) { c.User = "" },
		"part":             func(c *cmd.Command) { c.Part += "x" },
		"no part":          func(c *cmd.Command) { c.Part = "" },
		"qos":              func(c *cmd.Command) { c.Qos += "x" },
		"name":             func(c *cmd.Command) { c.Name += "x" },
		"nodes":            func(c *cmd.Command) { c.Nodes++ },
		"time":             func(c *cmd.Command) { c.Time++ },
		"run":              func(c *cmd.Command) { c.Run-- },
		"cpu":              func(c *cmd.Command) { c.Req.Cpu++ },
		"mem":              func(c *cmd.Command) { c.Req.Mem++ },
		"gpu":              func(c *cmd.Command) { c.Req.Gpu++ },
		"all of req":       func(c *cmd.Command) { c.Req = api.Vec{Cpu: -1, Mem: -1, Gpu: -1} },
		"any":              func(c *cmd.Command) { c.Dep.Any = !c.Dep.Any },
		"one more item":    func(c *cmd.Command) { c.Dep.Items = append(c.Dep.Items, dep.Item{}) },
		"one more index":   func(c *cmd.Command) { c.Array.Indexes = append(c.Array.Indexes, 0) },
		"limit":            func(c *cmd.Command) { c.Array.Limit++ },
		"job":              func(c *cmd.Command) { c.Job++ },
		"host":             func(c *cmd.Command) { c.Host += "x" },
		"upper case":       func(c *cmd.Command) { c.User += "A" },
		"a far kind":       func(c *cmd.Command) { c.Kind += 1 << 32 },
		"a far job":        func(c *cmd.Command) { c.Job += 1 << 32 },
		"a far limit":      func(c *cmd.Command) { c.Array.Limit -= 1 << 32 },
		"a host of blanks": func(c *cmd.Command) { c.Host += " " },
	}
	for name, turn := range whole {
		for _, c := range []cmd.Command{{}, submit(), full(), ofJob(cmd.Hold, 7), ofHost(cmd.Resume, "n1"), {Kind: cmd.Queue}} {
			turned := clone(c)
			turn(&turned)
			if !alike(turned, c) {
				wantSame(t, c, turned, false)
			}
			wantSame(t, turned, clone(turned), true)
			if t.Failed() {
				t.Fatal(name)
			}
		}
	}
}

func TestSameOfLists(t *testing.T) {
	turns := []func(c *cmd.Command){
		// Of the items.
		func(c *cmd.Command) { c.Dep.Items = nil },
		func(c *cmd.Command) { c.Dep.Items = c.Dep.Items[:2] },
		func(c *cmd.Command) { c.Dep.Items = c.Dep.Items[1:] },
		func(c *cmd.Command) {
			c.Dep.Items[0], c.Dep.Items[1] = c.Dep.Items[1], c.Dep.Items[0]
		},
		func(c *cmd.Command) { c.Dep.Items[0].Kind = dep.After },
		func(c *cmd.Command) { c.Dep.Items[2].Kind = dep.AfterOk },
		func(c *cmd.Command) { c.Dep.Items[1].Kind = 0 },
		func(c *cmd.Command) { c.Dep.Items[0].Jobs[0]++ },
		func(c *cmd.Command) { c.Dep.Items[0].Jobs[1]++ },
		func(c *cmd.Command) { c.Dep.Items[2].Jobs[0] = 0 },
		func(c *cmd.Command) { c.Dep.Items[0].Jobs = []int{4, 3} },
		func(c *cmd.Command) { c.Dep.Items[0].Jobs = []int{3} },
		func(c *cmd.Command) { c.Dep.Items[0].Jobs = []int{3, 4, 4} },
		func(c *cmd.Command) { c.Dep.Items[0].Jobs = nil },
		func(c *cmd.Command) { c.Dep.Items[1].Jobs = []int{1} },
		// Of the array.
		func(c *cmd.Command) { c.Array.Indexes = nil },
		func(c *cmd.Command) { c.Array.Indexes = c.Array.Indexes[:4] },
		func(c *cmd.Command) { c.Array.Indexes = c.Array.Indexes[1:] },
		func(c *cmd.Command) { c.Array.Indexes[0]++ },
		func(c *cmd.Command) { c.Array.Indexes[4]++ },
		func(c *cmd.Command) { c.Array.Indexes[0], c.Array.Indexes[1] = 2, 0 },
	}
	for i, turn := range turns {
		turned := full()
		turn(&turned)
		wantSame(t, full(), turned, false)
		for j, other := range turns {
			twice := full()
			other(&twice)
			wantSame(t, turned, twice, i == j)
		}
	}
}

func TestSameOfEmptyLists(t *testing.T) {
	// One that is nil, and one that is empty, are the same.
	a, b := submit(), submit()
	b.Dep.Items, b.Array.Indexes = []dep.Item{}, []int{}
	wantSame(t, a, b, true)
	a.Dep.Items = []dep.Item{{Kind: dep.Singleton}}
	b.Dep.Items = []dep.Item{{Kind: dep.Singleton, Jobs: []int{}}}
	wantSame(t, a, b, true)
	wantSame(t, cmd.Command{}, cmd.Command{Dep: dep.Dep{Items: make([]dep.Item, 0, 9)}, Array: array.Array{Indexes: make([]int, 0, 9)}}, true)
}

func TestSameOfMany(t *testing.T) {
	r := rand.New(rand.NewSource(5))
	var commands []cmd.Command
	for range 300 {
		commands = append(commands, random(r))
	}
	for _, a := range commands {
		for _, b := range commands {
			if cmd.Same(a, b) != alike(a, b) {
				t.Fatalf("Same(%+v, %+v) = %v", a, b, cmd.Same(a, b))
			}
		}
	}
}
