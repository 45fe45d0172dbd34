package cmd_test

import (
	"math"
	"math/rand"
	"slices"
	"strconv"
	"strings"
	"testing"

	"marlinspike/api"
	"marlinspike/array"
	"marlinspike/cmd"
	"marlinspike/dep"
	"marlinspike/host"
	"marlinspike/vec"
)

// The model of Right goes field by field, and that of Format writes what Right lets through.

// modelRight tells whether a command may be.
func modelRight(c cmd.Command) bool {
	zero := cmd.Command{Kind: c.Kind}
	switch c.Kind {
	case cmd.Submit:
		return rightNames(c) && rightNumbers(c) && vec.Right(c.Req) && rightDep(c.Dep) && rightArray(c.Array) &&
			c.Job == 0 && c.Host == "" && len(modelFormat(c)) <= mostBytes
	case cmd.Cancel, cmd.Hold, cmd.Release, cmd.Requeue:
		zero.Job = c.Job
		return alike(c, zero) && 1 <= c.Job && c.Job <= 999999
	case cmd.Drain, cmd.Resume:
		zero.Host = c.Host
		return alike(c, zero) && isList(c.Host) && len(modelFormat(c)) <= mostBytes
	case cmd.Queue, cmd.List, cmd.Usage:
		return alike(c, zero)
	}
	return false
}

// rightNames tells whether a submit's names may be.
func rightNames(c cmd.Command) bool {
	return aName.MatchString(c.User) && aName.MatchString(c.Part) && (c.Qos == "" || aName.MatchString(c.Qos)) && (c.Name == "" || aName.MatchString(c.Name))
}

// rightNumbers tells whether a submit's numbers may be.
func rightNumbers(c cmd.Command) bool {
	return 1 <= c.Nodes && c.Nodes <= 256 && 0 <= c.Time && c.Time <= 9999999 && 0 <= c.Run && c.Run <= 9999999
}

// rightDep tells whether a dependency is one that a text tells.
func rightDep(d dep.Dep) bool {
	for _, item := range d.Items {
		switch {
		case item.Kind == dep.Singleton && len(item.Jobs) == 0:
		case item.Kind < dep.After || item.Kind > dep.AfterAny || len(item.Jobs) < 1 || len(item.Jobs) > 32:
			return false
		}
		for _, job := range item.Jobs {
			if job < 1 || job > 999999 {
				return false
			}
		}
	}
	return len(d.Items) <= 32 && (!d.Any || len(d.Items) > 1)
}

// rightArray tells whether an array is none, or one that may be.
func rightArray(a array.Array) bool {
	return len(a.Indexes) == 0 && a.Limit == 0 || array.Right(a)
}

// modelFormat is the text of a command that may be.
func modelFormat(c cmd.Command) string {
	words := []string{firstWords[c.Kind-1]}
	when := func(is bool, key, value string) {
		if is {
			words = append(words, key+"="+value)
		}
	}
	switch {
	case c.Kind == cmd.Submit:
		list, _ := array.Format(c.Array)
		when(true, "user", c.User)
		when(true, "part", c.Part)
		when(c.Nodes != 1, "nodes", strconv.Itoa(c.Nodes))
		when(c.Time != 0, "time", strconv.Itoa(c.Time))
		when(c.Req != api.Vec{}, "req", vec.Format(c.Req))
		when(c.Qos != "", "qos", c.Qos)
		when(c.Name != "", "name", c.Name)
		when(len(c.Dep.Items) > 0, "dep", dep.Format(c.Dep))
		when(len(c.Array.Indexes) > 0, "array", list)
		when(c.Run != 0, "run", strconv.Itoa(c.Run))
	case c.Kind <= cmd.Requeue:
		words = append(words, strconv.Itoa(c.Job))
	case c.Kind <= cmd.Resume:
		words = append(words, c.Host)
	}
	return strings.Join(words, " ")
}

// wantText holds what Right and Format answer, and the models, against a text, and what Parse answers of that against the command.
func wantText(t *testing.T, c cmd.Command, want string) {
	t.Helper()
	if s, err := cmd.Format(c); s != want || err != api.OK || !cmd.Right(c) {
		t.Errorf("Format(%+v) = %q, %v, and Right %v, want %q", c, short(s), err, cmd.Right(c), short(want))
	}
	if !modelRight(c) || modelFormat(c) != want {
		t.Errorf("the models tell of %+v %v and %q, want %q", c, modelRight(c), short(modelFormat(c)), short(want))
	}
	if again, err := cmd.Parse(want); err != api.OK || !alike(again, c) || !cmd.Same(again, c) {
		t.Errorf("Parse(%q) = %+v, %v, want %+v", short(want), again, err, c)
	}
}

// wantNoText holds what Right and Format answer of commands, and the model, against there being no text.
func wantNoText(t *testing.T, commands ...cmd.Command) {
	t.Helper()
	for _, c := range commands {
		if s, err := cmd.Format(c); s != "" || err != api.ErrForm || cmd.Right(c) {
			t.Errorf("Format(%+v) = %q, %v, and Right %v, want %v", c, short(s), err, cmd.Right(c), api.ErrForm)
		}
		if modelRight(c) {
			t.Errorf("the model of Right(%+v) is true", c)
		}
	}
}

// P10.2: Right and Format.

func TestFormat(t *testing.T) {
	wantText(t, submit(), base)
	wantText(t, full(), fullText)
	wantText(t, cmd.Command{Kind: cmd.Submit, User: "ann", Part: "p", Nodes: 2, Time: 60}, "submit user=ann part=p nodes=2 time=60")
	wantText(t, ofJob(cmd.Cancel, 1), "cancel 1")
	wantText(t, ofJob(cmd.Hold, 20), "hold 20")
	wantText(t, ofJob(cmd.Release, 345), "release 345")
	wantText(t, ofJob(cmd.Requeue, 999999), "requeue 999999")
	wantText(t, ofHost(cmd.Drain, "n[1-3,07-08],m"), "drain n[1-3,07-08],m")
	wantText(t, ofHost(cmd.Resume, "n1"), "resume n1")
	wantText(t, cmd.Command{Kind: cmd.Queue}, "queue")
	wantText(t, cmd.Command{Kind: cmd.List}, "nodes")
	wantText(t, cmd.Command{Kind: cmd.Usage}, "usage")
	// Lists that are empty are as ones that are nil.
	c := submit()
	c.Dep.Items, c.Array.Indexes = []dep.Item{}, []int{}
	wantText(t, c, base)
	c.Dep.Items = []dep.Item{{Kind: dep.Singleton, Jobs: []int{}}}
	wantText(t, c, base+" dep=singleton")
	c = ofJob(cmd.Hold, 3)
	c.Dep.Items, c.Array.Indexes = []dep.Item{}, []int{}
	wantText(t, c, "hold 3")
}

func TestFormatOfOneOption(t *testing.T) {
	for want, turn := range map[string]func(c *cmd.Command){
		" nodes=2":               func(c *cmd.Command) { c.Nodes = 2 },
		" nodes=256":             func(c *cmd.Command) { c.Nodes = 256 },
		" time=1":                func(c *cmd.Command) { c.Time = 1 },
		" time=9999999":          func(c *cmd.Command) { c.Time = 9999999 },
		" req=cpu=1":             func(c *cmd.Command) { c.Req.Cpu = 1 },
		" req=mem=1073741824":    func(c *cmd.Command) { c.Req.Mem = 1 << 30 },
		" req=gpu=3":             func(c *cmd.Command) { c.Req.Gpu = 3 },
		" req=cpu=1,mem=2,gpu=3": func(c *cmd.Command) { c.Req = api.Vec{Cpu: 1, Mem: 2, Gpu: 3} },
		" qos=q":                 func(c *cmd.Command) { c.Qos = "q" },
		" name=" + name16:        func(c *cmd.Command) { c.Name = name16 },
		" qos=none name=none":    func(c *cmd.Command) { c.Qos, c.Name = "none", "none" },
		" dep=after:7":           func(c *cmd.Command) { c.Dep.Items = []dep.Item{{Kind: dep.After, Jobs: []int{7}}} },
		" dep=singleton":         func(c *cmd.Command) { c.Dep.Items = []dep.Item{{Kind: dep.Singleton}} },
		" dep=singleton,afterany:999999": func(c *cmd.Command) {
			c.Dep.Items = []dep.Item{{Kind: dep.Singleton}, {Kind: dep.AfterAny, Jobs: []int{999999}}}
		},
		" dep=singleton?singleton": func(c *cmd.Command) {
			c.Dep = dep.Dep{Any: true, Items: []dep.Item{{Kind: dep.Singleton}, {Kind: dep.Singleton}}}
		},
		" array=0":               func(c *cmd.Command) { c.Array.Indexes = []int{0} },
		" array=0-6:2,9%2":       func(c *cmd.Command) { c.Array = array.Array{Indexes: []int{0, 2, 4, 6, 9}, Limit: 2} },
		" array=999999%999999":   func(c *cmd.Command) { c.Array = array.Array{Indexes: []int{999999}, Limit: 999999} },
		" run=1":                 func(c *cmd.Command) { c.Run = 1 },
		" run=9999999":           func(c *cmd.Command) { c.Run = 9999999 },
		" nodes=3 time=4 run=5":  func(c *cmd.Command) { c.Run, c.Time, c.Nodes = 5, 4, 3 },
		" qos=a name=b array=1":  func(c *cmd.Command) { c.Array.Indexes, c.Name, c.Qos = []int{1}, "b", "a" },
		" req=cpu=1 dep=after:1": func(c *cmd.Command) { c.Dep.Items, c.Req.Cpu = []dep.Item{{Kind: 1, Jobs: []int{1}}}, 1 },
	} {
		wantText(t, submit(turn), base+want)
	}
	c := submit()
	c.User, c.Part = name16, "-"
	wantText(t, c, "submit user="+name16+" part=-")
}

func TestFormatOfWhatWasParsed(t *testing.T) {
	// It may be another text.
	for s, want := range map[string]string{
		" \tqueue\t ":          "queue",
		"\tcancel  7":          "cancel 7",
		"drain\tn1,n2,n3":      "drain n1,n2,n3",
		"submit part=p user=u": base,
		base + " nodes=1 time=0 req=none dep= run=0": base,
		base + " nodes=007 run=0000010 time=0000001": base + " nodes=7 time=1 run=10",
		base + " array=9,0-6:2%002":                  base + " array=0-6:2,9%2",
		base + " array=001":                          base + " array=1",
		"submit run=50 array=0-6:2,9%2 dep=afterok:3:4?singleton?after:999999 name=_job qos=high req=cpu=4,mem=16,gpu=1 time=60 nodes=2 part=p-1 user=ann": fullText,
	} {
		c, err := cmd.Parse(s)
		if err != api.OK {
			t.Errorf("Parse(%q) has the error %v", s, err)
		}
		wantText(t, c, want)
	}
}

func TestRightOfKinds(t *testing.T) {
	for _, kind := range []int{0, -1, 11, 12, 100, 257, math.MinInt, math.MaxInt} {
		c := full()
		c.Kind = kind
		wantNoText(t, cmd.Command{Kind: kind}, ofJob(kind, 7), ofHost(kind, "n1"), c)
	}
	// One of another kind.
	for kind := cmd.Submit; kind <= cmd.Usage; kind++ {
		for _, c := range []cmd.Command{full(), submit(), ofJob(0, 7), ofHost(0, "n1"), {}} {
			was := c.Kind
			c.Kind = kind
			switch {
			case kind == cmd.Submit && was == cmd.Submit,
				cmd.Cancel <= kind && kind <= cmd.Requeue && c.Job != 0,
				cmd.Drain <= kind && kind <= cmd.Resume && c.Host != "",
				kind >= cmd.Queue && was == 0 && c.Job == 0 && c.Host == "":
				wantText(t, c, modelFormat(c))
			default:
				wantNoText(t, c)
			}
		}
	}
}

func TestRightOfWhatMustBeZero(t *testing.T) {
	turns := map[string]func(c *cmd.Command){
		"user":    func(c *cmd.Command) { c.User = "u" },
		"part":    func(c *cmd.Command) { c.Part = "p" },
		"qos":     func(c *cmd.Command) { c.Qos = "q" },
		"name":    func(c *cmd.Command) { c.Name = "n" },
		"nodes":   func(c *cmd.Command) { c.Nodes = 1 },
		"nodes 2": func(c *cmd.Command) { c.Nodes = 2 },
		"nodes -": func(c *cmd.Command) { c.Nodes = -1 },
		"time":    func(c *cmd.Command) { c.Time = 1 },
		"run":     func(c *cmd.Command) { c.Run = 1 },
		"cpu":     func(c *cmd.Command) { c.Req.Cpu = 1 },
		"mem":     func(c *cmd.Command) { c.Req.Mem = 1 },
		"gpu":     func(c *cmd.Command) { c.Req.Gpu = 1 },
		"any":     func(c *cmd.Command) { c.Dep.Any = true },
		"items":   func(c *cmd.Command) { c.Dep.Items = []dep.Item{{Kind: dep.Singleton}} },
		"item":    func(c *cmd.Command) { c.Dep.Items = []dep.Item{{}} },
		"indexes": func(c *cmd.Command) { c.Array.Indexes = []int{0} },
		"limit":   func(c *cmd.Command) { c.Array.Limit = 1 },
	}
	for kind := cmd.Cancel; kind <= cmd.Usage; kind++ {
		c := cmd.Command{Kind: kind}
		if kind <= cmd.Requeue {
			c.Job = 7
		} else if kind <= cmd.Resume {
			c.Host = "n1"
		}
		wantText(t, c, modelFormat(c))
		for _, turn := range turns {
			turned := clone(c)
			turn(&turned)
			wantNoText(t, turned)
		}
		// Job and Host, where they are of another kind.
		turned := c
		turned.Job, turned.Host = 7, "n1"
		wantNoText(t, turned)
	}
	for _, c := range []cmd.Command{submit(), full()} {
		for _, job := range []int{1, 7, -1, math.MaxInt} {
			turned := c
			turned.Job = job
			wantNoText(t, turned)
		}
		for _, list := range []string{"n1", " ", "x"} {
			turned := c
			turned.Host = list
			wantNoText(t, turned)
		}
	}
}

func TestRightOfNames(t *testing.T) {
	fields := map[string]func(c *cmd.Command) *string{
		"user": func(c *cmd.Command) *string { return &c.User },
		"part": func(c *cmd.Command) *string { return &c.Part },
		"qos":  func(c *cmd.Command) *string { return &c.Qos },
		"name": func(c *cmd.Command) *string { return &c.Name },
	}
	for key, field := range fields {
		for _, name := range append(valuesOf(key).may, valuesOf(key).mayNot...) {
			wantName(t, field, name)
		}
		for b := range 256 {
			c := string([]byte{byte(b)})
			wantName(t, field, c)
			wantName(t, field, c+"a")
			wantName(t, field, "a"+c)
			wantName(t, field, "a"+c+"a")
		}
		// Ones that would be read as more than themselves.
		for _, name := range []string{
			"a ", " a", "\ta", "a\t", "a nodes=2", "a time=0", "a run=0", "a req=none", "a dep=", "a qos=b", "a part=p", "a user=u", "u part=p", "p nodes=1", "a\tqos=b", "p req=none", "a name=b", strings.Repeat("a", 5000),
		} {
			wantName(t, field, name)
		}
	}
	// One that tells what another one does not.
	wantNoText(t, cmd.Command{Kind: cmd.Submit, User: "u part=p", Nodes: 1}, cmd.Command{Kind: cmd.Submit, Part: "p user=u", Nodes: 1},
		submit(func(c *cmd.Command) { c.Qos, c.Part = "q part=p", "" }), submit(func(c *cmd.Command) { c.User = "" }), submit(func(c *cmd.Command) { c.Part = "" }),
		cmd.Command{Kind: cmd.Submit, Nodes: 1}, cmd.Command{Kind: cmd.Submit})
}

// wantName holds what Right and Format answer of a submit with a name against whether it may be one.
func wantName(t *testing.T, field func(c *cmd.Command) *string, name string) {
	t.Helper()
	c := submit()
	// That a quality, or a name, is told by none is no fault.
	may := *field(&c) == "" && name == ""
	*field(&c) = name
	if may || aName.MatchString(name) {
		wantText(t, c, modelFormat(c))
	} else {
		wantNoText(t, c)
	}
}

func TestRightOfNumbers(t *testing.T) {
	for _, n := range []int{math.MinInt, -9999999, -257, -256, -2, -1, 0, 1, 2, 255, 256, 257, 1000000, 9999998, 9999999, 10000000, 10000001, 1 << 32, 1<<32 + 1, math.MaxInt} {
		for _, test := range []struct {
			field       func(c *cmd.Command) *int
			least, most int
		}{
			{func(c *cmd.Command) *int { return &c.Nodes }, 1, 256},
			{func(c *cmd.Command) *int { return &c.Time }, 0, 9999999},
			{func(c *cmd.Command) *int { return &c.Run }, 0, 9999999},
			{func(c *cmd.Command) *int { return &c.Req.Cpu }, 0, 1 << 30},
			{func(c *cmd.Command) *int { return &c.Req.Mem }, 0, 1 << 30},
			{func(c *cmd.Command) *int { return &c.Req.Gpu }, 0, 1 << 30},
		} {
			c := submit()
			*test.field(&c) = n
			if test.least <= n && n <= test.most {
				wantText(t, c, modelFormat(c))
			} else {
				wantNoText(t, c)
			}
		}
	}
	for _, n := range []int{1<<30 - 1, 1 << 30} {
		c := submit(func(c *cmd.Command) { c.Req = api.Vec{Cpu: n, Mem: n, Gpu: n} })
		wantText(t, c, modelFormat(c))
	}
	wantNoText(t, submit(func(c *cmd.Command) { c.Req.Gpu = 1<<30 + 1 }), submit(func(c *cmd.Command) { c.Req.Mem = 1<<30 + 1 }))
}

func TestRightOfJobs(t *testing.T) {
	for kind := cmd.Cancel; kind <= cmd.Requeue; kind++ {
		for _, job := range []int{1, 2, 9, 10, 99999, 100000, 999998, 999999} {
			wantText(t, ofJob(kind, job), firstWords[kind-1]+" "+strconv.Itoa(job))
		}
		for _, job := range []int{0, -1, -7, -999999, 1000000, 1000001, 9999999, 10000000, 1 << 32, math.MinInt, math.MaxInt} {
			wantNoText(t, ofJob(kind, job))
		}
	}
}

func TestRightOfLists(t *testing.T) {
	for _, kind := range []int{cmd.Drain, cmd.Resume} {
		for _, list := range []string{"n", "n1", "N.a-b_1", "7", "n[1-3,07-08],m", "n[0-255]", "a,a", "n[1,1]", strings.Repeat("n,", 255) + "n"} {
			wantText(t, ofHost(kind, list), firstWords[kind-1]+" "+list)
		}
		for _, list := range []string{"", " ", "\t", "n ", " n", "n m", "n\tm", "n1, n2", ",", "n,", "n[", "n[2-1]", "n[0-256]", "n[0-255],m", "n=1", "n\n", "\x00", "é"} {
			wantNoText(t, ofHost(kind, list))
		}
	}
}

func TestRightOfDependencies(t *testing.T) {
	of := func(anyOf bool, items ...dep.Item) cmd.Command {
		return submit(func(c *cmd.Command) { c.Dep = dep.Dep{Any: anyOf, Items: items} })
	}
	jobs := slices.Repeat([]int{7}, 32)
	items := slices.Repeat([]dep.Item{{Kind: dep.Singleton}}, 32)
	for _, c := range []cmd.Command{
		of(false, dep.Item{Kind: dep.After, Jobs: []int{1}}),
		of(false, dep.Item{Kind: dep.AfterNotOk, Jobs: []int{3, 1, 3}}, dep.Item{Kind: dep.After, Jobs: []int{999999}}),
		of(true, dep.Item{Kind: dep.AfterAny, Jobs: jobs}, dep.Item{Kind: dep.Singleton}),
		of(false, items...),
		of(true, items...),
	} {
		wantText(t, c, modelFormat(c))
	}
	wantNoText(t,
		// Of fewer than two no text tells that one of them is waited for.
		of(true), of(true, dep.Item{Kind: dep.Singleton}), of(true, dep.Item{Kind: dep.After, Jobs: []int{1}}),
		of(false, dep.Item{}), of(false, dep.Item{Kind: 6}), of(false, dep.Item{Kind: -1, Jobs: []int{1}}), of(false, dep.Item{Kind: math.MaxInt, Jobs: []int{1}}),
		of(false, dep.Item{Kind: dep.Singleton}, dep.Item{Kind: 0, Jobs: []int{1}}),
		of(false, dep.Item{Kind: dep.After}), of(false, dep.Item{Kind: dep.AfterOk, Jobs: []int{}}), of(false, dep.Item{Kind: dep.Singleton, Jobs: []int{1}}),
		of(false, dep.Item{Kind: dep.After, Jobs: []int{0}}), of(false, dep.Item{Kind: dep.After, Jobs: []int{-1}}), of(false, dep.Item{Kind: dep.After, Jobs: []int{1000000}}),
		of(false, dep.Item{Kind: dep.After, Jobs: []int{1, 0}}), of(false, dep.Item{Kind: dep.After, Jobs: []int{math.MinInt}}), of(false, dep.Item{Kind: dep.After, Jobs: []int{math.MaxInt}}),
		of(false, dep.Item{Kind: dep.After, Jobs: append(slices.Clone(jobs), 7)}), of(false, append(slices.Clone(items), items[0])...),
		of(false, dep.Item{Kind: dep.After, Jobs: slices.Repeat([]int{7}, 100000)}), of(true, slices.Repeat(items, 1000)...))
}

func TestRightOfArrays(t *testing.T) {
	of := func(limit int, indexes ...int) cmd.Command {
		return submit(func(c *cmd.Command) { c.Array = array.Array{Indexes: indexes, Limit: limit} })
	}
	var rising []int
	for i := range 257 {
		rising = append(rising, 3*i)
	}
	for _, c := range []cmd.Command{of(0), of(0, 0), of(1, 0), of(999999, 0, 999999), of(0, 1, 2, 3), of(7, 5, 10, 15, 16), of(0, rising[:256]...)} {
		wantText(t, c, modelFormat(c))
	}
	wantNoText(t, of(1), of(-1), of(999999), of(math.MinInt), of(-1, 0), of(1000000, 0), of(math.MaxInt, 0), of(0, -1), of(0, 1000000), of(0, math.MaxInt), of(0, math.MinInt, 0),
		of(0, 1, 1), of(0, 2, 1), of(0, 1, 2, 2), of(0, rising...), of(0, slices.Repeat([]int{1}, 100000)...))
}

// long is a submit whose own text has so many bytes, from 4050 on.
func long(size int) cmd.Command {
	c := submit()
	for range 17 {
		c.Dep.Items = append(c.Dep.Items, dep.Item{Kind: dep.AfterOk, Jobs: slices.Repeat([]int{123456}, 32)})
	}
	last := dep.Item{Kind: dep.After}
	digits := size - len(modelFormat(c)) - len(",after")
	for digits > 8 {
		last.Jobs = append(last.Jobs, 123456)
		digits -= 7
	}
	if digits == 8 {
		last.Jobs = append(last.Jobs, 123)
		digits -= 4
	}
	job, _ := strconv.Atoi("123456"[:digits-1])
	last.Jobs = append(last.Jobs, job)
	c.Dep.Items = append(c.Dep.Items, last)
	return c
}

func TestRightOfLongTexts(t *testing.T) {
	for size := mostBytes - 20; size <= mostBytes+20; size++ {
		c := long(size)
		list := ofHost(cmd.Drain, strings.Repeat("n", size-len("drain ")))
		for _, c := range []cmd.Command{c, list} {
			s := modelFormat(c)
			if len(s) != size {
				t.Fatalf("the text of %+v has %d bytes, want %d", c, len(s), size)
			}
			if size <= mostBytes {
				wantText(t, c, s)
			} else {
				wantNoText(t, c)
				wantError(t, api.ErrMany, s)
			}
		}
	}
	// What is parsed may have a text of its own that is longer than the one that it was parsed from.
	s := modelFormat(long(mostBytes-50)) + " array=0-300:3,1-301:6"
	c, err := cmd.Parse(s)
	if err != api.OK || len(c.Array.Indexes) != 152 {
		t.Errorf("Parse(%q) = %+v, %v", short(s), c, err)
	}
	wantNoText(t, c)
	c.Dep = dep.Dep{}
	wantText(t, c, modelFormat(c))
}

// randomSubmit is a submit that may be.
func randomSubmit(r *rand.Rand) cmd.Command {
	name := func() string {
		s := ""
		for range 1 + r.Intn(16) {
			s += string(nameBytes[r.Intn(len(nameBytes))])
		}
		return s
	}
	number := func(most int) int { return r.Intn(1 + r.Intn(most)) }
	c := cmd.Command{Kind: cmd.Submit, User: name(), Part: name(), Nodes: 1 + number(256)}
	for _, turn := range []func(){
		func() { c.Qos = name() },
		func() { c.Name = name() },
		func() { c.Time = number(10000000) },
		func() { c.Run = number(10000000) },
		func() { c.Nodes = 1 },
		func() { c.Req = api.Vec{Cpu: number(1 << 30), Mem: number(2), Gpu: number(3)} },
		func() { c.Dep = randomDep(r) },
		func() { c.Array = randomArray(r) },
	} {
		if r.Intn(2) == 0 {
			turn()
		}
	}
	return c
}

// randomDep is a dependency that a text tells.
func randomDep(r *rand.Rand) dep.Dep {
	var d dep.Dep
	for range 1 + r.Intn(5) {
		item := dep.Item{Kind: 1 + r.Intn(5)}
		if item.Kind != dep.Singleton {
			for range 1 + r.Intn(4) {
				item.Jobs = append(item.Jobs, 1+r.Intn(1+r.Intn(999999)))
			}
		}
		d.Items = append(d.Items, item)
	}
	d.Any = len(d.Items) > 1 && r.Intn(2) == 0
	return d
}

// randomArray is one that may be.
func randomArray(r *rand.Rand) array.Array {
	a := array.Array{Limit: r.Intn(2) * r.Intn(1000000)}
	index := r.Intn(100)
	for range 1 + r.Intn(20) {
		a.Indexes = append(a.Indexes, index)
		index += 1 + r.Intn(3)
	}
	return a
}

// random is a command that may be.
func random(r *rand.Rand) cmd.Command {
	switch kind := 1 + r.Intn(10); {
	case kind >= cmd.Queue:
		return cmd.Command{Kind: kind}
	case kind >= cmd.Drain:
		var names []string
		for range 1 + r.Intn(9) {
			names = append(names, "n"+strconv.Itoa(r.Intn(12)))
		}
		return ofHost(kind, host.Compress(names...))
	case kind >= cmd.Cancel:
		return ofJob(kind, 1+r.Intn(1+r.Intn(999999)))
	}
	return randomSubmit(r)
}

// P10.3: what is formatted is parsed.

func TestFormattedIsParsed(t *testing.T) {
	r := rand.New(rand.NewSource(3))
	for range 10000 {
		c := random(r)
		if r.Intn(2) == 0 {
			c = randomSubmit(r)
		}
		wantText(t, c, modelFormat(c))
	}
}

func TestRightAgainstItsModel(t *testing.T) {
	r := rand.New(rand.NewSource(4))
	names := []string{"", "a", name16, name17, "A", "a b", "a nodes=1", "n[1-3]", "n["}
	numbers := []int{math.MinInt, -1, 0, 1, 2, 256, 257, 999999, 1000000, 9999999, 10000000, 1 << 30, 1<<30 + 1, math.MaxInt}
	text := func(at *string) func() { return func() { *at = names[r.Intn(len(names))] } }
	number := func(at *int) func() { return func() { *at = numbers[r.Intn(len(numbers))] } }
	right := 0
	for range 40000 {
		c := random(r)
		if r.Intn(2) == 0 {
			c = randomSubmit(r)
		}
		turns := []func(){
			text(&c.User), text(&c.Part), text(&c.Qos), text(&c.Name), text(&c.Host),
			number(&c.Nodes), number(&c.Time), number(&c.Run), number(&c.Job), number(&c.Req.Cpu), number(&c.Req.Mem), number(&c.Req.Gpu), number(&c.Array.Limit),
			func() { c.Kind = r.Intn(13) - 1 },
			func() { c.Dep.Any = !c.Dep.Any },
			func() { c.Array.Indexes = append(c.Array.Indexes, numbers[r.Intn(len(numbers))]) },
			func() {
				c.Dep.Items = append(c.Dep.Items, dep.Item{Kind: r.Intn(7), Jobs: numbers[:r.Intn(2)*r.Intn(9)]})
			},
		}
		for range 1 + r.Intn(2) {
			turns[r.Intn(len(turns))]()
		}
		if modelRight(c) {
			right++
			wantText(t, c, modelFormat(c))
		} else {
			wantNoText(t, c)
		}
		if t.Failed() {
			return
		}
	}
	if right < 5000 {
		t.Errorf("of the commands only %d may be", right)
	}
}

// R4: what was handed in is not turned.

func TestFormatTurnsNothing(t *testing.T) {
	for _, c := range []cmd.Command{full(), long(mostBytes), long(mostBytes + 1), submit(func(c *cmd.Command) { c.Array.Indexes = []int{3, 2, 1, 1} })} {
		// There is room behind the lists, into which nothing is written.
		c.Dep.Items = slices.Grow(c.Dep.Items, 9)
		for i, item := range c.Dep.Items {
			c.Dep.Items[i].Jobs = slices.Grow(item.Jobs, 9)
		}
		c.Array.Indexes = slices.Grow(c.Array.Indexes, 9)
		whole := func() cmd.Command {
			w := c
			w.Dep.Items = slices.Clone(c.Dep.Items[:cap(c.Dep.Items)])
			for i, item := range w.Dep.Items {
				w.Dep.Items[i].Jobs = slices.Clone(item.Jobs[:cap(item.Jobs)])
			}
			w.Array.Indexes = slices.Clone(c.Array.Indexes[:cap(c.Array.Indexes)])
			return w
		}
		want := whole()
		first, err := cmd.Format(c)
		cmd.Right(c)
		cmd.Same(c, c)
		if got := whole(); !alike(got, want) {
			t.Errorf("Format, Right and Same made %+v of %+v", got, want)
		}
		// The same calls have the same answers.
		if s, again := cmd.Format(c); s != first || again != err {
			t.Errorf("Format(%+v) = %q, %v, and then %q, %v", c, short(first), err, short(s), again)
		}
	}
}
