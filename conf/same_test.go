package conf_test

import (
	"math"
	"strings"
	"testing"

	"marlinspike/api"
	"marlinspike/bits"
	"marlinspike/conf"
)

// P9.2: Same.

// wantSame holds what Same answers, both ways round, against an answer.
func wantSame(t *testing.T, a, b conf.Config, want bool) {
	t.Helper()
	if conf.Same(a, b) != want || conf.Same(b, a) != want {
		t.Errorf("Same(%v, %v) = %v, %v, want %v", a, b, conf.Same(a, b), conf.Same(b, a), want)
	}
}

// differences are turns of a small config, none of which makes the same as another one.
func differences() []turn {
	l := []turn{
		func(c *conf.Config) {},
		func(c *conf.Config) { *c = conf.Config{} },
		// The nodes.
		func(c *conf.Config) { c.Names[0] = "m" },
		func(c *conf.Config) { c.Names[3] = "m" },
		func(c *conf.Config) { c.Names[3] = "N3" },
		func(c *conf.Config) { c.Names[0], c.Names[1] = c.Names[1], c.Names[0] },
		func(c *conf.Config) { c.Names = c.Names[:3] },
		func(c *conf.Config) { c.Names = append(c.Names, "") },
		func(c *conf.Config) { c.Names = nil },
		func(c *conf.Config) { c.Vecs[0].Cpu = 2 },
		func(c *conf.Config) { c.Vecs[3].Cpu = 2 },
		func(c *conf.Config) { c.Vecs[3].Mem = 2 },
		func(c *conf.Config) { c.Vecs[3].Gpu = 2 },
		func(c *conf.Config) { c.Vecs = c.Vecs[:3] },
		func(c *conf.Config) { c.Vecs = append(c.Vecs, api.Vec{}) },
		func(c *conf.Config) { c.Vecs = nil },
		// The partitions.
		func(c *conf.Config) { c.Parts[0].Name = "r" },
		func(c *conf.Config) { c.Parts[1].Name = "r" },
		func(c *conf.Config) { c.Parts[1].Nodes = bits.Of(1) },
		func(c *conf.Config) { c.Parts[1].Nodes = bits.Of(1, 3, 64) },
		func(c *conf.Config) { c.Parts[1].Nodes = bits.Of(1, 3, 255) },
		func(c *conf.Config) { c.Parts[1].Max = 2 },
		func(c *conf.Config) { c.Parts[1].Time = 2 },
		func(c *conf.Config) { c.Parts[1].Prio = 2 },
		func(c *conf.Config) { c.Parts[0].Prio = 2 },
		func(c *conf.Config) { c.Parts[0], c.Parts[1] = c.Parts[1], c.Parts[0] },
		func(c *conf.Config) { c.Parts = c.Parts[:1] },
		func(c *conf.Config) { c.Parts = append(c.Parts, conf.Part{}) },
		func(c *conf.Config) { c.Parts = nil },
		// The qualities.
		func(c *conf.Config) { c.Qos[0].Name = "c" },
		func(c *conf.Config) { c.Qos[1].Name = "c" },
		func(c *conf.Config) { c.Qos[1].Prio = 2 },
		func(c *conf.Config) { c.Qos[1].Max = 2 },
		func(c *conf.Config) { c.Qos[0].Max = 2 },
		func(c *conf.Config) { c.Qos[0], c.Qos[1] = c.Qos[1], c.Qos[0] },
		func(c *conf.Config) { c.Qos = c.Qos[:1] },
		func(c *conf.Config) { c.Qos = append(c.Qos, conf.Qos{}) },
		func(c *conf.Config) { c.Qos = nil },
		// Values that are swapped.
		func(c *conf.Config) { c.Boot, c.Stop = c.Stop, c.Boot },
	}
	for key := range setBounds {
		l = append(l, func(c *conf.Config) { *value(c, key) = 77 }, func(c *conf.Config) { *value(c, key) = math.MinInt })
	}
	return l
}

func TestSame(t *testing.T) {
	all := differences()
	for i, one := range all {
		for j, other := range all {
			wantSame(t, with(one), with(other), i == j)
		}
		wantSame(t, with(one), clone(with(one)), true)
	}
}

func TestSameOfListsThatAreNil(t *testing.T) {
	empty := conf.Config{Names: []string{}, Vecs: []api.Vec{}, Parts: []conf.Part{}, Qos: []conf.Qos{}}
	wantSame(t, conf.Config{}, conf.Config{}, true)
	wantSame(t, conf.Config{}, empty, true)
	wantSame(t, empty, empty, true)
	wantSame(t, small(), empty, false)
	without := with(func(c *conf.Config) { c.Qos = nil })
	wantSame(t, without, with(func(c *conf.Config) { c.Qos = []conf.Qos{} }), true)
	wantSame(t, without, with(func(c *conf.Config) { c.Qos = c.Qos[:0] }), true)
	// Room behind a list is none of it.
	c, _ := roomy()
	wantSame(t, small(), c, true)
}

func TestSameOfParsedTexts(t *testing.T) {
	one, _ := conf.Parse(base)
	// Written another way.
	for _, s := range []string{
		base + "set cap 256",
		"set boot 012\nnode n0,n[1-2],n3 cpu=4\npart p n3,n[0-2] prio=0 time=1000000 max=256 # all\nqos a max=9 prio=07\npart q n3,n1 prio=5 max=02 time=30",
	} {
		other, f := conf.Parse(s)
		if f != noFault {
			t.Errorf("Parse(%q) has the fault %v", s, f)
		}
		wantSame(t, one, other, true)
	}
	for _, s := range []string{base + "set cap 255", base + "qos b", base + "part r n0", base + "node m none", strings.Replace(base, "max=2", "max=3", 1)} {
		other, f := conf.Parse(s)
		if f != noFault {
			t.Errorf("Parse(%q) has the fault %v", s, f)
		}
		wantSame(t, one, other, false)
	}
}

// R1: no call panics, whatever it is handed.

func TestNoCallPanics(t *testing.T) {
	all := append(turns(), differences()...)
	all = append(all, func(c *conf.Config) { c.Vecs = c.Vecs[:1] }, sized(0, 0, 0), sized(0, 16, 16), sized(257, 17, 17), sized(100000, 1, 1))
	texts := []string{"", "n0", "n[0-3]", "n[", ",", "\x00", "\xff", "n[0-999999]", strings.Repeat("[", 1000), strings.Repeat("n0,", 1000), base}
	for _, turn := range all {
		c := with(turn)
		conf.Right(c)
		conf.Same(c, small())
		conf.Same(conf.Config{}, c)
		for _, s := range texts {
			conf.Node(c, s)
			conf.Find(c, s)
			conf.Quality(c, s)
			conf.Set(c, s)
		}
	}
	for _, s := range texts {
		conf.Parse(s)
	}
}

// R4: what is handed in is neither written into nor kept.

// roomy is a small config whose lists have room behind them, and one with all of that room.
func roomy() (conf.Config, conf.Config) {
	whole := with(func(c *conf.Config) {
		nodes(api.Vec{Mem: 77}, "x", "y", "z")(c)
		c.Parts = append(c.Parts, part("x", 0), part("y", 0))
		c.Qos = append(c.Qos, qos("x"), qos("y"))
	})
	c := whole
	c.Names, c.Vecs, c.Parts, c.Qos = c.Names[:4], c.Vecs[:4], c.Parts[:2], c.Qos[:2]
	return c, whole
}

// scrawl writes over a config's lists, and over all the room behind them.
func scrawl(c conf.Config) {
	names, vecs, parts, quals := c.Names[:cap(c.Names)], c.Vecs[:cap(c.Vecs)], c.Parts[:cap(c.Parts)], c.Qos[:cap(c.Qos)]
	for i := range names {
		names[i] = "scrawl"
	}
	for i := range vecs {
		vecs[i] = api.Vec{Cpu: -77}
	}
	for i := range parts {
		parts[i] = conf.Part{Name: "scrawl", Nodes: bits.Of(77)}
	}
	for i := range quals {
		quals[i] = conf.Qos{Name: "scrawl", Prio: -77}
	}
}

func TestWhatIsHandedInStays(t *testing.T) {
	c, whole := roomy()
	was := clone(whole)
	for _, name := range []string{"", "n1", "x", "p", "a", "n[0-3]", "n[0-4]", "n["} {
		conf.Node(c, name)
		conf.Find(c, name)
		conf.Quality(c, name)
		conf.Set(c, name)
	}
	conf.Right(c)
	conf.Same(c, whole)
	conf.Same(whole, c)
	conf.Same(c, conf.Config{})
	c.Min = 300
	conf.Right(c)
	if !alike(whole, was) {
		t.Errorf("what was handed in is now %v, was %v", whole, was)
	}
}

func TestAnswersDoNotTurnWithTheCallersConfig(t *testing.T) {
	c := small()
	q, _ := conf.Quality(c, "b")
	s, _ := conf.Set(c, "n[1-2]")
	scrawl(c)
	if q != qos("b") || s != bits.Of(1, 2) {
		t.Errorf("what was answered is now %v, %v", q, s)
	}
}

// R3: the same calls have the same answers.
func TestTheSameCallsHaveTheSameAnswers(t *testing.T) {
	c, _ := conf.Parse(base)
	for range 3 {
		wantNode(t, c, "n2", 2, true)
		wantFind(t, c, "q", 1, true)
		wantQuality(t, c, "a", conf.Qos{Name: "a", Prio: 7, Max: 9}, true)
		wantSet(t, c, "n[1-2]", bits.Of(1, 2), api.OK)
		wantSame(t, c, small(), false)
		wantSame(t, c, clone(c), true)
		wantRight(t, true, func(c *conf.Config) {})
	}
}
