package conf_test

import (
	"math"
	"math/rand"
	"strconv"
	"strings"
	"testing"

	"marlinspike/api"
	"marlinspike/bits"
	"marlinspike/conf"
)

// P9.2: Right.

// The patterns of what each kind of thing may be called.
var modelNames = map[string]func(string) bool{"node": aNodeName.MatchString, "part": aName.MatchString, "qos": aName.MatchString}

// modelRight tells whether a config may be.
func modelRight(c conf.Config) bool {
	names := map[string][]string{"node": c.Names}
	numbers := []int{len(c.Names), 1, 256, len(c.Vecs), len(c.Names), len(c.Names), len(c.Parts), 1, 16, len(c.Qos), 0, 16, c.Min, 0, c.Cap}
	hold := func(n int, b bound) { numbers = append(numbers, n, b.least, b.most) }
	for _, v := range c.Vecs {
		numbers = append(numbers, v.Cpu, 0, 1<<30, v.Mem, 0, 1<<30, v.Gpu, 0, 1<<30)
	}
	for _, p := range c.Parts {
		names["part"] = append(names["part"], p.Name)
		hold(p.Max, partBounds["max"])
		hold(p.Time, partBounds["time"])
		hold(p.Prio, partBounds["prio"])
		last := -1
		for i := range 256 {
			if p.Nodes[i/64]>>(i%64)&1 == 1 {
				last = i
			}
		}
		numbers = append(numbers, last, 0, len(c.Names)-1)
	}
	for _, q := range c.Qos {
		names["qos"] = append(names["qos"], q.Name)
		hold(q.Max, qosBounds["max"])
		hold(q.Prio, qosBounds["prio"])
	}
	for key, b := range setBounds {
		hold(*value(&c, key), b)
	}
	for i := 0; i < len(numbers); i += 3 {
		if numbers[i] < numbers[i+1] || numbers[i] > numbers[i+2] {
			return false
		}
	}
	for kind, l := range names {
		count := map[string]int{}
		for _, name := range l {
			count[name]++
			if count[name] > 1 || !modelNames[kind](name) {
				return false
			}
		}
	}
	return true
}

// turn is something that is done to a config.
type turn = func(c *conf.Config)

// wantRight hold what Right answers of small configs, each turned, and the model, against an answer.
func wantRight(t *testing.T, want bool, turns ...turn) {
	t.Helper()
	for i, turn := range turns {
		c := with(turn)
		tells := short(strings.Join(c.Names, " "))
		if got := conf.Right(c); got != want {
			t.Errorf("Right of turn %d (%s, %v, %v) = %v", i, tells, c.Parts, c.Qos, got)
		}
		if got := modelRight(c); got != want {
			t.Errorf("the model of Right of turn %d (%s, %v, %v) = %v", i, tells, c.Parts, c.Qos, got)
		}
	}
}

// These give a name to the first one of a small config; the others are n1, n2 and n3, q, and b.
func nodeNamed(name string) turn { return func(c *conf.Config) { c.Names[0] = name } }
func partNamed(name string) turn { return func(c *conf.Config) { c.Parts[0].Name = name } }
func qosNamed(name string) turn  { return func(c *conf.Config) { c.Qos[0].Name = name } }

// has gives the last node a vector, and on the last partition nodes.
func has(v api.Vec) turn  { return func(c *conf.Config) { c.Vecs[3] = v } }
func on(s api.Nodes) turn { return func(c *conf.Config) { c.Parts[1].Nodes = s } }

// sized is a turn to so many nodes, partitions and qualities.
func sized(nodes, parts, quals int) turn {
	return func(c *conf.Config) {
		*c = untold(nodes)
		for i := range parts {
			c.Parts = append(c.Parts, part("p"+strconv.Itoa(i), 0))
		}
		for i := range quals {
			c.Qos = append(c.Qos, qos("q"+strconv.Itoa(i)))
		}
	}
}

func TestRight(t *testing.T) {
	wantRight(t, true,
		func(c *conf.Config) {},
		func(c *conf.Config) { c.Qos = nil },
		func(c *conf.Config) { c.Qos = []conf.Qos{} },
		func(c *conf.Config) { c.Parts = c.Parts[:1] },
		func(c *conf.Config) { *c, _ = conf.Parse(base) },
	)
	wantRight(t, false,
		func(c *conf.Config) { *c = conf.Config{} },
		func(c *conf.Config) { c.Names = nil },
		func(c *conf.Config) { c.Vecs = nil },
		func(c *conf.Config) { c.Names, c.Vecs = nil, nil },
		func(c *conf.Config) { c.Names, c.Vecs, c.Parts = nil, nil, nil },
		func(c *conf.Config) { c.Parts = nil },
		func(c *conf.Config) { c.Parts = []conf.Part{} },
	)
	// A node without a vector, and a vector without a node.
	wantRight(t, false,
		func(c *conf.Config) { c.Vecs = c.Vecs[:3] },
		func(c *conf.Config) { c.Vecs = append(c.Vecs, api.Vec{}) },
		func(c *conf.Config) { c.Names = append(c.Names, "m") },
		func(c *conf.Config) {
			c.Names, c.Parts = c.Names[:3], c.Parts[:1]
			c.Parts[0].Nodes = bits.Of(0)
		},
	)
}

func TestRightOfHowMany(t *testing.T) {
	wantRight(t, true, sized(1, 1, 0), sized(1, 1, 1), sized(256, 1, 0), sized(255, 15, 15), sized(256, 16, 16), sized(1, 16, 16))
	wantRight(t, false,
		sized(0, 0, 0), sized(0, 1, 0), sized(1, 0, 0), sized(256, 0, 16), sized(257, 1, 0), sized(257, 16, 16), sized(300, 1, 1), sized(512, 1, 1), sized(100000, 1, 1),
		sized(1, 17, 0), sized(256, 17, 16), sized(1, 1000, 0), sized(1, 1, 17), sized(256, 16, 17), sized(1, 1, 1000),
	)
}

func TestRightOfNames(t *testing.T) {
	const names, others = "abcdefghijklmnopqrstuvwxyz0123456789-_", "ABCDEFGHIJKLMNOPQRSTUVWXYZ."
	for c := range 256 {
		b := string([]byte{byte(c)})
		may := strings.Contains(names, b)
		for _, name := range []string{b + "z", "z" + b, "z" + b + "z", b + b} {
			wantRight(t, may, partNamed(name), qosNamed(name))
			wantRight(t, may || strings.Contains(others, b), nodeNamed(name))
		}
	}
	for _, name := range []string{"z", "7", "-", "_", "n0", name16} {
		wantRight(t, true, nodeNamed(name), partNamed(name), qosNamed(name))
	}
	for _, name := range []string{"", " ", "z ", " z", "z\n", "\x00", "\u00e9", "\xff", "z,y", "z,", ",z", "z[1]", "z[1-2]", "z[", "]", "z=1", strings.Repeat("z", 33), strings.Repeat("z", 1<<20), strings.Repeat("z,", 1<<10)} {
		wantRight(t, false, nodeNamed(name), partNamed(name), qosNamed(name))
	}
	wantRight(t, true, nodeNamed(name17), nodeNamed(node32), nodeNamed("N0.x"), nodeNamed("."), nodeNamed("n07"), nodeNamed("1234567890123456789"), nodeNamed(strings.Repeat("9", 32)), nodeNamed("p"))
	wantRight(t, false, partNamed(name17), qosNamed(name17), partNamed(node32), qosNamed(node32), partNamed("."), qosNamed("N"), nodeNamed(node33), nodeNamed(node32+"[1]"), nodeNamed("n[1]"), nodeNamed("z[00001]"))
	// Any of them, and not the first one alone.
	wantRight(t, false,
		func(c *conf.Config) { c.Names[3] = "" },
		func(c *conf.Config) { c.Parts[1].Name = "" },
		func(c *conf.Config) { c.Qos[1].Name = "" },
	)
}

func TestRightOfTwoOfAName(t *testing.T) {
	wantRight(t, false,
		nodeNamed("n1"), nodeNamed("n3"), partNamed("q"), qosNamed("b"),
		func(c *conf.Config) { c.Names[3] = "n2" },
		func(c *conf.Config) { c.Parts = append(c.Parts, c.Parts[0]) },
		func(c *conf.Config) { c.Parts = append(c.Parts, part("q", 0)) },
		func(c *conf.Config) { c.Qos = append(c.Qos, c.Qos[0]) },
		func(c *conf.Config) { c.Qos = append(c.Qos, conf.Qos{Name: "b", Prio: 1, Max: 1}) },
		func(c *conf.Config) { sized(256, 1, 0)(c); c.Names[255] = "n0" },
		func(c *conf.Config) { sized(1, 16, 0)(c); c.Parts[15].Name = "p0" },
		func(c *conf.Config) { sized(1, 1, 16)(c); c.Qos[15].Name = "q14" },
	)
	// One of each kind is no two.
	wantRight(t, true, partNamed("b"), partNamed("n1"), qosNamed("q"), qosNamed("n1"), nodeNamed("q"), nodeNamed("b"), nodeNamed("N1"), nodeNamed("n01"))
}

func TestRightOfVectors(t *testing.T) {
	const top = 1 << 30
	wantRight(t, true, has(api.Vec{}), has(api.Vec{Cpu: top}), has(api.Vec{Mem: top}), has(api.Vec{Gpu: top}), has(api.Vec{Cpu: top, Mem: top, Gpu: top}), has(api.Vec{Cpu: 1, Mem: 2, Gpu: 3}))
	for _, n := range []int{-1, top + 1, math.MinInt, math.MaxInt, 1 << 32} {
		wantRight(t, false, has(api.Vec{Cpu: n}), has(api.Vec{Mem: n}), has(api.Vec{Gpu: n}), func(c *conf.Config) { c.Vecs[0].Mem = n })
	}
}

func TestRightOfPartitionsNodes(t *testing.T) {
	wantRight(t, true, on(bits.Of(0)), on(bits.Of(3)), on(bits.Of(0, 1, 2, 3)), on(bits.Of(0, 3)))
	wantRight(t, false,
		on(bits.Of()), on(bits.Of(4)), on(bits.Of(3, 4)), on(bits.Of(255)), on(bits.Of(0, 255)), on(bits.Span(0, 4)), on(bits.Span(0, 255)), on(bits.Of(64)), on(bits.Of(0, 1, 2, 3, 64)), on(bits.Of(0, 128)), on(bits.Of(1, 192)),
		func(c *conf.Config) { c.Parts[0].Nodes = bits.Of() },
		func(c *conf.Config) { c.Parts[0].Nodes = bits.Of(1, 5) },
	)
	for _, count := range []int{1, 63, 64, 65, 128, 255, 256} {
		of := func(s api.Nodes) turn {
			return func(c *conf.Config) {
				sized(count, 2, 0)(c)
				c.Parts[1].Nodes = s
			}
		}
		wantRight(t, true, of(bits.Span(0, count-1)), of(bits.Of(count-1)))
		if count < 256 {
			wantRight(t, false, of(bits.Span(0, count)), of(bits.Of(count)), of(bits.Of(0, 255)))
		}
	}
}

// wantRightOf hold what Right answers of a number, as it is put into a small config, against its bound.
func wantRightOf(t *testing.T, b bound, put func(c *conf.Config, n int)) {
	t.Helper()
	for _, n := range []int{math.MinInt, -most, -1, 0, 1, 2, 255, 256, 257, 999, 1000, 1001, 1023, 1024, 1025, most - 1, most, most + 1, 9999999, math.MaxInt} {
		wantRight(t, b.least <= n && n <= b.most, func(c *conf.Config) { put(c, n) })
	}
}

func TestRightOfNumbers(t *testing.T) {
	for key, b := range setBounds {
		if key == "min" {
			// The small config's cap.
			b.most = 256
		}
		wantRightOf(t, b, func(c *conf.Config, n int) { *value(c, key) = n })
	}
	for i := range 2 {
		wantRightOf(t, partBounds["max"], func(c *conf.Config, n int) { c.Parts[i].Max = n })
		wantRightOf(t, partBounds["time"], func(c *conf.Config, n int) { c.Parts[i].Time = n })
		wantRightOf(t, partBounds["prio"], func(c *conf.Config, n int) { c.Parts[i].Prio = n })
		wantRightOf(t, qosBounds["max"], func(c *conf.Config, n int) { c.Qos[i].Max = n })
		wantRightOf(t, qosBounds["prio"], func(c *conf.Config, n int) { c.Qos[i].Prio = n })
	}
}

func TestRightOfMinAndCap(t *testing.T) {
	set := func(min, cap int) turn {
		return func(c *conf.Config) { c.Min, c.Cap = min, cap }
	}
	wantRight(t, true, set(0, 1), set(1, 1), set(1, 2), set(255, 256), set(256, 256), set(0, 256), set(7, 7))
	wantRight(t, false, set(2, 1), set(256, 255), set(257, 256), set(257, 257), set(1, 0), set(0, 0), set(-1, 1), set(8, 7), set(most, 256), set(-2, -1))
}

// turns are many that may be done to a small config, some of them wrong.
func turns() []turn {
	l := []turn{
		nodeNamed("z"), nodeNamed("n1"), nodeNamed(""), nodeNamed(node33), partNamed("z"), partNamed("q"), partNamed("Z"), qosNamed("z"), qosNamed("b"), qosNamed(name17),
		has(api.Vec{Mem: 7}), has(api.Vec{Gpu: -1}), on(bits.Of(2)), on(bits.Of()), on(bits.Of(4)),
		nodes(api.Vec{}, "m"),
		func(c *conf.Config) { c.Names = append(c.Names, "m") },
		func(c *conf.Config) { c.Parts = append(c.Parts, part("r", 0)) },
		func(c *conf.Config) { c.Qos = append(c.Qos, qos("c")) },
	}
	for key := range setBounds {
		l = append(l, func(c *conf.Config) { *value(c, key)++ }, func(c *conf.Config) { *value(c, key) = 1 }, func(c *conf.Config) { *value(c, key) = -1 })
	}
	return l
}

func TestRightAsTheModel(t *testing.T) {
	r := rand.New(rand.NewSource(2))
	seen := map[bool]int{}
	for range 20000 {
		c := small()
		for range r.Intn(4) {
			pick(r, turns()...)(&c)
		}
		want := modelRight(c)
		seen[want]++
		if got := conf.Right(c); got != want {
			t.Fatalf("Right(%v) = %v", c, got)
		}
	}
	if seen[true] < 3000 || seen[false] < 3000 {
		t.Errorf("the answers were %v", seen)
	}
}
