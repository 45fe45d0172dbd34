package conf_test

import (
	"math/rand"
	"strconv"
	"strings"
	"testing"

	"marlinspike/api"
	"marlinspike/bits"
	"marlinspike/conf"
	"marlinspike/host"
)

// P9.2: Node, Find, Quality and Set.

// wantNode holds what Node answers against a number and whether there is one.
func wantNode(t *testing.T, c conf.Config, name string, want int, there bool) {
	t.Helper()
	if i, ok := conf.Node(c, name); i != want || ok != there {
		t.Errorf("Node of %q = %d, %v, want %d, %v", short(name), i, ok, want, there)
	}
}

// wantFind holds what Find answers against a number and whether there is one.
func wantFind(t *testing.T, c conf.Config, name string, want int, there bool) {
	t.Helper()
	if i, ok := conf.Find(c, name); i != want || ok != there {
		t.Errorf("Find of %q = %d, %v, want %d, %v", short(name), i, ok, want, there)
	}
}

// wantQuality holds what Quality answers against a quality and whether there is one.
func wantQuality(t *testing.T, c conf.Config, name string, want conf.Qos, there bool) {
	t.Helper()
	if q, ok := conf.Quality(c, name); q != want || ok != there {
		t.Errorf("Quality of %q = %v, %v, want %v, %v", short(name), q, ok, want, there)
	}
}

// wantSet holds what Set answers against a set and an error.
func wantSet(t *testing.T, c conf.Config, list string, want api.Nodes, why api.Errno) {
	t.Helper()
	if s, err := conf.Set(c, list); s != want || err != why {
		t.Errorf("Set of %q = %v, %d, want %v, %d", short(list), bits.List(s), err, bits.List(want), why)
	}
}

func TestNode(t *testing.T) {
	c := small()
	for i, name := range c.Names {
		wantNode(t, c, name, i, true)
	}
	for _, name := range []string{"", "n", "n4", "N0", "n00", "n0 ", " n0", "0", "n0,n1", "n[0]", "n[0-3]", "p", "a", "\x00", strings.Repeat("n0", 1000)} {
		wantNode(t, c, name, 0, false)
		wantNode(t, conf.Config{}, name, 0, false)
	}
	// The first one of a name, and of an empty one, in a config that may not be.
	c.Names = []string{"m", "n", "m", "", "n", "", "n[1]"}
	wantNode(t, c, "m", 0, true)
	wantNode(t, c, "n", 1, true)
	wantNode(t, c, "", 3, true)
	wantNode(t, c, "n[1]", 6, true)
	wantNode(t, c, "n1", 0, false)
	// Nodes have numbers up to 255.
	c = untold(300)
	wantNode(t, c, "n254", 254, true)
	wantNode(t, c, "n255", 255, true)
	wantNode(t, c, "n256", 0, false)
	wantNode(t, c, "n299", 0, false)
	c.Vecs = nil
	wantNode(t, c, "n7", 7, true)
}

func TestFind(t *testing.T) {
	c := small()
	wantFind(t, c, "p", 0, true)
	wantFind(t, c, "q", 1, true)
	for _, name := range []string{"", "r", "P", "p ", "pq", "n0", "a", "b", "\x00"} {
		wantFind(t, c, name, 0, false)
		wantFind(t, conf.Config{}, name, 0, false)
	}
	c.Parts = []conf.Part{part("x", 1), part("y", 2), part("x", 3), {}, part("y", 0), {}, part("Z", 0)}
	wantFind(t, c, "x", 0, true)
	wantFind(t, c, "y", 1, true)
	wantFind(t, c, "", 3, true)
	wantFind(t, c, "Z", 6, true)
	c = with(sized(1, 16, 0))
	wantFind(t, c, "p0", 0, true)
	wantFind(t, c, "p15", 15, true)
	wantFind(t, c, "p16", 0, false)
}

func TestQuality(t *testing.T) {
	c := small()
	a, b := conf.Qos{Name: "a", Prio: 7, Max: 9}, conf.Qos{Name: "b", Prio: 1000, Max: 1}
	c.Qos = []conf.Qos{a, b}
	wantQuality(t, c, "a", a, true)
	wantQuality(t, c, "b", b, true)
	for _, name := range []string{"c", "A", "a ", "ab", "n0", "p", " ", "\x00"} {
		wantQuality(t, c, name, conf.Qos{}, false)
		wantQuality(t, conf.Config{}, name, conf.Qos{}, false)
	}
	// Of an empty name it is there always, and the same.
	empty := conf.Qos{Prio: 0, Max: 1024}
	wantQuality(t, c, "", empty, true)
	wantQuality(t, conf.Config{}, "", empty, true)
	c.Qos = []conf.Qos{b, a, {Name: "a", Max: 5}, {Name: "", Prio: 3, Max: 4}, {Name: "b"}, {Name: "C", Prio: -1, Max: -2}}
	wantQuality(t, c, "a", a, true)
	wantQuality(t, c, "b", b, true)
	wantQuality(t, c, "", empty, true)
	wantQuality(t, c, "C", conf.Qos{Name: "C", Prio: -1, Max: -2}, true)
}

func TestSet(t *testing.T) {
	c := small()
	for list, want := range map[string]api.Nodes{
		"":                                {},
		"n0":                              bits.Of(0),
		"n3":                              bits.Of(3),
		"n[0-3]":                          bits.Of(0, 1, 2, 3),
		"n3,n1":                           bits.Of(1, 3),
		"n[2-3],n[0]":                     bits.Of(0, 2, 3),
		"n2,n2":                           bits.Of(2),
		"n[0-2],n[1-3],n[2]":              bits.Of(0, 1, 2, 3),
		"n[0,0,0,3]":                      bits.Of(0, 3),
		strings.Repeat("n1,", 255) + "n2": bits.Of(1, 2),
	} {
		wantSet(t, c, list, want, api.OK)
	}
	// Of as many as there may be.
	c = untold(256)
	wantSet(t, c, "n[0-255]", bits.Span(0, 255), api.OK)
	wantSet(t, c, "n[63-64],n[127-128],n[191-192],n255", bits.Of(63, 64, 127, 128, 191, 192, 255), api.OK)
	// Of none.
	wantSet(t, conf.Config{}, "", bits.Of(), api.OK)
}

func TestSetOfNamesThatAreNoNodes(t *testing.T) {
	for _, list := range []string{"m", "n4", "n", "n[0-4]", "n[3-4]", "n00", "n[00-03]", "n0,m", "m,n0", "n0,n1,N2", "p", node33, "n[0-254],m"} {
		wantSet(t, small(), list, bits.Of(), api.ErrNone)
		wantSet(t, conf.Config{}, list, bits.Of(), api.ErrNone)
	}
	wantSet(t, untold(256), "n[1-256]", bits.Of(), api.ErrNone)
}

func TestSetOfListsThatMayNotBe(t *testing.T) {
	// Whatever else is wrong.
	for _, list := range []string{",", "n0,", ",n0", "n[", "n[0", "n[3-0]", "n[0]x", " ", "n0 ", " n0", "n0 n1", "n0\n", "#", "m,", "m[0-256]", "n[0-255],n0", strings.Repeat("n1,", 256) + "n1", strings.Repeat("n1,", 1<<16)} {
		wantSet(t, small(), list, bits.Of(), api.ErrForm)
		wantSet(t, untold(256), list, bits.Of(), api.ErrForm)
		wantSet(t, conf.Config{}, list, bits.Of(), api.ErrForm)
	}
}

func TestSetOfAConfigThatMayNotBe(t *testing.T) {
	// The first one of a name.
	c := small()
	c.Names = []string{"m", "n", "m", "", "n", "l"}
	wantSet(t, c, "m", bits.Of(0), api.OK)
	wantSet(t, c, "n,m", bits.Of(0, 1), api.OK)
	wantSet(t, c, "l,n", bits.Of(1, 5), api.OK)
	wantSet(t, c, "", bits.Of(), api.OK)
	// Nodes have numbers up to 255.
	c = untold(300)
	wantSet(t, c, "n[0-255]", bits.Span(0, 255), api.OK)
	wantSet(t, c, "n[200-256]", bits.Of(), api.ErrNone)
	wantSet(t, c, "n299", bits.Of(), api.ErrNone)
}

// P9.4.

func TestEachNameOfAListIsANodeOfItsSet(t *testing.T) {
	r := rand.New(rand.NewSource(4))
	held := 0
	for i := range 10000 {
		c := untold(1 + r.Intn(300))
		if i%2 == 0 {
			r.Shuffle(len(c.Names), func(i, j int) { c.Names[i], c.Names[j] = c.Names[j], c.Names[i] })
		}
		list := someList(r, "n", "n", "n", pick(r, "n", "m"))
		s, err := conf.Set(c, list)
		if err != api.OK {
			continue
		}
		held++
		want := map[int]struct{}{}
		names, _ := host.Expand(list)
		for _, name := range names {
			i, ok := conf.Node(c, name)
			if !ok || c.Names[i] != name || !bits.Has(s, i) {
				t.Fatalf("Set(%v, %q) = %v, without %q", c.Names, list, bits.List(s), name)
			}
			want[i] = struct{}{}
		}
		// No other node is.
		if bits.Count(s) != len(want) {
			t.Fatalf("Set(%v, %q) = %v, want %v", c.Names, list, bits.List(s), want)
		}
	}
	if held < 1000 {
		t.Errorf("there were %d lists of nodes", held)
	}
}

func TestEachPartitionHasTheNodesOfItsList(t *testing.T) {
	r := rand.New(rand.NewSource(5))
	held := 0
	for range 5000 {
		list := someList(r, "n")
		c, f := conf.Parse("node n[0-" + strconv.Itoa(30+r.Intn(226)) + "] none\npart p " + list)
		if f != noFault {
			continue
		}
		held++
		wantSet(t, c, list, c.Parts[0].Nodes, api.OK)
	}
	if held < 1000 {
		t.Errorf("there were %d partitions", held)
	}
}
