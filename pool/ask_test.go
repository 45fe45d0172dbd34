package pool_test

import (
	"math"
	"slices"
	"testing"

	"marlinspike/api"
	"marlinspike/bits"
	"marlinspike/node"
)

// P12.2

// ofEach are two nodes of each state: 0 and 8 are Off, 1 and 9 Booting, and so on.
func ofEach() []node.Node {
	var nodes []node.Node
	for i := range 16 {
		nodes = append(nodes, node.Node{State: i % 8, Since: i, Tries: i / 3})
	}
	return nodes
}

func TestNode(t *testing.T) {
	b := bothAt(t, config(t, 16, 10, 5, 3), 20, ofEach()...)
	for i, want := range ofEach() {
		if got, err := b.p.Node(i); got != want || err != api.OK {
			t.Errorf("Node(%d) = %v, %v, want %v", i, got, err, want)
		}
	}
	for _, i := range slices.Concat(noNodes, []int{16, 17, 255}) {
		if got, err := b.p.Node(i); got != (node.Node{}) || err != api.ErrNone {
			t.Errorf("Node(%d) = %v, %v, want none, and ErrNone", i, got, err)
		}
	}
}

func TestNodeOfTheLastOne(t *testing.T) {
	for _, nodes := range []int{1, 64, 255, 256} {
		p := made(t, config(t, nodes, 10, 5, 3))
		if _, err := p.Node(nodes - 1); err != api.OK {
			t.Errorf("of %d nodes, Node(%d) = %v, want no error", nodes, nodes-1, err)
		}
		if _, err := p.Node(nodes); err != api.ErrNone {
			t.Errorf("of %d nodes, Node(%d) = %v, want ErrNone", nodes, nodes, err)
		}
	}
}

func TestIn(t *testing.T) {
	b := bothAt(t, config(t, 16, 10, 5, 3), 20, ofEach()...)
	for _, test := range []struct {
		states, want []int
	}{
		{nil, nil},
		{[]int{}, nil},
		{[]int{api.Off}, []int{0, 8}},
		{[]int{api.Booting}, []int{1, 9}},
		{[]int{api.Idle}, []int{2, 10}},
		{[]int{api.Busy}, []int{3, 11}},
		{[]int{api.Draining}, []int{4, 12}},
		{[]int{api.Drained}, []int{5, 13}},
		{[]int{api.Down}, []int{6, 14}},
		{[]int{api.Stopping}, []int{7, 15}},
		{[]int{api.Off, api.Down}, []int{0, 6, 8, 14}},
		{[]int{api.Down, api.Off}, []int{0, 6, 8, 14}},
		{[]int{api.Busy, api.Draining, api.Idle}, []int{2, 3, 4, 10, 11, 12}},
		// The same one twice, and more.
		{[]int{api.Idle, api.Idle}, []int{2, 10}},
		{[]int{api.Off, api.Idle, api.Off, api.Off, api.Idle}, []int{0, 2, 8, 10}},
		// Numbers that are no state.
		{noStates, nil},
		{[]int{-1}, nil},
		{[]int{8}, nil},
		{[]int{-1, api.Busy, 8}, []int{3, 11}},
		{[]int{math.MinInt, math.MaxInt, api.Stopping, 1 << 32}, []int{7, 15}},
		// All.
		{[]int{0, 1, 2, 3, 4, 5, 6, 7}, bits.List(bits.Span(0, 15))},
		{slices.Concat(noStates, states, noStates, states), bits.List(bits.Span(0, 15))},
	} {
		if got := b.p.In(test.states...); got != bits.Of(test.want...) {
			t.Errorf("In(%v) = %v, want %v", test.states, bits.List(got), test.want)
		}
	}
}

// Each set of states, as the model says.
func TestInOfEachSetOfStates(t *testing.T) {
	b := bothAt(t, config(t, 16, 10, 5, 3), 20, ofEach()...)
	for set := range 1 << 8 {
		var some []int
		for _, state := range states {
			if set>>state&1 == 1 {
				some = append(some, state)
			}
		}
		if got, want := b.p.In(some...), b.m.in(some...); got != want {
			t.Errorf("In(%v) = %v, want %v", some, bits.List(got), bits.List(want))
		}
	}
}

// A number of which only the lowest bits are a state's is none.
func TestInOfNumbersThatEndAsStatesDo(t *testing.T) {
	b := bothAt(t, config(t, 16, 10, 5, 3), 20, ofEach()...)
	for bit := 3; bit < 64; bit++ {
		for _, state := range states {
			if got := b.p.In(state + 1<<bit); got != (api.Nodes{}) {
				t.Errorf("In(%d) = %v, want none", state+1<<bit, bits.List(got))
			}
		}
	}
}

func TestFree(t *testing.T) {
	b := bothAt(t, config(t, 6, 10, 5, 3), 50,
		node.Node{State: api.Idle, Since: 10}, node.Node{State: api.Idle, Since: 20, Tries: 2}, node.Node{State: api.Idle},
		node.Node{State: api.Busy, Since: 10}, node.Node{State: api.Idle, Since: 50}, node.Node{State: api.Drained, Since: 10})
	for _, test := range []struct {
		since int
		want  []int
	}{
		{math.MinInt, nil},
		{-1, nil},
		{0, []int{2}},
		{1, []int{2}},
		{9, []int{2}},
		{10, []int{0, 2}},
		{11, []int{0, 2}},
		{19, []int{0, 2}},
		{20, []int{0, 1, 2}},
		{21, []int{0, 1, 2}},
		{49, []int{0, 1, 2}},
		{50, []int{0, 1, 2, 4}},
		{51, []int{0, 1, 2, 4}},
		{api.MaxTime + 1, []int{0, 1, 2, 4}},
		{math.MaxInt, []int{0, 1, 2, 4}},
	} {
		if got := b.p.Free(test.since); got != bits.Of(test.want...) {
			t.Errorf("Free(%d) = %v, want %v", test.since, bits.List(got), test.want)
		}
	}
}

func TestFreeOfEachState(t *testing.T) {
	b := bothAt(t, config(t, 16, 10, 5, 3), 20, ofEach()...)
	// Of the two that are Idle one is so since 2, and one since 10.
	for since := -2; since < 30; since++ {
		var want []int
		if since >= 2 {
			want = append(want, 2)
		}
		if since >= 10 {
			want = append(want, 10)
		}
		if got := b.p.Free(since); got != bits.Of(want...) {
			t.Errorf("Free(%d) = %v, want %v", since, bits.List(got), want)
		}
	}
}

// A node that was taken, and given back, is Idle since then.
func TestFreeBehindGive(t *testing.T) {
	b := bothOf(t, config(t, 1, 10, 5, 3))
	b.do(t, 0, powerOn, api.OK)
	b.do(t, 0, booted, api.OK)
	b.tick(t, 4)
	b.do(t, 0, take, api.OK)
	if got := b.p.Free(100); got != (api.Nodes{}) {
		t.Errorf("Free(100) = %v, want none while it is Busy", bits.List(got))
	}
	b.tick(t, 9)
	b.do(t, 0, give, api.OK)
	if b.p.Free(8) != (api.Nodes{}) || b.p.Free(9) != bits.Of(0) {
		t.Errorf("given back at 9: Free(8) = %v, Free(9) = %v", bits.List(b.p.Free(8)), bits.List(b.p.Free(9)))
	}
}

func TestPowered(t *testing.T) {
	powered := []int{api.Booting, api.Idle, api.Busy, api.Draining, api.Drained, api.Stopping}
	for _, state := range states {
		want := 0
		if slices.Contains(powered, state) {
			want = 1
		}
		for _, nodes := range []int{1, 2, 256} {
			all := slices.Repeat([]node.Node{{State: state}}, nodes)
			if got := loaded(t, config(t, nodes, 10, 5, 3), 0, all...).Powered(); got != want*nodes {
				t.Errorf("of %d nodes of state %d %d take power, want %d", nodes, state, got, want*nodes)
			}
		}
	}
	if got := loaded(t, config(t, 16, 10, 5, 3), 20, ofEach()...).Powered(); got != 12 {
		t.Errorf("Powered() = %d, want 12", got)
	}
}

func TestNow(t *testing.T) {
	b := bothOf(t, config(t, 1, 10, 5, 3))
	for _, now := range []int{0, 1, 5, 5, 1 << 32, api.MaxTime} {
		b.tick(t, now)
		if got := b.p.Now(); got != now {
			t.Errorf("Now() = %d, want %d", got, now)
		}
	}
}
