package pool_test

import (
	"math"
	"testing"

	"marlinspike/api"
	"marlinspike/bits"
	"marlinspike/node"
)

// P12.1: Tick

func TestTickOfTimes(t *testing.T) {
	b := bothOf(t, config(t, 2, 10, 5, 3))
	b.noTick(t, -1)
	b.noTick(t, math.MinInt)
	b.noTick(t, api.MaxTime+1)
	b.noTick(t, math.MaxInt)
	b.tick(t, 0)
	b.tick(t, 7)
	b.noTick(t, 6)
	b.noTick(t, 0)
	b.noTick(t, -1)
	b.noTick(t, -7)
	b.noTick(t, math.MinInt+1)
	b.tick(t, 7)
	b.tick(t, 8)
	b.tick(t, 1<<32)
	b.noTick(t, 8)
	b.noTick(t, 1<<32-1)
	b.tick(t, api.MaxTime-1)
	b.noTick(t, api.MaxTime+1)
	b.tick(t, api.MaxTime)
	b.noTick(t, api.MaxTime+1)
	b.noTick(t, api.MaxTime-1)
	b.noTick(t, 2*api.MaxTime)
	b.noTick(t, math.MaxInt)
	b.tick(t, api.MaxTime)
}

// A tick that is refused, though a node would be late by then, brings no event.
func TestTickThatIsRefusedBringsNothing(t *testing.T) {
	b := bothAt(t, config(t, 3, 1, 1, 3), api.MaxTime, node.Node{State: api.Booting}, node.Node{State: api.Stopping}, node.Node{})
	b.noTick(t, api.MaxTime+1)
	b.noTick(t, api.MaxTime-1)
	b.noTick(t, -1)
	b.tick(t, api.MaxTime, 0, 1)
}

func TestTickOfNodesThatBoot(t *testing.T) {
	for _, boot := range []int{1, 2, 10, 1000, mostValue - 1, mostValue} {
		for _, since := range []int{0, 5, 1 << 32, api.MaxTime - 2*boot - 1} {
			b := bothOf(t, config(t, 3, boot, 5, 3))
			b.tick(t, since)
			b.do(t, 1, powerOn, api.OK)
			b.tick(t, since)
			b.tick(t, since+boot)
			// One tick less than twice boot, just that, and one more.
			b.tick(t, since+2*boot-1)
			b.tick(t, since+2*boot)
			b.tick(t, since+2*boot+1, 1)
			if got, _ := b.p.Node(1); got != (node.Node{State: api.Off, Since: since + 2*boot + 1, Tries: 1}) {
				t.Errorf("with boot %d, powered on at %d: %v, want it Off", boot, since, got)
			}
			// Once alone.
			b.tick(t, since+2*boot+1)
			b.tick(t, api.MaxTime)
		}
	}
}

func TestTickOfNodesThatAreFarTooLate(t *testing.T) {
	for _, boot := range []int{1, 10, mostValue} {
		b := bothOf(t, config(t, 2, boot, 5, 3))
		b.do(t, 0, powerOn, api.OK)
		b.tick(t, api.MaxTime, 0)
	}
}

func TestTickOfNodesThatHaveBooted(t *testing.T) {
	b := bothOf(t, config(t, 2, 10, 5, 3))
	b.do(t, 0, powerOn, api.OK)
	b.tick(t, 20)
	b.do(t, 0, booted, api.OK)
	b.tick(t, 21)
	b.tick(t, 1000)
	if got, _ := b.p.Node(0); got != (node.Node{State: api.Idle, Since: 20}) {
		t.Errorf("booted at 20: %v, want it Idle since then", got)
	}
}

func TestTickOfNodesThatComeToBeDown(t *testing.T) {
	for _, retry := range []int{0, 1, 2, 3, 7} {
		b := bothOf(t, config(t, 2, 4, 5, retry))
		now := 0
		for try := range retry + 1 {
			b.do(t, 0, powerOn, api.OK)
			now += 8
			b.tick(t, now)
			now++
			b.tick(t, now, 0)
			want := node.Node{State: api.Off, Since: now, Tries: try + 1}
			if try == retry {
				want.State = api.Down
			}
			if got, _ := b.p.Node(0); got != want {
				t.Errorf("with retry %d, behind %d late boots: %v, want %v", retry, try+1, got, want)
			}
		}
		b.do(t, 0, powerOn, api.ErrState)
		b.tick(t, now+100)
		b.do(t, 0, repair, api.OK)
		b.do(t, 0, powerOn, api.OK)
	}
}

// As many tries as there may be do not become more.
func TestTickOfNodesOfManyTries(t *testing.T) {
	b := bothAt(t, config(t, 4, 1, 1, mostValue), 9,
		node.Node{State: api.Booting, Tries: most - 1}, node.Node{State: api.Booting, Tries: most},
		node.Node{State: api.Booting, Tries: mostValue - 1}, node.Node{State: api.Booting, Tries: mostValue})
	b.tick(t, 9, 0, 1, 2, 3)
	for i, want := range []node.Node{
		{State: api.Down, Since: 9, Tries: most}, {State: api.Down, Since: 9, Tries: most},
		{State: api.Off, Since: 9, Tries: mostValue}, {State: api.Down, Since: 9, Tries: mostValue + 1},
	} {
		if got, _ := b.p.Node(i); got != want {
			t.Errorf("Node(%d) = %v, want %v", i, got, want)
		}
	}
}

func TestTickOfNodesThatAreStopping(t *testing.T) {
	for _, stop := range []int{1, 2, 5, 1000, mostValue - 1, mostValue} {
		for _, since := range []int{0, 5, 1 << 32, api.MaxTime - stop - 2} {
			stopping := func() both {
				b := bothOf(t, config(t, 3, 10, stop, 3))
				b.tick(t, since)
				b.all(t, bits.Of(0, 2), powerOn, api.OK)
				b.all(t, bits.Of(0, 2), booted, api.OK)
				b.all(t, bits.Of(2), powerOff, api.OK)
				return b
			}
			b := stopping()
			// One tick less than stop, just that, and more.
			b.tick(t, since+stop-1)
			b.tick(t, since+stop, 2)
			if got, _ := b.p.Node(2); got != (node.Node{State: api.Off, Since: since + stop}) {
				t.Errorf("with stop %d, powered off at %d: %v, want it Off", stop, since, got)
			}
			b.tick(t, since+stop)
			b.tick(t, since+stop+2)
			stopping().tick(t, since+stop+1, 2)
			stopping().tick(t, api.MaxTime, 2)
		}
	}
}

// What has come late stays counted till a node boots.
func TestTickOfNodesThatAreStoppingLeavesTheTries(t *testing.T) {
	b := bothAt(t, config(t, 3, 10, 5, 3), 50,
		node.Node{State: api.Stopping, Since: 45, Tries: 2}, node.Node{State: api.Stopping, Since: 46, Tries: 9}, node.Node{State: api.Stopping, Tries: most})
	b.tick(t, 50, 0, 2)
	if got, _ := b.p.Node(0); got != (node.Node{State: api.Off, Since: 50, Tries: 2}) {
		t.Errorf("Node(0) = %v, want 2 tries", got)
	}
	b.tick(t, 51, 1)
}

// One that boots is asked of boot alone, and one that is Stopping of stop alone.
func TestTickTellsBootFromStop(t *testing.T) {
	nodes := []node.Node{{State: api.Booting}, {State: api.Stopping}}
	b := bothAt(t, config(t, 2, 3, 100, 3), 0, nodes...)
	b.tick(t, 6)
	b.tick(t, 7, 0)
	b.tick(t, 99)
	b.tick(t, 100, 1)
	b = bothAt(t, config(t, 2, 100, 3, 3), 0, nodes...)
	b.tick(t, 2)
	b.tick(t, 3, 1)
	b.tick(t, 200)
	b.tick(t, 201, 0)
}

func TestTickOfAllOtherStates(t *testing.T) {
	b := bothAt(t, config(t, 6, 1, 1, 0), 10,
		node.Node{State: api.Off}, node.Node{State: api.Idle}, node.Node{State: api.Busy},
		node.Node{State: api.Draining, Tries: 3}, node.Node{State: api.Drained}, node.Node{State: api.Down, Tries: 2})
	b.tick(t, 10)
	b.tick(t, 11)
	b.tick(t, 1000)
	b.tick(t, api.MaxTime)
}

// Several at once, those that come to be Down among them, and others that are not late yet.
func TestTickOfSeveralNodes(t *testing.T) {
	b := bothAt(t, config(t, 9, 10, 5, 2), 100,
		node.Node{State: api.Booting, Since: 80, Tries: 2}, // late from 101 on, and Down then
		node.Node{State: api.Booting, Since: 80, Tries: 1}, // late from 101 on, and Off then
		node.Node{State: api.Booting, Since: 81, Tries: 0}, // late from 102 on
		node.Node{State: api.Stopping, Since: 96},          // off from 101 on
		node.Node{State: api.Stopping, Since: 97},          // off from 102 on
		node.Node{State: api.Idle, Since: 3},
		node.Node{State: api.Booting, Since: 80, Tries: 9}, // late from 101 on, and Down then
		node.Node{State: api.Stopping, Since: 96, Tries: 2},
		node.Node{State: api.Off},
	)
	b.tick(t, 100)
	b.tick(t, 101, 0, 1, 3, 6, 7)
	if got := b.p.In(api.Down); got != bits.Of(0, 6) {
		t.Errorf("%v are Down, want 0 and 6", bits.List(got))
	}
	if got := b.p.In(api.Off); got != bits.Of(1, 3, 7, 8) {
		t.Errorf("%v are Off, want 1, 3, 7 and 8", bits.List(got))
	}
	b.tick(t, 101)
	b.tick(t, 102, 2, 4)
	b.tick(t, 103)
}

func TestTickOfAll256Nodes(t *testing.T) {
	b := bothOf(t, config(t, 256, 10, 5, 0))
	b.all(t, bits.Span(0, 255), powerOn, api.OK)
	b.tick(t, 20)
	all := bits.List(bits.Span(0, 255))
	b.tick(t, 21, all...)
	if got := b.p.In(api.Down); got != bits.Span(0, 255) {
		t.Errorf("%v are Down, want all", bits.List(got))
	}
	b.all(t, bits.Span(0, 255), repair, api.OK)
	b.all(t, bits.Span(0, 255), powerOn, api.OK)
	b.all(t, bits.Span(0, 255), booted, api.OK)
	b.all(t, bits.Span(0, 255), powerOff, api.OK)
	b.tick(t, 25)
	b.tick(t, 26, all...)
	if got := b.p.In(api.Off); got != bits.Span(0, 255) {
		t.Errorf("%v are Off, want all", bits.List(got))
	}
}

// A node at the edges of words, each alone.
func TestTickTellsTheNodesNumber(t *testing.T) {
	for _, i := range []int{0, 1, 63, 64, 65, 127, 128, 191, 192, 254, 255} {
		b := bothOf(t, config(t, 256, 2, 3, 1))
		b.do(t, i, powerOn, api.OK)
		b.tick(t, 5, i)
		b.do(t, i, powerOn, api.OK)
		b.do(t, i, booted, api.OK)
		b.do(t, i, powerOff, api.OK)
		b.tick(t, 7)
		b.tick(t, 8, i)
	}
}

// The time goes on, and Since is that of the tick.
func TestEventsBehindATickAreOfItsTime(t *testing.T) {
	b := bothOf(t, config(t, 3, 10, 5, 3))
	for i, now := range []int{3, 8, api.MaxTime} {
		b.tick(t, now)
		b.do(t, i, drain, api.OK)
		if got, _ := b.p.Node(i); got != (node.Node{State: api.Drained, Since: now}) {
			t.Errorf("drained at %d: %v", now, got)
		}
	}
}
