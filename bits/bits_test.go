package bits_test

import (
	"math"
	"math/rand"
	"slices"
	"testing"

	"marlinspike/api"
	"marlinspike/bits"
)

// model is a set told plainly: whether each node is in it.
type model [api.MaxNodes]bool

// set is the model's set, made by the words of the document alone: bit i modulo 64 of word i / 64.
func (m model) set() api.Nodes {
	var s api.Nodes
	for i, in := range m {
		if in {
			s[i/64] |= uint64(1) << (i % 64)
		}
	}
	return s
}

func (m model) list() []int {
	var l []int
	for i, in := range m {
		if in {
			l = append(l, i)
		}
	}
	return l
}

// where is the model of all nodes that a rule takes.
func where(rule func(i int) bool) model {
	var m model
	for i := range m {
		m[i] = rule(i)
	}
	return m
}

func just(nodes ...int) model {
	return where(func(i int) bool { return slices.Contains(nodes, i) })
}

// models are the edges, and sets of all thicknesses from a fixed seed.
func models() []model {
	l := []model{
		{},
		where(func(int) bool { return true }),
		just(0), just(63), just(64), just(127), just(128), just(191), just(192), just(255),
		just(0, 63, 64, 255),
		just(0, 64, 128, 192),
		just(63, 127, 191, 255),
		where(func(i int) bool { return i < 64 }),
		where(func(i int) bool { return i >= 64 }),
		where(func(i int) bool { return i%2 == 0 }),
		where(func(i int) bool { return i%2 == 1 }),
		where(func(i int) bool { return i >= 60 && i < 200 }),
	}
	r := rand.New(rand.NewSource(1))
	for _, thick := range []int{1, 5, 25, 50, 75, 99} {
		for range 3 {
			l = append(l, where(func(int) bool { return r.Intn(100) < thick }))
		}
	}
	return l
}

// edges are numbers around which something turns, and ones far off.
func edges() []int {
	l := []int{math.MinInt, math.MinInt + 1, math.MinInt + 255, math.MinInt + 256, math.MaxInt, math.MaxInt - 1, math.MaxInt - 255}
	for _, i := range []int{0, 1, 62, 63, 64, 65, 127, 128, 129, 191, 192, 193, 254, 255, 256, 257, 319, 320, 512, 1 << 32, 1<<32 + 1} {
		l = append(l, i, -i)
	}
	return l
}

// P1.1: Of.

func TestOfHasItsNumbersInTheirWords(t *testing.T) {
	for _, c := range []struct {
		nodes []int
		want  api.Nodes
	}{
		{nil, api.Nodes{}},
		{[]int{}, api.Nodes{}},
		{[]int{0, 64, 255}, api.Nodes{1, 1, 0, 1 << 63}},
		{[]int{0}, api.Nodes{1}},
		{[]int{63}, api.Nodes{1 << 63}},
		{[]int{64}, api.Nodes{0, 1}},
		{[]int{127}, api.Nodes{0, 1 << 63}},
		{[]int{128}, api.Nodes{0, 0, 1}},
		{[]int{192}, api.Nodes{0, 0, 0, 1}},
		{[]int{255}, api.Nodes{0, 0, 0, 1 << 63}},
		{[]int{5, 3, 3, 5, 5}, api.Nodes{1<<3 | 1<<5}},
	} {
		if s := bits.Of(c.nodes...); s != c.want {
			t.Errorf("Of(%v) = %x, want %x", c.nodes, s, c.want)
		}
	}
}

func TestOfLeavesOutWhatIsNoNode(t *testing.T) {
	for _, i := range edges() {
		want := api.Nodes{1 << 7}
		if i >= 0 && i <= 255 {
			want[i/64] |= 1 << (i % 64)
		}
		if s := bits.Of(i, 7); s != want {
			t.Errorf("Of(%d, 7) = %x, want %x", i, s, want)
		}
	}
}

func TestOfLeavesItsListAsItIs(t *testing.T) {
	l := []int{9, -1, 256, 3, 9}
	bits.Of(l...)
	if !slices.Equal(l, []int{9, -1, 256, 3, 9}) {
		t.Error(l)
	}
}

// P1.1: Span.

func TestSpanHasAllFromOneToTheOther(t *testing.T) {
	ends := edges()
	for i := range api.MaxNodes {
		ends = append(ends, i)
	}
	for _, from := range ends {
		for _, to := range ends {
			want := where(func(i int) bool { return from <= i && i <= to }).set()
			if s := bits.Span(from, to); s != want {
				t.Fatalf("Span(%d, %d) = %x, want %x", from, to, s, want)
			}
		}
	}
}

// P1.1: Has.

func TestHasTellsWhatIsIn(t *testing.T) {
	for _, m := range models() {
		s := m.set()
		for i := range api.MaxNodes {
			if bits.Has(s, i) != m[i] {
				t.Fatalf("Has(%x, %d) = %t", s, i, !m[i])
			}
		}
	}
}

func TestHasNothingThatIsNoNode(t *testing.T) {
	all := where(func(int) bool { return true }).set()
	for _, i := range edges() {
		if bits.Has(all, i) != (i >= 0 && i <= 255) {
			t.Errorf("Has(all, %d) = %t", i, bits.Has(all, i))
		}
	}
}

// P1.1: And, Or, Not.

func TestTwoSetsAreMadeOne(t *testing.T) {
	for _, a := range models() {
		for _, b := range models() {
			s, u := a.set(), b.set()
			if got, want := bits.And(s, u), where(func(i int) bool { return a[i] && b[i] }).set(); got != want {
				t.Fatalf("And(%x, %x) = %x, want %x", s, u, got, want)
			}
			if got, want := bits.Or(s, u), where(func(i int) bool { return a[i] || b[i] }).set(); got != want {
				t.Fatalf("Or(%x, %x) = %x, want %x", s, u, got, want)
			}
			if got, want := bits.Not(s, u), where(func(i int) bool { return a[i] && !b[i] }).set(); got != want {
				t.Fatalf("Not(%x, %x) = %x, want %x", s, u, got, want)
			}
		}
	}
}

// P1.1: Count, List.

func TestCountAndListTellTheNumbersRising(t *testing.T) {
	for _, m := range models() {
		s, want := m.set(), m.list()
		if n := bits.Count(s); n != len(want) {
			t.Errorf("Count(%x) = %d, want %d", s, n, len(want))
		}
		if l := bits.List(s); !slices.Equal(l, want) {
			t.Errorf("List(%x) = %v, want %v", s, l, want)
		}
	}
}

func TestListIsTheCallers(t *testing.T) {
	s := bits.Of(1, 2, 200)
	l := bits.List(s)
	l[0] = 99
	if again := bits.List(s); !slices.Equal(again, []int{1, 2, 200}) {
		t.Error(again)
	}
}

// P1.2: First.

func TestFirstHasTheLowest(t *testing.T) {
	for _, m := range models() {
		s, l := m.set(), m.list()
		for n := range len(l) + 1 {
			got, ok := bits.First(s, n)
			if want := just(l[:n]...).set(); !ok || got != want {
				t.Fatalf("First(%x, %d) = %x, %t, want %x", s, n, got, ok, want)
			}
		}
	}
}

func TestFirstOfMoreThanThereAreIsNone(t *testing.T) {
	for _, m := range models() {
		s, have := m.set(), len(m.list())
		for _, n := range append(edges(), have+1, have+2) {
			if n >= 0 && n <= have {
				continue
			}
			if got, ok := bits.First(s, n); ok || got != (api.Nodes{}) {
				t.Fatalf("First(%x, %d) = %x, %t", s, n, got, ok)
			}
		}
	}
}

// P1.2: Nth.

func TestNthIsTheNumberOfTheList(t *testing.T) {
	for _, m := range models() {
		s := m.set()
		for k, want := range m.list() {
			if i, ok := bits.Nth(s, k); !ok || i != want {
				t.Fatalf("Nth(%x, %d) = %d, %t, want %d", s, k, i, ok, want)
			}
		}
	}
}

func TestNthPastTheEndIsNone(t *testing.T) {
	for _, m := range models() {
		s, have := m.set(), len(m.list())
		for _, k := range append(edges(), have, have+1) {
			if k >= 0 && k < have {
				continue
			}
			if i, ok := bits.Nth(s, k); ok || i != 0 {
				t.Fatalf("Nth(%x, %d) = %d, %t", s, k, i, ok)
			}
		}
	}
}

// P1.2: Move.

func TestMoveMovesEachNumber(t *testing.T) {
	for _, m := range models() {
		s := m.set()
		for by := -api.MaxNodes - 1; by <= api.MaxNodes+1; by++ {
			want := where(func(i int) bool { return i-by >= 0 && i-by < api.MaxNodes && m[i-by] }).set()
			if got := bits.Move(s, by); got != want {
				t.Fatalf("Move(%x, %d) = %x, want %x", s, by, got, want)
			}
		}
	}
}

func TestMoveBySoMuchThatAllFallOff(t *testing.T) {
	all := where(func(int) bool { return true }).set()
	for _, by := range edges() {
		if got := bits.Move(all, by); (got == api.Nodes{}) != (by <= -256 || by >= 256) {
			t.Errorf("Move(all, %d) = %x", by, got)
		}
	}
}

func TestMoveOfOneNode(t *testing.T) {
	for _, c := range []struct {
		s    api.Nodes
		by   int
		want api.Nodes
	}{
		{bits.Of(0, 64, 255), 0, bits.Of(0, 64, 255)},
		{bits.Of(0, 63, 191), 64, bits.Of(64, 127, 255)},
		{bits.Of(64, 127, 255), -64, bits.Of(0, 63, 191)},
		{bits.Of(63), 1, bits.Of(64)},
		{bits.Of(64), -1, bits.Of(63)},
		{bits.Of(255), 1, bits.Of()},
		{bits.Of(0), -1, bits.Of()},
		{bits.Of(0), 255, bits.Of(255)},
		{bits.Of(255), -255, bits.Of(0)},
		{bits.Of(0, 255), 256, bits.Of()},
		{bits.Of(0, 255), -256, bits.Of()},
	} {
		if got := bits.Move(c.s, c.by); got != c.want {
			t.Errorf("Move(%v, %d) = %v, want %v", bits.List(c.s), c.by, bits.List(got), bits.List(c.want))
		}
	}
}

// P1.3.

func TestSetIsItsList(t *testing.T) {
	for _, m := range models() {
		if s := m.set(); bits.Of(bits.List(s)...) != s {
			t.Errorf("Of(List(%x)) = %x", s, bits.Of(bits.List(s)...))
		}
	}
	for _, l := range [][]int{{255, 0, 64, 63, 0}, {7, -7, 256, 300, 3}, {-1}, nil} {
		want := slices.DeleteFunc(slices.Clone(l), func(i int) bool { return i < 0 || i > 255 })
		slices.Sort(want)
		if got := bits.List(bits.Of(l...)); !slices.Equal(got, slices.Compact(want)) {
			t.Errorf("List(Of(%v)) = %v", l, got)
		}
	}
}

// P1.4.

func TestBothAndFirstAloneAreTheFirst(t *testing.T) {
	for _, a := range models() {
		for _, b := range models() {
			s, u := a.set(), b.set()
			both, alone := bits.And(s, u), bits.Not(s, u)
			if bits.Or(both, alone) != s || bits.And(both, alone) != (api.Nodes{}) || bits.Count(both)+bits.Count(alone) != bits.Count(s) {
				t.Fatalf("of %x and %x: both %x, alone %x", s, u, both, alone)
			}
		}
	}
}

// P1.5.

func TestFirstOnesAreBelowAllOthers(t *testing.T) {
	for _, m := range models() {
		s := m.set()
		for n := range bits.Count(s) + 1 {
			first, ok := bits.First(s, n)
			if !ok || bits.Count(first) != n || bits.Not(first, s) != (api.Nodes{}) {
				t.Fatalf("First(%x, %d) = %x, %t", s, n, first, ok)
			}
			low, high := bits.List(first), bits.List(bits.Not(s, first))
			if len(low) > 0 && len(high) > 0 && low[len(low)-1] >= high[0] {
				t.Fatalf("First(%x, %d): %d is not below %d", s, n, low[len(low)-1], high[0])
			}
		}
	}
}
