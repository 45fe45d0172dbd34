package pool_test

import (
	"bytes"
	"encoding/binary"
	"math"
	"math/rand"
	"slices"
	"strconv"
	"testing"

	"marlinspike/api"
	"marlinspike/bits"
	"marlinspike/conf"
	"marlinspike/node"
	"marlinspike/pool"
)

// The events, by layer 11's numbers.
const (
	powerOn  = 1
	booted   = 2
	bootLate = 3
	take     = 4
	give     = 5
	drain    = 6
	resume   = 7
	fail     = 8
	repair   = 9
	powerOff = 10
	stopped  = 11
)

const (
	// most is how often a node is counted not to have booted in time at most.
	most = 1 << 62
	// mostValue is the greatest that a boot, a stop or a retry of a config may be.
	mostValue = 1000000
)

// states are those that there are, and noStates some that there are not.
var (
	states   = []int{api.Off, api.Booting, api.Idle, api.Busy, api.Draining, api.Drained, api.Down, api.Stopping}
	noStates = []int{-1, 8, 9, -2, -8, 16, 63, 64, 255, 256, -256, 1 << 16, 1 << 32, -1 << 32, 1<<32 + 2, math.MinInt32, math.MaxInt32, math.MinInt, math.MinInt + 1, math.MaxInt}
)

// events are those that there are, and noEvents some that there are not.
var (
	events   = []int{powerOn, booted, bootLate, take, give, drain, resume, fail, repair, powerOff, stopped}
	noEvents = []int{0, 12, -1, 13, -2, -11, 16, 63, 64, 256, 257, 1 << 16, 1 << 32, 1<<32 + 1, math.MinInt32, math.MaxInt32, math.MinInt, math.MaxInt}
)

// noNodes are numbers that are no node's, whatever the config.
var noNodes = []int{-1, -2, -64, -256, 256, 257, 319, 512, 1 << 16, 1 << 32, -1 << 32, 1<<32 + 1, math.MinInt32, math.MaxInt32, math.MinInt, math.MinInt + 1, math.MaxInt - 1, math.MaxInt}

// text is a config's, of so many nodes.
func text(nodes int) string {
	last := strconv.Itoa(nodes - 1)
	return "node n[0-" + last + "] cpu=4,mem=8,gpu=1\npart p n[0-" + last + "] max=2\nqos q prio=1\n"
}

// config is one of so many nodes, with these values.
func config(t testing.TB, nodes, boot, stop, retry int) conf.Config {
	t.Helper()
	c, fault := conf.Parse(text(nodes) + "set boot " + strconv.Itoa(boot) + "\nset stop " + strconv.Itoa(stop) + "\nset retry " + strconv.Itoa(retry))
	if fault != (api.Fault{}) {
		t.Fatalf("a config of %d nodes, boot %d, stop %d and retry %d: %v", nodes, boot, stop, retry, fault)
	}
	return c
}

// made is a new pool of a config.
func made(t testing.TB, c conf.Config) *pool.Pool {
	t.Helper()
	p, err := pool.New(c)
	if p == nil || err != api.OK {
		t.Fatalf("New = %v, %v, want a pool", p, err)
	}
	return p
}

// record is that of a time and of nodes, by another library's numbers of the same form.
func record(now int, nodes ...node.Node) []byte {
	b := binary.AppendVarint(nil, int64(now))
	for _, n := range nodes {
		for _, number := range []int{n.State, n.Since, n.Tries} {
			b = binary.AppendVarint(b, int64(number))
		}
	}
	return b
}

// loaded is a pool that is at a time, and of which the nodes are at these.
func loaded(t testing.TB, c conf.Config, now int, nodes ...node.Node) *pool.Pool {
	t.Helper()
	p, err := pool.Load(c, record(now, nodes...))
	if p == nil || err != api.OK {
		t.Fatalf("Load of %d and %v = %v, %v, want a pool", now, nodes, p, err)
	}
	return p
}

// model is what the chapter's words say of a pool.
type model struct {
	now, boot, stop, retry int
	nodes                  []node.Node
}

// newModel is one of a config.
func newModel(c conf.Config) *model {
	return &model{boot: c.Boot, stop: c.Stop, retry: c.Retry, nodes: make([]node.Node, len(c.Names))}
}

// copied is another model that is at the same.
func (m *model) copied() *model {
	other := *m
	other.nodes = slices.Clone(m.nodes)
	return &other
}

func (m *model) do(i, event int) api.Errno {
	if i < 0 || i >= len(m.nodes) {
		return api.ErrNone
	}
	n, err := node.Next(m.nodes[i], event, m.now, m.retry)
	if err == api.OK {
		m.nodes[i] = n
	}
	return err
}

func (m *model) all(s api.Nodes, event int) api.Errno {
	for i := len(m.nodes); i < api.MaxNodes; i++ {
		if bits.Has(s, i) {
			return api.ErrNone
		}
	}
	// All are asked ahead of the first that is done.
	for i := range m.nodes {
		if bits.Has(s, i) {
			if err := m.copied().do(i, event); err != api.OK {
				return err
			}
		}
	}
	for i := range m.nodes {
		if bits.Has(s, i) {
			m.do(i, event)
		}
	}
	return api.OK
}

func (m *model) tick(now int) (api.Nodes, api.Errno) {
	if now < m.now || now > 1<<40 {
		return api.Nodes{}, api.ErrArg
	}
	m.now = now
	var had []int
	for i, n := range m.nodes {
		switch {
		case n.State == api.Booting && now > n.Since+2*m.boot:
			m.nodes[i] = node.Node{State: api.Off, Since: now, Tries: n.Tries}
			if n.Tries < most {
				m.nodes[i].Tries++
			}
			if m.nodes[i].Tries > m.retry {
				m.nodes[i].State = api.Down
			}
			had = append(had, i)
		case n.State == api.Stopping && now >= n.Since+m.stop:
			m.nodes[i] = node.Node{State: api.Off, Since: now, Tries: n.Tries}
			had = append(had, i)
		}
	}
	return bits.Of(had...), api.OK
}

func (m *model) in(states ...int) api.Nodes {
	var s api.Nodes
	for _, state := range states {
		for i, n := range m.nodes {
			if n.State == state {
				s = bits.Or(s, bits.Of(i))
			}
		}
	}
	return s
}

func (m *model) free(since int) api.Nodes {
	var s api.Nodes
	for i, n := range m.nodes {
		if n.State == api.Idle && since >= n.Since {
			s = bits.Or(s, bits.Of(i))
		}
	}
	return s
}

func (m *model) powered() int {
	return len(m.nodes) - bits.Count(m.in(api.Off, api.Down))
}

// wantAt holds all that a pool tells against a model.
func wantAt(t testing.TB, p *pool.Pool, m *model) {
	t.Helper()
	if got := p.Now(); got != m.now {
		t.Errorf("Now() = %d, want %d", got, m.now)
	}
	for i, want := range m.nodes {
		if got, err := p.Node(i); got != want || err != api.OK {
			t.Errorf("Node(%d) = %v, %v, want %v", i, got, err, want)
		}
	}
	for _, i := range []int{-1, len(m.nodes)} {
		if got, err := p.Node(i); got != (node.Node{}) || err != api.ErrNone {
			t.Errorf("Node(%d) = %v, %v, want none, and ErrNone", i, got, err)
		}
	}
	for _, state := range states {
		if got, want := p.In(state), m.in(state); got != want {
			t.Errorf("In(%d) = %v, want %v", state, bits.List(got), bits.List(want))
		}
	}
	for _, since := range []int{-1, 0, m.now / 2, m.now - 1, m.now} {
		if got, want := p.Free(since), m.free(since); got != want {
			t.Errorf("Free(%d) = %v, want %v", since, bits.List(got), bits.List(want))
		}
	}
	if got, want := p.Powered(), m.powered(); got != want {
		t.Errorf("Powered() = %d, want %d", got, want)
	}
	if got, want := p.Save(), record(m.now, m.nodes...); !bytes.Equal(got, want) {
		t.Errorf("Save() = %v, want %v", got, want)
	}
}

// both are a pool and its model, to which all is done at once.
type both struct {
	p *pool.Pool
	m *model
}

// bothOf are new ones of a config.
func bothOf(t testing.TB, c conf.Config) both { return both{made(t, c), newModel(c)} }

// bothAt are ones that are at a time, and of which the nodes are at these.
func bothAt(t testing.TB, c conf.Config, now int, nodes ...node.Node) both {
	t.Helper()
	m := newModel(c)
	m.now, m.nodes = now, slices.Clone(nodes)
	return both{loaded(t, c, now, nodes...), m}
}

func (b both) do(t testing.TB, i, event int, want api.Errno) {
	t.Helper()
	if got := b.p.Do(i, event); got != want || b.m.do(i, event) != want {
		t.Errorf("Do(%d, %d) = %v, want %v", i, event, got, want)
	}
	wantAt(t, b.p, b.m)
}

func (b both) all(t testing.TB, s api.Nodes, event int, want api.Errno) {
	t.Helper()
	if got := b.p.All(s, event); got != want || b.m.all(s, event) != want {
		t.Errorf("All(%v, %d) = %v, want %v", bits.List(s), event, got, want)
	}
	wantAt(t, b.p, b.m)
}

// tick holds that a tick is done against the nodes that have an event then.
func (b both) tick(t testing.TB, now int, want ...int) {
	t.Helper()
	s, err := b.m.tick(now)
	if s != bits.Of(want...) || err != api.OK {
		t.Fatalf("the model's tick(%d) = %v, %v, want %v", now, bits.List(s), err, want)
	}
	if got, err := b.p.Tick(now); got != s || err != api.OK {
		t.Errorf("Tick(%d) = %v, %v, want %v", now, bits.List(got), err, want)
	}
	wantAt(t, b.p, b.m)
}

// noTick holds that a tick is refused.
func (b both) noTick(t testing.TB, now int) {
	t.Helper()
	if _, err := b.m.tick(now); err != api.ErrArg {
		t.Fatalf("the model's tick(%d) = %v, want ErrArg", now, err)
	}
	if got, err := b.p.Tick(now); got != (api.Nodes{}) || err != api.ErrArg {
		t.Errorf("Tick(%d) = %v, %v, want none, and ErrArg", now, bits.List(got), err)
	}
	wantAt(t, b.p, b.m)
}

// wrongConfigs are those that may not be, each for one cause.
func wrongConfigs(t testing.TB) map[string]conf.Config {
	t.Helper()
	wrong := map[string]conf.Config{"nothing at all": {}}
	turned := func(name string, turn func(c *conf.Config)) {
		c := config(t, 3, 10, 5, 3)
		turn(&c)
		wrong[name] = c
	}
	turned("boot 0", func(c *conf.Config) { c.Boot = 0 })
	turned("boot below 0", func(c *conf.Config) { c.Boot = -1 })
	turned("boot least", func(c *conf.Config) { c.Boot = math.MinInt })
	turned("boot too great", func(c *conf.Config) { c.Boot = mostValue + 1 })
	turned("boot greatest", func(c *conf.Config) { c.Boot = math.MaxInt })
	turned("stop 0", func(c *conf.Config) { c.Stop = 0 })
	turned("stop below 0", func(c *conf.Config) { c.Stop = -1 })
	turned("stop least", func(c *conf.Config) { c.Stop = math.MinInt })
	turned("stop too great", func(c *conf.Config) { c.Stop = mostValue + 1 })
	turned("stop greatest", func(c *conf.Config) { c.Stop = math.MaxInt })
	turned("retry below 0", func(c *conf.Config) { c.Retry = -1 })
	turned("retry too great", func(c *conf.Config) { c.Retry = mostValue + 1 })
	turned("suspend below 0", func(c *conf.Config) { c.Suspend = -1 })
	turned("half 0", func(c *conf.Config) { c.Half = 0 })
	turned("rate 0", func(c *conf.Config) { c.Rate = 0 })
	turned("cap 0", func(c *conf.Config) { c.Cap = 0 })
	turned("min above cap", func(c *conf.Config) { c.Min, c.Cap = 3, 2 })
	turned("no nodes", func(c *conf.Config) { c.Names, c.Vecs = nil, nil })
	turned("a name more", func(c *conf.Config) { c.Names = append(c.Names, "m") })
	turned("a vector more", func(c *conf.Config) { c.Vecs = append(c.Vecs, api.Vec{Cpu: 1}) })
	turned("two of a name", func(c *conf.Config) { c.Names[2] = c.Names[0] })
	turned("a name that may not be", func(c *conf.Config) { c.Names[2] = "n[" })
	turned("no partition", func(c *conf.Config) { c.Parts = nil })
	turned("a partition without nodes", func(c *conf.Config) { c.Parts[0].Nodes = api.Nodes{} })
	turned("a partition with a node that is not there", func(c *conf.Config) { c.Parts[0].Nodes = bits.Of(3) })
	turned("two qualities of a name", func(c *conf.Config) { c.Qos = append(c.Qos, c.Qos[0]) })
	turned("257 nodes", func(c *conf.Config) {
		for i := len(c.Names); i < 257; i++ {
			c.Names, c.Vecs = append(c.Names, "n"+strconv.Itoa(i)), append(c.Vecs, c.Vecs[0])
		}
	})
	return wrong
}

// P12.1: New

func TestNewOfTheExample(t *testing.T) {
	b := bothOf(t, config(t, 1, 10, 5, 3))
	b.do(t, 0, powerOn, api.OK)
	b.tick(t, 21, 0)
	if got, err := b.p.Node(0); got != (node.Node{State: api.Off, Since: 21, Tries: 1}) || err != api.OK {
		t.Errorf("Node(0) = %v, %v, want it Off again", got, err)
	}
}

func TestNewOfConfigsThatMayBe(t *testing.T) {
	for _, nodes := range []int{1, 2, 3, 63, 64, 65, 127, 128, 129, 192, 255, 256} {
		p := made(t, config(t, nodes, 10, 5, 3))
		wantAt(t, p, &model{nodes: make([]node.Node, nodes)})
		if got := p.In(api.Off); got != bits.Span(0, nodes-1) {
			t.Errorf("of %d nodes %v are Off at first, want all", nodes, bits.List(got))
		}
		if p.Now() != 0 || p.Powered() != 0 {
			t.Errorf("of %d nodes %d take power at %d, want none at 0", nodes, p.Powered(), p.Now())
		}
		for _, i := range noNodes {
			if got, err := p.Node(i); got != (node.Node{}) || err != api.ErrNone {
				t.Errorf("of %d nodes, Node(%d) = %v, %v, want ErrNone", nodes, i, got, err)
			}
		}
	}
}

func TestNewOfTheLeastAndTheGreatestNumbers(t *testing.T) {
	for _, boot := range []int{1, mostValue} {
		for _, stop := range []int{1, mostValue} {
			for _, retry := range []int{0, mostValue} {
				wantAt(t, made(t, config(t, 2, boot, stop, retry)), &model{nodes: make([]node.Node, 2)})
			}
		}
	}
}

func TestNewOfConfigsThatMayNotBe(t *testing.T) {
	for name, c := range wrongConfigs(t) {
		if p, err := pool.New(c); p != nil || err != api.ErrArg {
			t.Errorf("New, %s: %v, %v, want none, and ErrArg", name, p, err)
		}
	}
}

func TestPoolsOfOneConfigAreApart(t *testing.T) {
	c := config(t, 3, 10, 5, 3)
	first, second := bothOf(t, c), bothOf(t, c)
	first.do(t, 1, powerOn, api.OK)
	first.tick(t, 7)
	wantAt(t, second.p, second.m)
	second.do(t, 2, drain, api.OK)
	wantAt(t, first.p, first.m)
}

// P12.1: Do

// Each state and event, and what has a number that is none, with what layer 11 answers.
func TestDoOfEachEventAtEachState(t *testing.T) {
	for _, retry := range []int{0, 1, 3, mostValue} {
		c := config(t, 3, 10, 5, retry)
		for _, state := range states {
			for _, tries := range []int{0, 1, 3, mostValue, most - 1, most} {
				for _, since := range []int{0, 4, 7} {
					for _, event := range slices.Concat(events, noEvents) {
						at := node.Node{State: state, Since: since, Tries: tries}
						other := node.Node{State: api.Busy, Since: 2, Tries: 1}
						want, err := node.Next(at, event, 7, retry)
						if err != api.OK {
							want = at
						}
						p := loaded(t, c, 7, other, at, other)
						if got := p.Do(1, event); got != err {
							t.Errorf("Do(1, %d) at %v = %v, want %v", event, at, got, err)
						}
						wantAt(t, p, &model{now: 7, nodes: []node.Node{other, want, other}})
						if t.Failed() {
							return
						}
					}
				}
			}
		}
	}
}

// Some of the same, written out.
func TestDoOfSomeEvents(t *testing.T) {
	b := bothOf(t, config(t, 2, 10, 5, 1))
	b.tick(t, 5)
	b.do(t, 0, powerOn, api.OK)
	b.do(t, 0, powerOn, api.ErrState)
	b.do(t, 0, take, api.ErrState)
	b.tick(t, 9)
	b.do(t, 0, booted, api.OK)
	if got, _ := b.p.Node(0); got != (node.Node{State: api.Idle, Since: 9}) {
		t.Errorf("powered on at 5, and booted at 9: %v, want it Idle since 9", got)
	}
	b.do(t, 0, 0, api.ErrArg)
	b.do(t, 0, 12, api.ErrArg)
	b.do(t, 0, -1, api.ErrArg)
	b.do(t, 0, take, api.OK)
	b.do(t, 1, fail, api.OK)
	b.do(t, 1, resume, api.ErrState)
	b.tick(t, 11)
	b.do(t, 1, repair, api.OK)
	if got, _ := b.p.Node(1); got != (node.Node{State: api.Off, Since: 11}) {
		t.Errorf("repaired at 11: %v, want it Off since 11", got)
	}
	if got, _ := b.p.Node(0); got != (node.Node{State: api.Busy, Since: 9}) {
		t.Errorf("taken at 9: %v, want it Busy since 9", got)
	}
}

func TestDoOfNumbersOfNodes(t *testing.T) {
	for _, nodes := range []int{1, 2, 63, 64, 65, 128, 255, 256} {
		b := bothOf(t, config(t, nodes, 10, 5, 3))
		for _, i := range slices.Concat(noNodes, []int{nodes, nodes + 1}) {
			b.do(t, i, powerOn, api.ErrNone)
		}
		b.do(t, nodes-1, powerOn, api.OK)
		if got := b.p.In(api.Booting); got != bits.Of(nodes-1) {
			t.Errorf("of %d nodes %v are Booting, want the last one", nodes, bits.List(got))
		}
		want := api.OK
		if nodes == 1 {
			// It is the last one, too, and Booting.
			want = api.ErrState
		}
		b.do(t, 0, drain, want)
	}
}

func TestDoTellsErrNoneAheadOfTheRest(t *testing.T) {
	b := bothOf(t, config(t, 2, 10, 5, 3))
	for _, i := range slices.Concat(noNodes, []int{2}) {
		for _, event := range slices.Concat(events, noEvents) {
			b.do(t, i, event, api.ErrNone)
		}
	}
}

// The config's retry, and no other number, is handed on.
func TestDoOfBootLateIsOfTheConfigsRetry(t *testing.T) {
	for _, retry := range []int{0, 1, 2, 3, 10} {
		b := bothOf(t, config(t, 2, 7, 4, retry))
		for range retry {
			b.do(t, 1, powerOn, api.OK)
			b.do(t, 1, bootLate, api.OK)
			if got, _ := b.p.Node(1); got.State != api.Off {
				t.Fatalf("with retry %d: %v, want it Off", retry, got)
			}
		}
		b.do(t, 1, powerOn, api.OK)
		b.do(t, 1, bootLate, api.OK)
		if got, _ := b.p.Node(1); got != (node.Node{State: api.Down, Tries: retry + 1}) {
			t.Errorf("with retry %d: %v, want it Down", retry, got)
		}
	}
}

// P12.1: All

func TestAllOfTheEmptySet(t *testing.T) {
	b := bothOf(t, config(t, 3, 10, 5, 3))
	b.do(t, 1, powerOn, api.OK)
	// Of no node nothing is refused.
	for _, event := range slices.Concat(events, noEvents) {
		b.all(t, api.Nodes{}, event, api.OK)
	}
}

func TestAllOfSetsThatAreDone(t *testing.T) {
	for _, nodes := range []int{1, 2, 64, 65, 130, 256} {
		b := bothOf(t, config(t, nodes, 10, 5, 3))
		b.tick(t, 3)
		b.all(t, bits.Of(0, nodes-1), powerOn, api.OK)
		if got := b.p.In(api.Booting); got != bits.Of(0, nodes-1) {
			t.Errorf("of %d nodes %v are Booting, want the first and the last one", nodes, bits.List(got))
		}
		b.all(t, bits.Span(1, nodes-2), drain, api.OK)
		b.tick(t, 4)
		b.all(t, bits.Span(0, nodes-1), fail, api.OK)
		if got := b.p.In(api.Down); got != bits.Span(0, nodes-1) {
			t.Errorf("of %d nodes %v are Down, want all", nodes, bits.List(got))
		}
		b.all(t, bits.Span(0, nodes-1), repair, api.OK)
	}
}

func TestAllOfSetsWithANodeThatIsNotThere(t *testing.T) {
	for _, nodes := range []int{1, 2, 63, 64, 65, 127, 128, 192, 255} {
		b := bothOf(t, config(t, nodes, 10, 5, 3))
		for i := nodes; i < api.MaxNodes; i++ {
			if got := b.p.All(bits.Of(i), powerOn); got != api.ErrNone {
				t.Errorf("of %d nodes, All of %d = %v, want ErrNone", nodes, i, got)
			}
			if got := b.p.All(bits.Of(0, i), powerOn); got != api.ErrNone {
				t.Errorf("of %d nodes, All of 0 and %d = %v, want ErrNone", nodes, i, got)
			}
		}
		b.all(t, bits.Span(0, nodes), powerOn, api.ErrNone)
		b.all(t, bits.Span(0, 255), powerOn, api.ErrNone)
		b.all(t, bits.Span(0, nodes-1), powerOn, api.OK)
	}
}

// One of 256 nodes has none that is not there.
func TestAllOfAll256Nodes(t *testing.T) {
	b := bothOf(t, config(t, 256, 10, 5, 3))
	b.all(t, bits.Of(255), powerOn, api.OK)
	b.all(t, bits.Span(0, 254), powerOn, api.OK)
	if got := b.p.Powered(); got != 256 {
		t.Errorf("Powered() = %d, want 256", got)
	}
}

func TestAllTellsErrNoneAheadOfTheRest(t *testing.T) {
	b := bothOf(t, config(t, 3, 10, 5, 3))
	// Nodes 0 to 2 are Off, and refuse what is no PowerOn, Drain and Fail.
	for _, s := range []api.Nodes{bits.Of(0, 3), bits.Of(0, 1, 2, 255), bits.Of(2, 64), bits.Of(3), bits.Span(0, 255)} {
		for _, event := range slices.Concat(events, noEvents) {
			b.all(t, s, event, api.ErrNone)
		}
	}
}

// mixed are nodes of which 1 and 4 refuse PowerOn, and the others do not.
func mixed() []node.Node {
	return []node.Node{{}, {State: api.Busy, Since: 2}, {Since: 3}, {Tries: 1}, {State: api.Down, Since: 5, Tries: 4}, {}}
}

func TestAllOfSetsOfWhichSomeRefuse(t *testing.T) {
	for _, test := range []struct {
		set  api.Nodes
		want api.Errno
	}{
		// One alone, the first, one amid, and the last of the set.
		{bits.Of(1), api.ErrState},
		{bits.Of(1, 2, 3), api.ErrState},
		{bits.Of(0, 1, 2), api.ErrState},
		{bits.Of(2, 3, 4), api.ErrState},
		// Several.
		{bits.Of(1, 4), api.ErrState},
		{bits.Span(0, 5), api.ErrState},
		// None.
		{bits.Of(0), api.OK},
		{bits.Of(0, 2, 3, 5), api.OK},
	} {
		b := bothAt(t, config(t, 6, 10, 5, 3), 7, mixed()...)
		b.all(t, test.set, powerOn, test.want)
		b.all(t, test.set, 0, api.ErrArg)
		b.all(t, test.set, 12, api.ErrArg)
		b.all(t, test.set, math.MaxInt, api.ErrArg)
		// What was refused can still be done to those that do not refuse.
		if test.want != api.OK {
			b.all(t, bits.Not(test.set, bits.Of(1, 4)), powerOn, api.OK)
		}
	}
}

// Each set of six nodes, and each event, as the model says.
func TestAllOfEachSetAndEvent(t *testing.T) {
	c := config(t, 6, 10, 5, 3)
	nodes := [][]node.Node{
		mixed(),
		{{}, {State: api.Booting}, {State: api.Idle}, {State: api.Busy}, {State: api.Draining}, {State: api.Drained}},
		{{State: api.Booting, Tries: 3}, {State: api.Booting, Since: 7, Tries: most}, {State: api.Stopping, Since: 1}, {State: api.Down, Tries: 9}, {State: api.Booting}, {State: api.Stopping}},
	}
	for _, at := range nodes {
		for word := range uint64(1 << 7) {
			for event := 0; event <= 12; event++ {
				b := bothAt(t, c, 7, at...)
				s := api.Nodes{word}
				want := b.m.copied().all(s, event)
				b.all(t, s, event, want)
			}
		}
		if t.Failed() {
			return
		}
	}
}

// P12.4

func TestEachNodeIsInOneState(t *testing.T) {
	r := rand.New(rand.NewSource(21))
	for _, nodes := range []int{1, 5, 70, 256} {
		b := bothOf(t, config(t, nodes, 3, 2, 1))
		for range 200 {
			b.step(t, r)
			if t.Failed() {
				return
			}
			var all api.Nodes
			for _, state := range states {
				s := b.p.In(state)
				if both := bits.And(all, s); both != (api.Nodes{}) {
					t.Fatalf("%v are in two states", bits.List(both))
				}
				all = bits.Or(all, s)
			}
			if all != bits.Span(0, nodes-1) {
				t.Fatalf("%v are in a state, want all of %d", bits.List(all), nodes)
			}
		}
	}
}

// step does something to both, whatever it is, and holds what is answered against each other.
func (b both) step(t testing.TB, r *rand.Rand) {
	t.Helper()
	nodes := len(b.m.nodes)
	event := r.Intn(12) + 1
	if r.Intn(20) == 0 {
		event = noEvents[r.Intn(len(noEvents))]
	}
	switch kind := r.Intn(8); {
	case kind < 3:
		i := r.Intn(nodes)
		if may := node.Events(b.m.nodes[i].State); r.Intn(4) > 0 {
			event = may[r.Intn(len(may))]
		}
		if r.Intn(20) == 0 {
			i = noNodes[r.Intn(len(noNodes))]
		}
		want := b.m.copied().do(i, event)
		b.do(t, i, event, want)
	case kind < 6:
		// Some of those in one state, and seldom any others.
		s := bits.And(b.m.in(r.Intn(8)), api.Nodes{r.Uint64(), r.Uint64(), r.Uint64(), r.Uint64()})
		if r.Intn(6) == 0 {
			s = bits.Or(s, bits.Of(r.Intn(api.MaxNodes)))
		}
		want := b.m.copied().all(s, event)
		b.all(t, s, event, want)
	default:
		now := b.m.now + r.Intn(6) - 1
		if r.Intn(20) == 0 {
			now = []int{-1, math.MinInt, 1<<40 + 1, math.MaxInt, b.m.now - 1}[r.Intn(5)]
		}
		if now < b.m.now || now > 1<<40 {
			b.noTick(t, now)
			return
		}
		want, _ := b.m.copied().tick(now)
		b.tick(t, now, bits.List(want)...)
	}
}

// P12.5

// All that may be refused is asked, and neither what the pool tells nor how it goes on is turned.
func TestWhatIsRefusedTurnsNothing(t *testing.T) {
	nodes := []node.Node{
		{State: api.Off, Since: 1, Tries: 2}, {State: api.Booting, Since: 30, Tries: 3}, {State: api.Idle, Since: 4}, {State: api.Busy, Since: 40},
		{State: api.Draining, Since: 8}, {State: api.Drained}, {State: api.Down, Since: 9, Tries: 4}, {State: api.Stopping, Since: 37},
	}
	b := bothAt(t, config(t, 8, 10, 5, 3), 40, nodes...)
	for i := range nodes {
		for _, event := range slices.Concat(events, noEvents) {
			if want := b.m.copied().do(i, event); want != api.OK {
				b.do(t, i, event, want)
				b.all(t, bits.Of(i), event, want)
				b.all(t, bits.Span(0, i), event, b.m.copied().all(bits.Span(0, i), event))
				b.all(t, bits.Span(i, 7), event, b.m.copied().all(bits.Span(i, 7), event))
			}
		}
	}
	for _, event := range slices.Concat(events, noEvents) {
		b.do(t, 8, event, api.ErrNone)
		b.do(t, -1, event, api.ErrNone)
		b.all(t, bits.Span(0, 8), event, api.ErrNone)
	}
	for _, now := range []int{39, 0, -1, math.MinInt, api.MaxTime + 1, math.MaxInt} {
		b.noTick(t, now)
	}
	// It goes on as one of which nothing was asked.
	b.tick(t, 41)
	b.tick(t, 42, 7)
	b.tick(t, 51, 1)
}

// R1: pools that nobody made

// wantNothing holds that a pool tells nothing, and refuses all.
func wantNothing(t *testing.T, name string, p *pool.Pool) {
	t.Helper()
	for range 2 {
		for _, i := range slices.Concat(noNodes, []int{0, 1, 2, 255}) {
			if got, err := p.Node(i); got != (node.Node{}) || err != api.ErrNil {
				t.Errorf("of %s, Node(%d) = %v, %v, want ErrNil", name, i, got, err)
			}
			for _, event := range slices.Concat(events, noEvents) {
				if got := p.Do(i, event); got != api.ErrNil {
					t.Errorf("of %s, Do(%d, %d) = %v, want ErrNil", name, i, event, got)
				}
			}
		}
		for _, s := range []api.Nodes{{}, bits.Of(0), bits.Of(255), bits.Span(0, 255)} {
			for _, event := range slices.Concat(events, noEvents) {
				if got := p.All(s, event); got != api.ErrNil {
					t.Errorf("of %s, All(%v, %d) = %v, want ErrNil", name, bits.List(s), event, got)
				}
			}
		}
		for _, now := range []int{0, 1, -1, 100, api.MaxTime, api.MaxTime + 1, math.MinInt, math.MaxInt} {
			if got, err := p.Tick(now); got != (api.Nodes{}) || err != api.ErrNil {
				t.Errorf("of %s, Tick(%d) = %v, %v, want none, and ErrNil", name, now, bits.List(got), err)
			}
			if got := p.Free(now); got != (api.Nodes{}) {
				t.Errorf("of %s, Free(%d) = %v, want none", name, now, bits.List(got))
			}
		}
		if got := p.In(); got != (api.Nodes{}) {
			t.Errorf("of %s, In() = %v, want none", name, bits.List(got))
		}
		if got := p.In(slices.Concat(states, noStates)...); got != (api.Nodes{}) {
			t.Errorf("of %s, In of all = %v, want none", name, bits.List(got))
		}
		if p.Powered() != 0 || p.Now() != 0 || len(p.Save()) != 0 {
			t.Errorf("of %s, Powered, Now and Save are %d, %d and %v, want nothing", name, p.Powered(), p.Now(), p.Save())
		}
	}
}

func TestPoolsThatNobodyMade(t *testing.T) {
	wantNothing(t, "a nil pool", nil)
	wantNothing(t, "a zero pool", &pool.Pool{})
	var p pool.Pool
	wantNothing(t, "another zero pool", &p)
	refused, _ := pool.New(conf.Config{})
	wantNothing(t, "a pool that was refused", refused)
	refused, _ = pool.Load(config(t, 2, 10, 5, 3), nil)
	wantNothing(t, "a pool that was not loaded", refused)
}

// What a pool that nobody made saves is nothing that can be loaded.
func TestWhatANilPoolSavesIsNoRecord(t *testing.T) {
	var p *pool.Pool
	for _, nodes := range []int{1, 2, 256} {
		if got, err := pool.Load(config(t, nodes, 10, 5, 3), p.Save()); got != nil || err != api.ErrForm {
			t.Errorf("Load of nothing = %v, %v, want none, and ErrForm", got, err)
		}
	}
}

// R3, R4

func TestTheConfigMayBeWrittenOver(t *testing.T) {
	c, kept := config(t, 3, 10, 5, 0), config(t, 3, 10, 5, 0)
	bytesOf := record(7, mixed()[:3]...)
	first, second := both{made(t, c), newModel(c)}, both{nil, newModel(c)}
	second.p, _ = pool.Load(c, bytesOf)
	second.m.now, second.m.nodes = 7, mixed()[:3]
	if !conf.Same(c, kept) || !bytes.Equal(bytesOf, record(7, mixed()[:3]...)) {
		t.Errorf("New or Load writes into what it was handed")
	}
	for i := range c.Names {
		c.Names[i], c.Vecs[i] = "", api.Vec{Cpu: -1}
	}
	c.Parts[0], c.Qos[0] = conf.Part{}, conf.Qos{}
	c.Names, c.Boot, c.Stop, c.Retry = c.Names[:1], 1, 1, 9
	for i := range bytesOf {
		bytesOf[i] = 0xff
	}
	for _, b := range []both{first, second} {
		from := b.m.now
		wantAt(t, b.p, b.m)
		b.do(t, 2, powerOn, api.OK)
		b.tick(t, from+20)
		b.tick(t, from+21, 2)
		if got := b.p.In(api.Down); got != bits.Of(2) {
			t.Errorf("%v are Down, want 2", bits.List(got))
		}
	}
}

func TestListsOfStatesAreNotWrittenTo(t *testing.T) {
	b := bothAt(t, config(t, 6, 10, 5, 3), 7, mixed()...)
	long := []int{api.Down, 99, api.Off, -1, api.Busy, api.Off, 7, 7}
	list := long[:6]
	kept := slices.Clone(long)
	want := b.p.In(list...)
	if want != bits.Span(0, 5) || !slices.Equal(long, kept) {
		t.Errorf("In(%v...) = %v, and the list is %v behind it", kept, bits.List(want), long)
	}
	// Written over behind the call, it turns nothing.
	for i := range long {
		long[i] = api.Idle
	}
	wantAt(t, b.p, b.m)
	if got := b.p.In(kept...); got != want {
		t.Errorf("In(%v...) = %v, want %v", kept, bits.List(got), bits.List(want))
	}
}

func TestAnswersAreTheCallers(t *testing.T) {
	b := bothAt(t, config(t, 6, 10, 5, 3), 7, mixed()...)
	first, second := b.p.Save(), b.p.Save()
	want := slices.Clone(first)
	// Beyond the end, too, as far as there is room.
	for i := range first[:cap(first)] {
		first[:cap(first)][i] = 0xff
	}
	if !bytes.Equal(second, want) {
		t.Errorf("Save(), written over, turns another answer to %v", second)
	}
	_ = append(second, 1, 2, 3)
	n, _ := b.p.Node(1)
	n.State, n.Since, n.Tries = api.Down, 9, 9
	s := b.p.In(api.Off)
	s[0], s[3] = 1<<63, 1<<63
	wantAt(t, b.p, b.m)
}

func TestTheSameCallsHaveTheSameAnswers(t *testing.T) {
	c := config(t, 20, 3, 2, 1)
	run := func() []byte {
		r := rand.New(rand.NewSource(22))
		b := bothOf(t, c)
		var all []byte
		for range 200 {
			b.step(t, r)
			all = append(all, b.p.Save()...)
		}
		return all
	}
	if first := run(); !bytes.Equal(first, run()) {
		t.Errorf("the same calls have other answers")
	}
}

// What is asked turns nothing.
func TestAskingTurnsNothing(t *testing.T) {
	b := bothAt(t, config(t, 6, 10, 5, 3), 7, mixed()...)
	for range 3 {
		b.p.In(slices.Concat(states, noStates)...)
		b.p.Free(math.MaxInt)
		b.p.Free(math.MinInt)
		for _, i := range slices.Concat(noNodes, []int{0, 5, 6}) {
			b.p.Node(i)
		}
		b.p.Powered()
		b.p.Now()
		b.p.Save()
		wantAt(t, b.p, b.m)
	}
}

// All calls, at all numbers, in any order, as the model says.
func TestLongRunsAsTheModel(t *testing.T) {
	r := rand.New(rand.NewSource(23))
	for range 40 {
		b := bothOf(t, config(t, 1+r.Intn(256), 1+r.Intn(4), 1+r.Intn(5), r.Intn(4)))
		for range 150 {
			b.step(t, r)
			if t.Failed() {
				return
			}
		}
	}
}
