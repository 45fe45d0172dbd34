package pool_test

import (
	"bytes"
	"encoding/binary"
	"math"
	"math/rand"
	"slices"
	"testing"

	"marlinspike/api"
	"marlinspike/bits"
	"marlinspike/conf"
	"marlinspike/node"
	"marlinspike/pool"
)

// P12.3

// read is what the chapter's words say of a record of so many nodes: the model's time and nodes, and whether it is one.
func read(c conf.Config, b []byte) (*model, bool) {
	var numbers []int
	for rest := b; len(rest) > 0; {
		n, size := binary.Varint(rest)
		if size <= 0 {
			return nil, false
		}
		numbers, rest = append(numbers, int(n)), rest[size:]
	}
	m := newModel(c)
	if len(numbers) != 1+3*len(m.nodes) {
		return nil, false
	}
	m.now = numbers[0]
	for i := range m.nodes {
		m.nodes[i] = node.Node{State: numbers[3*i+1], Since: numbers[3*i+2], Tries: numbers[3*i+3]}
		n := m.nodes[i]
		if !slices.Contains(states, n.State) || n.Since < 0 || n.Since > m.now || n.Tries < 0 || n.Tries > most {
			return nil, false
		}
	}
	// Each number has one form.
	return m, m.now >= 0 && m.now <= 1<<40 && bytes.Equal(b, record(m.now, m.nodes...))
}

// wantLoad holds what Load answers against a model, or, if there is none, against ErrForm.
func wantLoad(t *testing.T, c conf.Config, b []byte, m *model) {
	t.Helper()
	p, err := pool.Load(c, b)
	switch {
	case m == nil:
		if p != nil || err != api.ErrForm {
			t.Errorf("Load of %v = %v, %v, want none, and ErrForm", b, p, err)
		}
	case p == nil || err != api.OK:
		t.Errorf("Load of %v = %v, %v, want a pool", b, p, err)
	default:
		wantAt(t, p, m)
	}
}

// wantAsRead holds what Load answers against the chapter's words, and tells whether these say that it is a record.
func wantAsRead(t *testing.T, c conf.Config, b []byte) bool {
	t.Helper()
	m, ok := read(c, b)
	if !ok {
		m = nil
	}
	wantLoad(t, c, b, m)
	return ok
}

// wantForm holds that Load answers ErrForm.
func wantForm(t *testing.T, c conf.Config, b []byte) {
	t.Helper()
	if m, ok := read(c, b); ok {
		t.Errorf("%v is a record, of %v", b, m)
	}
	wantLoad(t, c, b, nil)
}

// wantRead holds that Load answers the pool of a time and of nodes.
func wantRead(t *testing.T, c conf.Config, now int, nodes ...node.Node) {
	t.Helper()
	m := newModel(c)
	m.now, m.nodes = now, nodes
	wantLoad(t, c, record(now, nodes...), m)
}

func TestSaveOfAnExample(t *testing.T) {
	p := made(t, config(t, 2, 10, 5, 3))
	if got, want := p.Save(), []byte{0, 0, 0, 0, 0, 0, 0}; !bytes.Equal(got, want) {
		t.Errorf("Save() = %v, want %v", got, want)
	}
	p.Tick(5)
	p.Do(1, powerOn)
	p.Tick(100)
	p.Do(0, powerOn)
	// 100, node 0 Booting since 100, and node 1 Off since 100 with one try.
	if got, want := p.Save(), []byte{0xc8, 1, 2, 0xc8, 1, 0, 0, 0xc8, 1, 2}; !bytes.Equal(got, want) {
		t.Errorf("Save() = %v, want %v", got, want)
	}
}

func TestLoadOfWhatWasSaved(t *testing.T) {
	for _, nodes := range []int{1, 2, 16, 64, 65, 256} {
		c := config(t, nodes, 10, 5, 3)
		wantRead(t, c, 0, make([]node.Node, nodes)...)
		var all []node.Node
		for i := range nodes {
			all = append(all, node.Node{State: i % 8, Since: i * 1000, Tries: i * i * i})
		}
		wantRead(t, c, 1000*nodes, all...)
		b := bothAt(t, c, 1000*nodes, all...)
		wantLoad(t, c, b.p.Save(), b.m)
		wantLoad(t, c, made(t, c).Save(), newModel(c))
	}
}

func TestLoadOfConfigsThatMayNotBe(t *testing.T) {
	// ErrArg is told of them whether or not the bytes are a record.
	for name, c := range wrongConfigs(t) {
		for _, b := range [][]byte{nil, {}, {0}, record(0, make([]node.Node, len(c.Names))...), record(5, ofEach()[:3]...), record(-1), {0x80}, bytes.Repeat([]byte{0xff}, 99)} {
			if p, err := pool.Load(c, b); p != nil || err != api.ErrArg {
				t.Errorf("Load, %s, of %v: %v, %v, want none, and ErrArg", name, b, p, err)
			}
		}
	}
}

func TestLoadOfNoRecord(t *testing.T) {
	for _, nodes := range []int{1, 2, 256} {
		c := config(t, nodes, 10, 5, 3)
		for _, b := range [][]byte{nil, {}, {0}, {0x80}, {0xff}, []byte("record"), bytes.Repeat([]byte{0x80}, 3*nodes+1), bytes.Repeat([]byte{0xff}, 5000)} {
			wantForm(t, c, b)
		}
	}
}

// example is a config, and nodes of it that have numbers of one byte and of more.
func example(t *testing.T) (conf.Config, int, []node.Node) {
	t.Helper()
	return config(t, 5, 10, 5, 3), 5000, []node.Node{
		{State: api.Busy, Since: 4999}, {Since: 5000, Tries: 3}, {State: api.Stopping, Tries: 100}, {State: api.Down, Since: 63, Tries: most}, {State: api.Booting, Since: 64, Tries: 63},
	}
}

func TestLoadOfARecordThatIsCutOff(t *testing.T) {
	c, now, nodes := example(t)
	b := record(now, nodes...)
	wantRead(t, c, now, nodes...)
	for n := range len(b) {
		wantForm(t, c, b[:n])
		wantForm(t, c, b[n+1:])
	}
}

func TestLoadOfARecordWithAByteMore(t *testing.T) {
	c, now, nodes := example(t)
	b := record(now, nodes...)
	for last := range 256 {
		wantForm(t, c, append(slices.Clone(b), byte(last)))
		wantForm(t, c, append(slices.Clone(b), byte(last), 0))
	}
}

// What has a byte more amid it is another record, where that byte makes a number longer, or none at all.
func TestLoadOfARecordWithAByteAmidIt(t *testing.T) {
	c, now, nodes := example(t)
	b := record(now, nodes...)
	for at := range b {
		for more := range 256 {
			wantAsRead(t, c, slices.Insert(slices.Clone(b), at, byte(more)))
		}
		if t.Failed() {
			return
		}
	}
}

// What is turned is another record, or none at all.
func TestLoadOfARecordWithAnyByteTurned(t *testing.T) {
	c, now, nodes := example(t)
	b := record(now, nodes...)
	records := 0
	for at := range b {
		for value := range 256 {
			turned := slices.Clone(b)
			turned[at] = byte(value)
			if wantAsRead(t, c, turned) {
				records++
			}
		}
		if t.Failed() {
			return
		}
	}
	if records <= len(b) || records > 128*len(b) {
		t.Errorf("%d are records, want some, and not all", records)
	}
}

// Each number is in its shortest form.
func TestLoadOfNumbersOfAnotherForm(t *testing.T) {
	c := config(t, 1, 10, 5, 3)
	wantForm(t, c, []byte{0x80, 0, 0, 0, 0})
	wantForm(t, c, []byte{0, 0x80, 0, 0, 0})
	wantForm(t, c, []byte{0, 0, 0x80, 0, 0})
	wantForm(t, c, []byte{0, 0, 0, 0x80, 0})
	wantForm(t, c, []byte{0x8a, 0, 0, 0, 0})
}

func TestLoadOfTimes(t *testing.T) {
	c := config(t, 2, 10, 5, 3)
	nodes := make([]node.Node, 2)
	for _, now := range []int{0, 1, 63, 64, 1 << 32, api.MaxTime - 1, api.MaxTime} {
		wantRead(t, c, now, nodes...)
	}
	for _, now := range []int{-1, -2, -1 << 32, math.MinInt, math.MinInt + 1, api.MaxTime + 1, 2 * api.MaxTime, most, math.MaxInt} {
		wantForm(t, c, record(now, nodes...))
	}
}

func TestLoadOfStates(t *testing.T) {
	c := config(t, 3, 10, 5, 3)
	for at := range 3 {
		nodes := []node.Node{{State: api.Idle, Since: 3}, {Tries: 2}, {State: api.Down, Since: 5}}
		for _, state := range states {
			nodes[at].State = state
			wantRead(t, c, 7, slices.Clone(nodes)...)
		}
		for _, state := range noStates {
			nodes[at].State = state
			wantForm(t, c, record(7, nodes...))
		}
	}
}

func TestLoadOfSince(t *testing.T) {
	c := config(t, 3, 10, 5, 3)
	for _, now := range []int{0, 7, 1 << 32, api.MaxTime} {
		for at := range 3 {
			nodes := []node.Node{{State: api.Idle}, {Tries: 2}, {State: api.Down}}
			for _, since := range []int{0, now / 2, max(now-1, 0), now} {
				nodes[at].Since = since
				wantRead(t, c, now, slices.Clone(nodes)...)
			}
			for _, since := range []int{-1, -2, -now - 1, math.MinInt, now + 1, now + 2, 2*now + 1, api.MaxTime + 1, math.MaxInt} {
				nodes[at].Since = since
				wantForm(t, c, record(now, nodes...))
			}
		}
	}
}

func TestLoadOfTries(t *testing.T) {
	c := config(t, 3, 10, 5, 3)
	for at := range 3 {
		nodes := []node.Node{{State: api.Idle}, {Tries: 2}, {State: api.Booting}}
		// More than the config's retry, too.
		for _, tries := range []int{0, 1, 3, 4, 100, 1 << 32, api.MaxTime + 1, most - 1, most} {
			nodes[at].Tries = tries
			wantRead(t, c, 7, slices.Clone(nodes)...)
		}
		for _, tries := range []int{-1, -2, -1 << 32, -most, math.MinInt, most + 1, most + 2, math.MaxInt - 1, math.MaxInt} {
			nodes[at].Tries = tries
			wantForm(t, c, record(7, nodes...))
		}
	}
}

func TestLoadOfOtherCountsOfNodes(t *testing.T) {
	for _, nodes := range []int{1, 2, 5, 64, 255, 256} {
		c := config(t, nodes, 10, 5, 3)
		for _, of := range []int{0, 1, nodes - 2, nodes - 1, nodes + 1, nodes + 2, 256, 257} {
			if of >= 0 && of != nodes {
				wantForm(t, c, record(9, make([]node.Node, of)...))
				wantForm(t, c, record(9, slices.Repeat([]node.Node{{State: api.Busy, Since: 9}}, of)...))
			}
		}
	}
}

func TestLoadOfSeveralThatMayNotBe(t *testing.T) {
	c := config(t, 2, 10, 5, 3)
	wantForm(t, c, record(-1, node.Node{State: 8, Since: -1, Tries: -1}, node.Node{}))
	wantForm(t, c, record(api.MaxTime+1, node.Node{State: -1, Since: api.MaxTime + 1}))
	wantForm(t, c, append(record(7, node.Node{Since: 8}, node.Node{Tries: -1}), 0x80))
}

func TestLoadOfManyBytesAsTheModel(t *testing.T) {
	r := rand.New(rand.NewSource(31))
	c := config(t, 3, 10, 5, 3)
	number := func(to int) int {
		if r.Intn(30) == 0 {
			return to + r.Intn(5) - 2
		}
		return r.Intn(to + 1)
	}
	records := 0
	for range 20000 {
		now := number([]int{0, 5, 5000, api.MaxTime}[r.Intn(4)])
		var nodes []node.Node
		for range 3 {
			nodes = append(nodes, node.Node{State: number(7), Since: number(max(now, 0)), Tries: number([]int{0, 5, most}[r.Intn(3)])})
		}
		b := record(now, nodes...)
		if r.Intn(4) == 0 {
			b[r.Intn(len(b))] = byte(r.Intn(256))
		}
		if wantAsRead(t, c, b) {
			records++
		}
		if t.Failed() {
			return
		}
	}
	if records < 2000 || records > 18000 {
		t.Errorf("%d of 20000 are records, want some, and not all", records)
	}
}

// What may be is of the config that Load has, whatever the one of Save had.
func TestLoadOfAnotherConfig(t *testing.T) {
	p := made(t, config(t, 2, 10, 5, 3))
	p.Do(0, powerOn)
	p.Do(1, powerOn)
	p.Do(1, booted)
	p.Do(1, powerOff)
	saved := p.Save()
	b := both{}
	b.m = newModel(config(t, 2, 2, 50, 0))
	b.m.nodes = []node.Node{{State: api.Booting}, {State: api.Stopping}}
	b.p, _ = pool.Load(config(t, 2, 2, 50, 0), saved)
	b.tick(t, 4)
	b.tick(t, 5, 0)
	if got := b.p.In(api.Down); got != bits.Of(0) {
		t.Errorf("%v are Down, want 0, with a retry of 0", bits.List(got))
	}
	b.tick(t, 49)
	b.tick(t, 50, 1)
}

// R4

func TestLoadDoesNotWriteIntoItsBytesOrKeepThem(t *testing.T) {
	c, now, nodes := example(t)
	b := record(now, nodes...)
	long := append(slices.Clone(b), 7, 7, 7)
	p, err := pool.Load(c, long[:len(b)])
	if err != api.OK || !bytes.Equal(long, append(slices.Clone(b), 7, 7, 7)) {
		t.Fatalf("Load = %v, and the bytes are %v behind it", err, long)
	}
	for i := range long {
		long[i] = 0xff
	}
	m := newModel(c)
	m.now, m.nodes = now, nodes
	wantAt(t, p, m)
	// What it saves is not the bytes that it has come from.
	saved := p.Save()
	for i := range saved {
		saved[i] = 0
	}
	wantAt(t, p, m)
}

// P12.6

func TestWhatWasSavedAndLoadedGoesOnAsWhatWasNot(t *testing.T) {
	r := rand.New(rand.NewSource(32))
	for range 40 {
		c := config(t, 1+r.Intn(80), 1+r.Intn(4), 1+r.Intn(5), r.Intn(4))
		b := bothOf(t, c)
		for range 100 {
			b.step(t, r)
			if r.Intn(4) == 0 {
				was := b.p
				again, err := pool.Load(c, was.Save())
				if err != api.OK {
					t.Fatalf("Load of what was saved: %v", err)
				}
				wantAt(t, again, b.m)
				b.p = again
				// The one that was saved is another one.
				m := b.m.copied()
				b.step(t, r)
				wantAt(t, was, m)
			}
			if t.Failed() {
				return
			}
		}
	}
}

// Two that go on side by side, one of them loaded at each step.
func TestALoadedPoolHasTheSameAnswers(t *testing.T) {
	r := rand.New(rand.NewSource(33))
	c := config(t, 12, 2, 3, 1)
	kept, other := made(t, c), made(t, c)
	for range 3000 {
		var err api.Errno
		if other, err = pool.Load(c, other.Save()); err != api.OK {
			t.Fatalf("Load of what was saved: %v", err)
		}
		i, event, now := r.Intn(13), r.Intn(12)+1, kept.Now()+r.Intn(4)
		s := api.Nodes{r.Uint64() & r.Uint64() & 0xfff}
		first, firstErr := kept.Tick(now)
		second, secondErr := other.Tick(now)
		if kept.Do(i, event) != other.Do(i, event) || kept.All(s, event) != other.All(s, event) || first != second || firstErr != secondErr {
			t.Fatalf("at %d, one that was loaded answers otherwise", now)
		}
		if !bytes.Equal(kept.Save(), other.Save()) {
			t.Fatalf("at %d, one that was loaded is at another place", now)
		}
	}
}
