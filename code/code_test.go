package code_test

import (
	"bytes"
	"encoding/binary"
	"math"
	"math/rand"
	"slices"
	"strings"
	"testing"

	"marlinspike/api"
	"marlinspike/code"
)

var none api.Fault

// model are the bytes of numbers, by the library's own way, which is the same one.
func model(numbers ...int) []byte {
	var b []byte
	for _, n := range numbers {
		b = binary.AppendVarint(b, int64(n))
	}
	return b
}

// modelText are the bytes of texts.
func modelText(texts ...string) []byte {
	var b []byte
	for _, s := range texts {
		b = append(append(b, model(len(s))...), s...)
	}
	return b
}

// modelNodes are the bytes of a set.
func modelNodes(s api.Nodes) []byte {
	var b []byte
	for _, word := range s {
		b = binary.LittleEndian.AppendUint64(b, word)
	}
	return b
}

// put are the bytes of numbers, by a Writer.
func put(numbers ...int) []byte {
	var w code.Writer
	w.Int(numbers...)
	return w.Bytes()
}

// putText are the bytes of texts, by a Writer.
func putText(texts ...string) []byte {
	var w code.Writer
	w.Text(texts...)
	return w.Bytes()
}

// putNodes are the bytes of a set, by a Writer.
func putNodes(s api.Nodes) []byte {
	var w code.Writer
	w.Nodes(s)
	return w.Bytes()
}

// numbers are many numbers: all edges of how many bytes they have, and others of all sizes.
func numbers() []int {
	l := []int{0, 1, -1, 2, -2, math.MaxInt, math.MinInt, math.MaxInt - 1, math.MinInt + 1}
	for bits := range 63 {
		n := 1 << bits
		l = append(l, n-1, n, n+1, -n+1, -n, -n-1)
	}
	r := rand.New(rand.NewSource(1))
	for bits := range 64 {
		n := int(r.Uint64() >> bits)
		l = append(l, n, ^n)
	}
	return l
}

// sets are some sets of nodes.
func sets() []api.Nodes {
	full := uint64(math.MaxUint64)
	l := []api.Nodes{{}, {1}, {0, 1}, {0, 0, 1}, {0, 0, 0, 1}, {0, 0, 0, 1 << 63}, {full, full, full, full}, {0x0807060504030201, 2, 3, 4}}
	r := rand.New(rand.NewSource(2))
	for range 20 {
		l = append(l, api.Nodes{r.Uint64(), r.Uint64(), r.Uint64(), r.Uint64()})
	}
	return l
}

// texts are some texts, around the places where how many bytes they have has one byte more.
func texts() []string {
	l := []string{"", "a", "\x00", "\xff\xfe", "ein Wörtchen", "\x80\x80"}
	for _, n := range []int{62, 63, 64, 65, 127, 128, 8191, 8192, 8193, api.MaxText, api.MaxText + 1} {
		l = append(l, strings.Repeat("x", n), strings.Repeat("\xff", n))
	}
	return l
}

// want holds a Reader's state against what it should be: its fault, and how many bytes are left.
func want(t *testing.T, what string, r *code.Reader, fault api.Fault, left int) {
	t.Helper()
	if f, n := r.Fault(), r.Left(); f != fault || n != left {
		t.Errorf("%s: fault %v and %d left, want %v and %d", what, f, n, fault, left)
	}
}

// wantStopped tells of anything that is read of a Reader that has that fault, and of a fault or a place that such a read turns.
func wantStopped(t *testing.T, what string, r *code.Reader, fault api.Fault, left int) {
	t.Helper()
	want(t, what, r, fault, left)
	for _, c := range reads() {
		if got := c.read(r); got != c.zero {
			t.Errorf("%s: %s behind the fault = %v", what, c.name, got)
		}
		want(t, what+", then "+c.name, r, fault, left)
	}
	if f := r.End(); f != fault {
		t.Errorf("%s: End = %v, want %v", what, f, fault)
	}
	want(t, what+", then End", r, fault, left)
}

// a read is a call that reads, and what it answers behind a fault.
type read struct {
	name string
	read func(r *code.Reader) any
	zero any
}

func reads() []read {
	in := func(low, high int) func(r *code.Reader) any {
		return func(r *code.Reader) any { return r.In(low, high) }
	}
	text := func(most int) func(r *code.Reader) any {
		return func(r *code.Reader) any { return r.Text(most) }
	}
	return []read{
		{"Int", func(r *code.Reader) any { return r.Int() }, 0},
		{"In(least, greatest)", in(math.MinInt, math.MaxInt), 0},
		{"In(5, 9)", in(5, 9), 0},
		{"In(9, 5)", in(9, 5), 0},
		{"In(0, 0)", in(0, 0), 0},
		{"Text(greatest)", text(math.MaxInt), ""},
		{"Text(0)", text(0), ""},
		{"Text(-1)", text(-1), ""},
		{"Nodes", func(r *code.Reader) any { return r.Nodes() }, api.Nodes{}},
	}
}

// ints reads b's numbers one by one, till there is none any more or one is refused.
func ints(b []byte) ([]int, *code.Reader) {
	r := code.New(b)
	var l []int
	for r.Left() > 0 {
		n := r.Int()
		if r.Fault() != none {
			break
		}
		l = append(l, n)
	}
	return l, r
}

// P4.1: numbers.

func TestBytesOfNumbers(t *testing.T) {
	for _, c := range []struct {
		n int
		b string
	}{
		{0, "\x00"},
		{-1, "\x01"},
		{1, "\x02"},
		{-2, "\x03"},
		{2, "\x04"},
		{63, "\x7e"},
		{-64, "\x7f"},
		{64, "\x80\x01"},
		{-65, "\x81\x01"},
		{65, "\x82\x01"},
		{8191, "\xfe\x7f"},
		{-8192, "\xff\x7f"},
		{8192, "\x80\x80\x01"},
		{1 << 62, "\x80\x80\x80\x80\x80\x80\x80\x80\x80\x01"},
		{1<<62 - 1, "\xfe\xff\xff\xff\xff\xff\xff\xff\x7f"},
		{-1 << 62, "\xff\xff\xff\xff\xff\xff\xff\xff\x7f"},
		{-1<<62 - 1, "\x81\x80\x80\x80\x80\x80\x80\x80\x80\x01"},
		{math.MaxInt, "\xfe\xff\xff\xff\xff\xff\xff\xff\xff\x01"},
		{math.MinInt, "\xff\xff\xff\xff\xff\xff\xff\xff\xff\x01"},
	} {
		if b := put(c.n); string(b) != c.b {
			t.Errorf("Int(%d) = % x, want % x", c.n, b, c.b)
		}
		r := code.New([]byte(c.b))
		if n := r.Int(); n != c.n {
			t.Errorf("Int of % x = %d, want %d", c.b, n, c.n)
		}
		want(t, "its end", r, none, 0)
	}
}

func TestBytesOfAllKindsOfNumbers(t *testing.T) {
	for _, n := range numbers() {
		if b := put(n); !bytes.Equal(b, model(n)) {
			t.Errorf("Int(%d) = % x, want % x", n, b, model(n))
		}
	}
}

func TestIntPutsAnyNumberOfNumbers(t *testing.T) {
	for _, l := range [][]int{nil, {}, {0}, {0, 0, 0}, {-1, 64}, {64, -1}, numbers()} {
		if b := put(l...); !bytes.Equal(b, model(l...)) {
			t.Errorf("Int(%v) = % x, want % x", l, b, model(l...))
		}
	}
}

// P4.1: texts and sets.

func TestBytesOfTexts(t *testing.T) {
	for _, c := range []struct {
		texts []string
		b     string
	}{
		{nil, ""},
		{[]string{""}, "\x00"},
		{[]string{"", ""}, "\x00\x00"},
		{[]string{"a"}, "\x02a"},
		{[]string{"ab", "", "c"}, "\x04ab\x00\x02c"},
		{[]string{"\x00\xff"}, "\x04\x00\xff"},
		{[]string{strings.Repeat("x", 63)}, "\x7e" + strings.Repeat("x", 63)},
		{[]string{strings.Repeat("x", 64)}, "\x80\x01" + strings.Repeat("x", 64)},
	} {
		if b := putText(c.texts...); string(b) != c.b {
			t.Errorf("Text(%q) = % x, want % x", c.texts, b, c.b)
		}
	}
	if b := putText(texts()...); !bytes.Equal(b, modelText(texts()...)) {
		t.Error("Text of all")
	}
}

func TestBytesOfSets(t *testing.T) {
	want := "\x01\x02\x03\x04\x05\x06\x07\x08" + "\x02\x00\x00\x00\x00\x00\x00\x00" + "\x00\x00\x00\x00\x00\x00\x00\x80" + "\xff\xff\xff\xff\xff\xff\xff\xff"
	if b := putNodes(api.Nodes{0x0807060504030201, 2, 1 << 63, math.MaxUint64}); string(b) != want {
		t.Errorf("Nodes = % x, want % x", b, want)
	}
	for _, s := range sets() {
		if b := putNodes(s); !bytes.Equal(b, modelNodes(s)) {
			t.Errorf("Nodes(%x) = % x, want % x", s, b, modelNodes(s))
		}
	}
}

func TestPutsStandBehindOneAnother(t *testing.T) {
	var w code.Writer
	var all []byte
	for i, n := range numbers() {
		s := strings.Repeat("t", i%80)
		set := api.Nodes{uint64(n), 1, 2, uint64(i)}
		w.Int(n, i)
		w.Text(s)
		w.Nodes(set)
		w.Int()
		w.Text()
		all = slices.Concat(all, model(n, i), modelText(s), modelNodes(set))
		if b := w.Bytes(); !bytes.Equal(b, all) {
			t.Fatalf("behind %d puts: %d bytes, want %d", 3*i+3, len(b), len(all))
		}
	}
}

func TestAZeroWriterHasNothing(t *testing.T) {
	var w code.Writer
	if b := w.Bytes(); len(b) != 0 {
		t.Errorf("Bytes = % x", b)
	}
	w.Int()
	w.Text()
	if b := w.Bytes(); len(b) != 0 {
		t.Errorf("Bytes behind puts of nothing = % x", b)
	}
	w.Int(7)
	if b := w.Bytes(); string(b) != "\x0e" {
		t.Errorf("Bytes behind Int(7) = % x", b)
	}
}

func TestANilWriterPutsNothing(t *testing.T) {
	var w *code.Writer
	w.Int(1, 2)
	w.Int()
	w.Text("a", "b")
	w.Text()
	w.Nodes(api.Nodes{1, 2, 3, 4})
	if b := w.Bytes(); len(b) != 0 {
		t.Errorf("Bytes = % x", b)
	}
}

// P4.2: Int.

func TestIntOfWhatStandsBehind(t *testing.T) {
	r := code.New([]byte("\x01\x80\x01\xff\xff\xff\xff\xff\xff\xff\xff\xff\x01\x00"))
	for i, c := range []struct{ n, left int }{{-1, 13}, {64, 11}, {math.MinInt, 1}, {0, 0}} {
		if n := r.Int(); n != c.n {
			t.Errorf("number %d = %d, want %d", i, n, c.n)
		}
		want(t, "behind it", r, none, c.left)
	}
	if f := r.End(); f != none {
		t.Errorf("End = %v", f)
	}
	if n := r.Int(); n != 0 {
		t.Errorf("Int at the end = %d", n)
	}
	wantStopped(t, "at the end", r, api.Fault{Why: api.ErrEnd, At: 14}, 0)
}

func TestIntRefuses(t *testing.T) {
	nine := strings.Repeat("\x80", 9)
	full := strings.Repeat("\xff", 9)
	for _, c := range []struct {
		b     string
		fault api.Fault
	}{
		// Numbers that do not end.
		{"", api.Fault{Why: api.ErrEnd, At: 0}},
		{"\x80", api.Fault{Why: api.ErrEnd, At: 1}},
		{"\xff", api.Fault{Why: api.ErrEnd, At: 1}},
		{"\x81\x80\xff", api.Fault{Why: api.ErrEnd, At: 3}},
		{nine, api.Fault{Why: api.ErrEnd, At: 9}},
		{full, api.Fault{Why: api.ErrEnd, At: 9}},
		// A last byte of 0.
		{"\x80\x00", api.Fault{Why: api.ErrForm, At: 1}},
		{"\xff\x00", api.Fault{Why: api.ErrForm, At: 1}},
		{"\x80\x00\x01", api.Fault{Why: api.ErrForm, At: 1}},
		{"\x80\x80\x00", api.Fault{Why: api.ErrForm, At: 2}},
		{"\xff\x80\x80\x80\x00", api.Fault{Why: api.ErrForm, At: 4}},
		{nine[:8] + "\x00", api.Fault{Why: api.ErrForm, At: 8}},
		{nine + "\x00", api.Fault{Why: api.ErrForm, At: 9}},
		{full + "\x00", api.Fault{Why: api.ErrForm, At: 9}},
		// A tenth byte above 1, whether or not the number ends.
		{nine + "\x02", api.Fault{Why: api.ErrForm, At: 9}},
		{full + "\x03", api.Fault{Why: api.ErrForm, At: 9}},
		{full + "\x7f", api.Fault{Why: api.ErrForm, At: 9}},
		{full + "\x80", api.Fault{Why: api.ErrForm, At: 9}},
		{full + "\x81", api.Fault{Why: api.ErrForm, At: 9}},
		{full + "\xff", api.Fault{Why: api.ErrForm, At: 9}},
		{nine + "\x80\x01", api.Fault{Why: api.ErrForm, At: 9}},
		{nine + "\x81\x00", api.Fault{Why: api.ErrForm, At: 9}},
		{full + "\xff\xff\x01", api.Fault{Why: api.ErrForm, At: 9}},
	} {
		for _, ahead := range [][]int{nil, {0}, {64}, {math.MinInt, -1, 300}} {
			first := model(ahead...)
			fault := api.Fault{Why: c.fault.Why, At: c.fault.At + len(first)}
			for name, read := range map[string]func(r *code.Reader) any{
				"Int":  func(r *code.Reader) any { return r.Int() },
				"In":   func(r *code.Reader) any { return r.In(1, 0) },
				"Text": func(r *code.Reader) any { return r.Text(-1) },
			} {
				r := code.New(append(slices.Clone(first), c.b...))
				for _, n := range ahead {
					if got := r.Int(); got != n {
						t.Fatalf("ahead of % x: %d, want %d", c.b, got, n)
					}
				}
				if got := read(r); got != 0 && got != "" {
					t.Errorf("%s of % x = %v", name, c.b, got)
				}
				wantStopped(t, name, r, fault, len(c.b))
			}
		}
	}
}

func TestIntTakesATenthByteOfOneAndZerosInBetween(t *testing.T) {
	for _, n := range []int{math.MaxInt, math.MinInt, 1 << 62, -1<<62 - 1, 1 << 61, 64 << 56, 1 << 13} {
		r := code.New(append(model(n), 0xff))
		if got := r.Int(); got != n {
			t.Errorf("Int = %d, want %d", got, n)
		}
		want(t, "behind it", r, none, 1)
	}
}

// P4.2: In.

func TestInAtItsLimits(t *testing.T) {
	for _, c := range []struct {
		n, low, high int
		in           bool
	}{
		{5, 5, 9, true},
		{9, 5, 9, true},
		{7, 5, 9, true},
		{4, 5, 9, false},
		{10, 5, 9, false},
		{0, 5, 9, false},
		{-7, 5, 9, false},
		{-1, 0, 1, false},
		{2, 0, 1, false},
		{0, 0, 0, true},
		{1, 0, 0, false},
		{-1, 0, 0, false},
		{-9, -9, -5, true},
		{-5, -9, -5, true},
		{-10, -9, -5, false},
		{-4, -9, -5, false},
		{7, 9, 5, false},
		{5, 9, 5, false},
		{9, 9, 5, false},
		{math.MaxInt, math.MinInt, math.MaxInt, true},
		{math.MinInt, math.MinInt, math.MaxInt, true},
		{math.MaxInt, math.MinInt, math.MaxInt - 1, false},
		{math.MinInt, math.MinInt + 1, math.MaxInt, false},
		{math.MaxInt, math.MaxInt, math.MaxInt, true},
		{math.MinInt, math.MinInt, math.MinInt, true},
		{0, math.MaxInt, math.MinInt, false},
	} {
		r := code.New(append(model(300, c.n), 0x7f))
		if n := r.Int(); n != 300 {
			t.Fatalf("Int = %d", n)
		}
		got := r.In(c.low, c.high)
		if c.in {
			if got != c.n {
				t.Errorf("In(%d, %d) of %d = %d", c.low, c.high, c.n, got)
			}
			want(t, "In", r, none, 1)
			continue
		}
		if got != 0 {
			t.Errorf("In(%d, %d) of %d = %d", c.low, c.high, c.n, got)
		}
		wantStopped(t, "In", r, api.Fault{Why: api.ErrMany, At: 2}, len(model(c.n))+1)
	}
}

// P4.2: Text.

func TestTextAtMost(t *testing.T) {
	for _, s := range texts() {
		for _, most := range []int{len(s) - 1, len(s), len(s) + 1, math.MaxInt} {
			b := slices.Concat(model(-300), modelText(s), []byte("more"))
			r := code.New(b)
			if n := r.Int(); n != -300 {
				t.Fatalf("Int = %d", n)
			}
			got := r.Text(most)
			if most >= len(s) {
				if got != s {
					t.Errorf("Text(%d) of %d bytes has %d", most, len(s), len(got))
				}
				want(t, "Text", r, none, 4)
				continue
			}
			if got != "" {
				t.Errorf("Text(%d) of %d bytes has %d", most, len(s), len(got))
			}
			wantStopped(t, "Text", r, api.Fault{Why: api.ErrMany, At: 2}, len(b)-2)
		}
	}
}

func TestTextRefuses(t *testing.T) {
	for _, c := range []struct {
		size  int
		bytes string
		most  int
		fault api.Fault
	}{
		// Fewer than 0.
		{-1, "abc", 9, api.Fault{Why: api.ErrMany}},
		{-1, "", math.MaxInt, api.Fault{Why: api.ErrMany}},
		{math.MinInt, "abc", math.MaxInt, api.Fault{Why: api.ErrMany}},
		{-3, "abc", -3, api.Fault{Why: api.ErrMany}},
		// More than most, ahead of those that are missing.
		{4, "abcd", 3, api.Fault{Why: api.ErrMany}},
		{4, "abc", 3, api.Fault{Why: api.ErrMany}},
		{1, "", 0, api.Fault{Why: api.ErrMany}},
		{0, "", -1, api.Fault{Why: api.ErrMany}},
		{0, "", math.MinInt, api.Fault{Why: api.ErrMany}},
		{math.MaxInt, "abc", math.MaxInt - 1, api.Fault{Why: api.ErrMany}},
		// Some are missing.
		{1, "", 1, api.Fault{Why: api.ErrEnd, At: 1}},
		{4, "abc", 4, api.Fault{Why: api.ErrEnd, At: 4}},
		{4, "", 9, api.Fault{Why: api.ErrEnd, At: 1}},
		{64, strings.Repeat("x", 63), 64, api.Fault{Why: api.ErrEnd, At: 65}},
		{math.MaxInt, "abc", math.MaxInt, api.Fault{Why: api.ErrEnd, At: 13}},
		{math.MaxInt - 9, "abc", math.MaxInt, api.Fault{Why: api.ErrEnd, At: 13}},
		{1 << 62, "abc", math.MaxInt, api.Fault{Why: api.ErrEnd, At: 13}},
	} {
		b := append(model(c.size), c.bytes...)
		r := code.New(b)
		if s := r.Text(c.most); s != "" {
			t.Errorf("Text(%d) of %d in % x = %q", c.most, c.size, c.bytes, s)
		}
		wantStopped(t, "Text", r, c.fault, len(b))

		r = code.New(append([]byte{0x7e}, b...))
		if n := r.Int(); n != 63 {
			t.Fatalf("Int = %d", n)
		}
		r.Text(c.most)
		wantStopped(t, "Text behind a number", r, api.Fault{Why: c.fault.Why, At: c.fault.At + 1}, len(b))
	}
}

func TestTextOfExactlyWhatIsLeft(t *testing.T) {
	r := code.New([]byte("\x04ab\x02c\x00"))
	for i, c := range []struct {
		s    string
		left int
	}{{"ab", 3}, {"c", 1}, {"", 0}} {
		if s := r.Text(2); s != c.s {
			t.Errorf("text %d = %q, want %q", i, s, c.s)
		}
		want(t, "behind it", r, none, c.left)
	}
	if f := r.End(); f != none {
		t.Errorf("End = %v", f)
	}
}

// P4.2: Nodes.

func TestNodesThatEndTooEarly(t *testing.T) {
	b := modelNodes(api.Nodes{math.MaxUint64, math.MaxUint64, math.MaxUint64, math.MaxUint64})
	for n := range 32 {
		r := code.New(b[:n])
		if s := r.Nodes(); s != (api.Nodes{}) {
			t.Errorf("Nodes of %d bytes = %x", n, s)
		}
		wantStopped(t, "Nodes", r, api.Fault{Why: api.ErrEnd, At: n}, n)

		r = code.New(append(model(64), b[:n]...))
		if got := r.Int(); got != 64 {
			t.Fatalf("Int = %d", got)
		}
		r.Nodes()
		wantStopped(t, "Nodes behind a number", r, api.Fault{Why: api.ErrEnd, At: n + 2}, n)
	}
}

func TestNodesOfWhatStandsBehind(t *testing.T) {
	for _, s := range sets() {
		r := code.New(slices.Concat(model(1), modelNodes(s), modelNodes(s), []byte{9}))
		if n := r.Int(); n != 1 {
			t.Fatalf("Int = %d", n)
		}
		for i := range 2 {
			if got := r.Nodes(); got != s {
				t.Errorf("Nodes = %x, want %x", got, s)
			}
			want(t, "Nodes", r, none, 33-32*i)
		}
	}
}

// P4.2: Left, Fault, End.

func TestEndRefusesWhatIsLeft(t *testing.T) {
	b := []byte("\x80\x01\x04ab\x02\x02")
	r := code.New(b)
	want(t, "at first", r, none, 7)
	r.Int()
	r.Text(2)
	want(t, "behind two", r, none, 2)
	if f := r.End(); f != (api.Fault{Why: api.ErrForm, At: 5}) {
		t.Errorf("End = %v", f)
	}
	wantStopped(t, "behind End", r, api.Fault{Why: api.ErrForm, At: 5}, 2)

	r = code.New(b)
	if f := r.End(); f != (api.Fault{Why: api.ErrForm, At: 0}) {
		t.Errorf("End at first = %v", f)
	}
	wantStopped(t, "behind End at first", r, api.Fault{Why: api.ErrForm, At: 0}, 7)
}

func TestEndOfNothingLeft(t *testing.T) {
	for _, b := range [][]byte{nil, {}} {
		r := code.New(b)
		for range 3 {
			if f := r.End(); f != none {
				t.Errorf("End of no bytes = %v", f)
			}
			want(t, "no bytes", r, none, 0)
		}
	}
	r := code.New([]byte{2})
	r.Int()
	if f := r.End(); f != none {
		t.Errorf("End = %v", f)
	}
	want(t, "behind End", r, none, 0)
	r.Nodes()
	wantStopped(t, "Nodes behind End", r, api.Fault{Why: api.ErrEnd, At: 1}, 0)
}

// The first fault is End's answer too, though bytes are left, and whether or not there would be a fault of its own.
func TestEndBehindAFault(t *testing.T) {
	for _, c := range []struct {
		b     string
		read  func(r *code.Reader)
		fault api.Fault
		left  int
	}{
		{"", func(r *code.Reader) { r.Int() }, api.Fault{Why: api.ErrEnd, At: 0}, 0},
		{"\x02\x80", func(r *code.Reader) { r.Int(); r.Int() }, api.Fault{Why: api.ErrEnd, At: 2}, 1},
		{"\x02\x80\x00\x02", func(r *code.Reader) { r.Int(); r.Int() }, api.Fault{Why: api.ErrForm, At: 2}, 3},
		{"\x02\x06\x02", func(r *code.Reader) { r.Int(); r.In(0, 2) }, api.Fault{Why: api.ErrMany, At: 1}, 2},
		{"\x02\x06abc", func(r *code.Reader) { r.Int(); r.Text(2) }, api.Fault{Why: api.ErrMany, At: 1}, 4},
		{"\x02\x06ab", func(r *code.Reader) { r.Int(); r.Text(3) }, api.Fault{Why: api.ErrEnd, At: 4}, 3},
		{"\x02\x06ab", func(r *code.Reader) { r.Int(); r.Nodes() }, api.Fault{Why: api.ErrEnd, At: 4}, 3},
	} {
		r := code.New([]byte(c.b))
		c.read(r)
		if f := r.End(); f != c.fault {
			t.Errorf("% x: End = %v, want %v", c.b, f, c.fault)
		}
		wantStopped(t, "End", r, c.fault, c.left)
	}
}

func TestANilReaderReadsNothing(t *testing.T) {
	var r *code.Reader
	wantStopped(t, "nil", r, api.Fault{Why: api.ErrEnd, At: 0}, 0)
}

func TestAReaderThatNobodyMadeHasNoBytes(t *testing.T) {
	for _, c := range reads() {
		r := &code.Reader{}
		want(t, "zero", r, none, 0)
		if f := r.End(); f != none {
			t.Errorf("End = %v", f)
		}
		if got := c.read(r); got != c.zero {
			t.Errorf("%s = %v", c.name, got)
		}
		wantStopped(t, "zero, then "+c.name, r, api.Fault{Why: api.ErrEnd, At: 0}, 0)
	}
}

// P4.3.

func TestWhatIsPutIsGot(t *testing.T) {
	var w code.Writer
	w.Int(numbers()...)
	w.Text(texts()...)
	for _, s := range sets() {
		w.Nodes(s)
	}
	r := code.New(w.Bytes())
	for _, n := range numbers() {
		if got := r.Int(); got != n {
			t.Fatalf("Int = %d, want %d", got, n)
		}
	}
	for _, s := range texts() {
		if got := r.Text(len(s)); got != s {
			t.Fatalf("Text has %d bytes, want %d", len(got), len(s))
		}
	}
	for _, s := range sets() {
		if got := r.Nodes(); got != s {
			t.Fatalf("Nodes = %x, want %x", got, s)
		}
	}
	if f := r.End(); f != none {
		t.Errorf("End = %v", f)
	}
	want(t, "all", r, none, 0)
}

func TestWhatIsPutInAnyOrderIsGot(t *testing.T) {
	rnd := rand.New(rand.NewSource(3))
	for range 500 {
		var w code.Writer
		var get []func(r *code.Reader) bool
		for range rnd.Intn(30) {
			switch rnd.Intn(3) {
			case 0:
				n := int(rnd.Uint64()) >> rnd.Intn(64)
				w.Int(n)
				get = append(get, func(r *code.Reader) bool { return r.In(n, n) == n })
			case 1:
				b := make([]byte, rnd.Intn(200))
				rnd.Read(b)
				w.Text(string(b))
				get = append(get, func(r *code.Reader) bool { return r.Text(len(b)) == string(b) })
			case 2:
				s := api.Nodes{rnd.Uint64(), rnd.Uint64(), rnd.Uint64(), rnd.Uint64()}
				w.Nodes(s)
				get = append(get, func(r *code.Reader) bool { return r.Nodes() == s })
			}
		}
		b := w.Bytes()
		r := code.New(b)
		for i, g := range get {
			if !g(r) || r.Fault() != none {
				t.Fatalf("item %d of % x is not got", i, b)
			}
		}
		if f := r.End(); f != none {
			t.Fatalf("End of % x = %v", b, f)
		}
	}
}

// P4.4.

// wantOneForm tells of bytes that are read as numbers, though those have other bytes.
func wantOneForm(t *testing.T, b []byte) {
	t.Helper()
	l, r := ints(b)
	whole := len(b) - r.Left()
	if got := put(l...); !bytes.Equal(got, b[:whole]) {
		t.Fatalf("% x is read as %v, whose bytes are % x", b, l, got)
	}
	if (r.Fault() == none) != (whole == len(b)) {
		t.Fatalf("% x: fault %v, and %d left", b, r.Fault(), r.Left())
	}
}

func TestNumbersHaveOneForm(t *testing.T) {
	for a := range 256 {
		wantOneForm(t, []byte{byte(a)})
		for b := range 256 {
			wantOneForm(t, []byte{byte(a), byte(b)})
			for _, c := range []byte{0, 1, 2, 63, 64, 127, 128, 129, 254, 255} {
				wantOneForm(t, []byte{byte(a), byte(b), c})
			}
		}
	}
	rnd := rand.New(rand.NewSource(4))
	for range 20000 {
		b := make([]byte, rnd.Intn(24))
		for i := range b {
			// Most bytes with the bit that there are more, else no number is long.
			b[i] = byte(rnd.Intn(256))
			if rnd.Intn(3) > 0 {
				b[i] |= 0x80
			}
			if rnd.Intn(10) == 0 {
				b[i] = byte(rnd.Intn(3))
			}
		}
		wantOneForm(t, b)
	}
}

func TestEachNumberHasAFormOfItsOwn(t *testing.T) {
	seen := map[string]int{}
	for n := -20000; n <= 20000; n++ {
		b := put(n)
		if other, ok := seen[string(b)]; ok {
			t.Fatalf("%d and %d are both % x", n, other, b)
		}
		seen[string(b)] = n
	}
}

// P4.5.

func TestARecordCutOffAnywhereIsToldOf(t *testing.T) {
	var w code.Writer
	w.Int(7, -70, math.MinInt)
	w.Text("some", strings.Repeat("y", 70))
	w.Nodes(api.Nodes{1, math.MaxUint64, 3, 4})
	w.Int(1)
	b := w.Bytes()
	for n := range b {
		r := code.New(b[:n])
		read := func() {
			r.Int()
			r.Int()
			r.Int()
			r.Text(4)
			r.Text(100)
			r.Nodes()
		}
		read()
		if got := r.Int(); got != 0 {
			t.Errorf("%d bytes: the last number = %d", n, got)
		}
		wantStopped(t, "cut off", r, api.Fault{Why: api.ErrEnd, At: n}, r.Left())
	}
}

func TestBehindAFaultNothingIsGot(t *testing.T) {
	// What stands behind could be read, from any place on: all of it is 1s, or texts of one byte.
	behind := bytes.Repeat([]byte{2}, 100)
	for _, c := range []struct {
		name  string
		b     []byte
		read  func(r *code.Reader)
		fault api.Fault
	}{
		{"Int", []byte{0x80, 0}, func(r *code.Reader) { r.Int() }, api.Fault{Why: api.ErrForm, At: 1}},
		{"tenth byte", append(bytes.Repeat([]byte{0x82}, 9), 2), func(r *code.Reader) { r.Int() }, api.Fault{Why: api.ErrForm, At: 9}},
		{"In, below", []byte{2}, func(r *code.Reader) { r.In(2, 3) }, api.Fault{Why: api.ErrMany}},
		{"In, above", []byte{2}, func(r *code.Reader) { r.In(-1, 0) }, api.Fault{Why: api.ErrMany}},
		{"Text, above", []byte{2}, func(r *code.Reader) { r.Text(0) }, api.Fault{Why: api.ErrMany}},
		{"Text, below", []byte{1}, func(r *code.Reader) { r.Text(9) }, api.Fault{Why: api.ErrMany}},
		{"Text, missing", model(200), func(r *code.Reader) { r.Text(200) }, api.Fault{Why: api.ErrEnd, At: 102}},
		{"End", []byte{2}, func(r *code.Reader) { r.End() }, api.Fault{Why: api.ErrForm}},
	} {
		b := append(c.b, behind...)
		r := code.New(b)
		c.read(r)
		for range 3 {
			wantStopped(t, c.name, r, c.fault, len(b))
		}
	}
}

// R1, R3: any bytes are taken, by any calls, with the same answers each time.

// a modelReader reads by rules written another way.
type modelReader struct {
	b     []byte
	at    int
	fault api.Fault
}

// number is the number that comes next, and where it ends; or the fault.
func (m *modelReader) number() (int, int, api.Fault) {
	last := m.at
	for last < len(m.b) && last < m.at+9 && m.b[last] >= 0x80 {
		last++
	}
	switch {
	case last == len(m.b):
		return 0, 0, api.Fault{Why: api.ErrEnd, At: last}
	case last == m.at+9 && m.b[last] > 1, last > m.at && m.b[last] == 0:
		return 0, 0, api.Fault{Why: api.ErrForm, At: last}
	}
	n, size := binary.Varint(m.b[m.at:])
	return int(n), m.at + size, none
}

// goOn tells whether a read is answered, and goes on to its end then.
func (m *modelReader) goOn(end int, f api.Fault) bool {
	switch {
	case m.fault != none:
		return false
	case f != none:
		m.fault = f
		return false
	}
	m.at = end
	return true
}

func (m *modelReader) in(low, high int) int {
	n, end, f := m.number()
	if f == none && (n < low || n > high) {
		f = api.Fault{Why: api.ErrMany, At: m.at}
	}
	if m.goOn(end, f) {
		return n
	}
	return 0
}

func (m *modelReader) text(most int) string {
	n, from, f := m.number()
	switch {
	case f != none:
	case n < 0 || n > most:
		f = api.Fault{Why: api.ErrMany, At: m.at}
	case from+n > len(m.b):
		f = api.Fault{Why: api.ErrEnd, At: len(m.b)}
	}
	if m.goOn(from+n, f) {
		return string(m.b[from:m.at])
	}
	return ""
}

func (m *modelReader) nodes() (s api.Nodes) {
	f := none
	if m.at+32 > len(m.b) {
		f = api.Fault{Why: api.ErrEnd, At: len(m.b)}
	}
	if m.goOn(m.at+32, f) {
		for w := range s {
			s[w] = binary.LittleEndian.Uint64(m.b[m.at-32+8*w:])
		}
	}
	return s
}

func (m *modelReader) end() api.Fault {
	if m.fault == none && m.at < len(m.b) {
		m.fault = api.Fault{Why: api.ErrForm, At: m.at}
	}
	return m.fault
}

// anyCall is one call, to a Reader and to the model.
func anyCall(rnd *rand.Rand) (name string, call func(r *code.Reader) any, model func(m *modelReader) any) {
	switch rnd.Intn(13) {
	case 0, 1, 2:
		return "Int", func(r *code.Reader) any { return r.Int() }, func(m *modelReader) any { return m.in(math.MinInt, math.MaxInt) }
	case 3, 4, 5:
		low, high := rnd.Intn(60)-40, rnd.Intn(60)-20
		return "In", func(r *code.Reader) any { return r.In(low, high) }, func(m *modelReader) any { return m.in(low, high) }
	case 6, 7, 8:
		most := rnd.Intn(40) - 2
		return "Text", func(r *code.Reader) any { return r.Text(most) }, func(m *modelReader) any { return m.text(most) }
	case 9, 10, 11:
		return "Nodes", func(r *code.Reader) any { return r.Nodes() }, func(m *modelReader) any { return m.nodes() }
	}
	return "End", func(r *code.Reader) any { return r.End() }, func(m *modelReader) any { return m.end() }
}

func TestAnyBytesByAnyCalls(t *testing.T) {
	rnd := rand.New(rand.NewSource(5))
	for range 20000 {
		b := make([]byte, rnd.Intn(100))
		rnd.Read(b)
		// Many small ones, else most texts are too long, and most numbers too.
		for i := range b {
			if rnd.Intn(2) == 0 {
				b[i] &= 0x1f
			}
		}
		r, again, m := code.New(b), code.New(b), &modelReader{b: b}
		for range rnd.Intn(12) {
			name, call, model := anyCall(rnd)
			got, other, expected := call(r), call(again), model(m)
			if got != expected || other != expected {
				t.Fatalf("% x: %s = %v, and %v again, want %v", b, name, got, other, expected)
			}
			if r.Fault() != m.fault || r.Left() != len(b)-m.at {
				t.Fatalf("% x: behind %s fault %v and %d left, want %v and %d", b, name, r.Fault(), r.Left(), m.fault, len(b)-m.at)
			}
		}
	}
}

// R4.

// scrawl writes over bytes, and over all the room behind them.
func scrawl(b []byte) {
	full := b[:cap(b)]
	for i := range full {
		full[i] ^= 0x55
	}
}

func TestAReaderKeepsNoBytesThatItWasHanded(t *testing.T) {
	b := slices.Concat(model(70), modelText("some"), modelNodes(api.Nodes{1, 2, 3, 4}), model(9))
	in := append(slices.Clone(b), make([]byte, 50)...)[:len(b)]
	r := code.New(in)
	scrawl(in)
	if n := r.Int(); n != 70 {
		t.Errorf("Int = %d", n)
	}
	s := r.Text(4)
	set := r.Nodes()
	if s != "some" || set != (api.Nodes{1, 2, 3, 4}) || r.In(9, 9) != 9 {
		t.Errorf("Text = %q, Nodes = %x", s, set)
	}
	want(t, "all", r, none, 0)
}

func TestAReaderTurnsNoBytes(t *testing.T) {
	b := slices.Concat(model(70), modelText("some"), modelNodes(api.Nodes{1, 2, 3, 4}), model(9))
	in := bytes.Repeat([]byte{0xee}, len(b)+50)
	copy(in, b)
	r := code.New(in[:len(b)])
	r.Int()
	s := r.Text(4)
	r.Nodes()
	r.End()
	r.Int()
	if !bytes.Equal(in[:len(b)], b) || !bytes.Equal(in[len(b):], bytes.Repeat([]byte{0xee}, 50)) {
		t.Errorf("% x was turned into % x", b, in)
	}
	scrawl(in)
	if s != "some" {
		t.Errorf("writing over the bytes turned Text's answer into %q", s)
	}
}

func TestTwoReadersOfTheSameBytes(t *testing.T) {
	b := model(1, 2, 3)
	first, second := code.New(b), code.New(b)
	first.Int()
	first.In(9, 9)
	want(t, "first", first, api.Fault{Why: api.ErrMany, At: 1}, 2)
	want(t, "second", second, none, 3)
	for i := range 3 {
		if n := second.Int(); n != i+1 {
			t.Errorf("number %d = %d", i, n)
		}
	}
}

func TestWhatBytesAnswersIsTheCallers(t *testing.T) {
	var w code.Writer
	w.Int(1, 2, 300)
	w.Text("some")
	all := slices.Concat(model(1, 2, 300), modelText("some"))
	first, second := w.Bytes(), w.Bytes()
	scrawl(first)
	if !bytes.Equal(second, all) || !bytes.Equal(w.Bytes(), all) {
		t.Errorf("writing over one answer turned another one into % x, and the next into % x", second, w.Bytes())
	}
	w.Nodes(api.Nodes{5})
	if !bytes.Equal(second, all) {
		t.Errorf("a later put turned an answer into % x", second)
	}
	_ = append(second, "behind it"...)
	w.Int(4)
	all = slices.Concat(all, modelNodes(api.Nodes{5}), model(4))
	if b := w.Bytes(); !bytes.Equal(b, all) {
		t.Errorf("Bytes = % x, want % x", b, all)
	}
}

func TestAWriterTurnsNoListThatItWasHanded(t *testing.T) {
	l := numbers()
	var w code.Writer
	w.Int(l...)
	if !slices.Equal(l, numbers()) {
		t.Error("Int turned its numbers")
	}
	s := texts()
	w.Text(s...)
	if !slices.Equal(s, texts()) {
		t.Error("Text turned its texts")
	}
	b := w.Bytes()
	for i := range l {
		l[i]++
	}
	clear(s)
	if !bytes.Equal(w.Bytes(), b) {
		t.Error("writing over the lists turned what was put")
	}
}

func TestTwoWriters(t *testing.T) {
	var first, second code.Writer
	for i := range 100 {
		first.Int(i)
		second.Int(-i)
	}
	r, s := code.New(first.Bytes()), code.New(second.Bytes())
	for i := range 100 {
		if n, m := r.Int(), s.Int(); n != i || m != -i {
			t.Fatalf("number %d = %d, and %d", i, n, m)
		}
	}
}

// R6.

func TestNilAndEmptyAreTheSame(t *testing.T) {
	for _, b := range [][]byte{nil, {}} {
		for _, c := range reads() {
			r := code.New(b)
			want(t, "no bytes", r, none, 0)
			if got := c.read(r); got != c.zero {
				t.Errorf("%s of no bytes = %v", c.name, got)
			}
			wantStopped(t, "no bytes, "+c.name, r, api.Fault{Why: api.ErrEnd, At: 0}, 0)
		}
	}
	var w code.Writer
	w.Int([]int{}...)
	w.Text([]string{}...)
	if b := w.Bytes(); len(b) != 0 {
		t.Errorf("Bytes = % x", b)
	}
}
