package frame_test

import (
	"bytes"
	"encoding/binary"
	"math/big"
	"math/rand"
	"slices"
	"testing"

	"marlinspike/api"
	"marlinspike/frame"
)

// most is how many bytes a frame has at most.
const most = 65536

// modelSum is the sum without going on from word to word: a is all words once, b each so often as there are words from it on; both without bounds till the end.
func modelSum(b []byte) uint64 {
	filled := append(slices.Clone(b), make([]byte, (4-len(b)%4)%4)...)
	words := len(filled) / 4
	low, high := big.NewInt(int64(len(b))), big.NewInt(int64(len(b)*words))
	for i := range words {
		w := big.NewInt(int64(binary.LittleEndian.Uint32(filled[4*i:])))
		low.Add(low, w)
		high.Add(high, w.Mul(w, big.NewInt(int64(words-i))))
	}
	m := big.NewInt(1<<32 - 1)
	return high.Mod(high, m).Uint64()<<32 | low.Mod(low, m).Uint64()
}

// framed is the frame of bytes, with a sum that is handed in.
func framed(b []byte, sum uint64) []byte {
	f := binary.LittleEndian.AppendUint32(nil, uint32(len(b)))
	return binary.LittleEndian.AppendUint64(append(f, b...), sum)
}

func model(b []byte) []byte { return framed(b, modelSum(b)) }

// join are the frames of all, one behind the other.
func join(all ...[]byte) []byte {
	var out []byte
	for _, b := range all {
		out = append(out, model(b)...)
	}
	return out
}

// random are so many bytes, the same ones for each seed.
func random(seed int64, n int) []byte {
	b := make([]byte, n)
	rand.New(rand.NewSource(seed)).Read(b)
	return b
}

// samples are bytes of many lengths, the edges among them.
func samples() [][]byte {
	l := [][]byte{
		nil, {}, {0}, {1}, {255}, {0, 0, 0}, {0, 0, 0, 0}, {255, 255, 255, 255}, {255, 255, 255, 255, 255},
		bytes.Repeat([]byte{255}, 64), make([]byte, 64), make([]byte, most), bytes.Repeat([]byte{255}, most), model([]byte("inner")),
	}
	for n := range 40 {
		l = append(l, random(int64(n), n))
	}
	for _, n := range []int{100, 255, 256, 257, 4095, most - 5, most - 4, most - 3, most - 2, most - 1, most} {
		l = append(l, random(int64(n), n))
	}
	return l
}

// wantGet holds one Get against what it should answer; beside an error nothing else is answered.
func wantGet(t *testing.T, what string, b, want []byte, size int, err api.Errno) {
	t.Helper()
	got, n, e := frame.Get(b)
	if !bytes.Equal(got, want) || n != size || e != err {
		t.Errorf("%q: Get has %d bytes of %d, and error %d; want %d of %d, and %d", what, len(got), n, e, len(want), size, err)
	}
}

// wantAll holds one All against what it should answer.
func wantAll(t *testing.T, what string, b []byte, want [][]byte, size int) {
	t.Helper()
	got, n := frame.All(b)
	if !slices.EqualFunc(got, want, bytes.Equal) || n != size {
		t.Errorf("%q: All has %d frames of %d bytes, want %d of %d", what, len(got), n, len(want), size)
	}
}

// P3.1: Sum.

func TestSumOfSingleWords(t *testing.T) {
	for _, c := range []struct {
		b         []byte
		low, high uint64
	}{
		{nil, 0, 0},
		{[]byte{}, 0, 0},
		{[]byte{1}, 2, 2},
		{[]byte{0}, 1, 1},
		{[]byte{0, 0, 0, 0}, 4, 4},
		{[]byte{1, 2, 3, 4}, 0x04030205, 0x04030205},
		{[]byte{1, 2, 3}, 0x00030204, 0x00030204},
		{[]byte{0, 0, 0, 1}, 0x01000004, 0x01000004},
		{[]byte{1, 2, 3, 4, 5}, 0x0403020b, 0x08060411},
		{[]byte{1, 2, 3, 4, 5, 0}, 0x0403020c, 0x08060413},
	} {
		if s := frame.Sum(c.b); s != c.high<<32|c.low {
			t.Errorf("Sum(%x) = %x, want %x and %x", c.b, s, c.high, c.low)
		}
	}
}

func TestSumGoesRoundAtTwoToThe32LessOne(t *testing.T) {
	for _, c := range []struct {
		words     []uint32
		low, high uint64
	}{
		// Both just below, at, and beyond.
		{[]uint32{0xfffffffa}, 0xfffffffe, 0xfffffffe},
		{[]uint32{0xfffffffb}, 0, 0},
		{[]uint32{0xfffffffc}, 1, 1},
		{[]uint32{0xffffffff}, 4, 4},
		// b alone just below, at, and beyond.
		{[]uint32{0x7ffffff7, 0}, 0x7fffffff, 0xfffffffe},
		{[]uint32{0x7ffffff7, 1}, 0x80000000, 0},
		{[]uint32{0x7ffffff7, 2}, 0x80000001, 1},
		// a alone, by the second word: b is what it was at the first one, and a.
		{[]uint32{0x0ffffff8, 0xeffffffe}, 0xfffffffe, 0x0fffffff},
		{[]uint32{0x0ffffff8, 0xefffffff}, 0, 0x10000000},
		{[]uint32{0x0ffffff8, 0xf0000000}, 1, 0x10000001},
		// Both at each of several words.
		{[]uint32{0xffffffff, 0xffffffff, 0xffffffff}, 12, 36},
		{[]uint32{0xfffffffe, 0xfffffffe, 0xfffffffe}, 9, 30},
	} {
		var b []byte
		for _, w := range c.words {
			b = binary.LittleEndian.AppendUint32(b, w)
		}
		if s := frame.Sum(b); s != c.high<<32|c.low {
			t.Errorf("Sum(%x) = %x, want %x and %x", b, s, c.high, c.low)
		}
	}
}

func TestSumIsTheSumWithoutBounds(t *testing.T) {
	for _, b := range append(samples(), random(1, most+1), random(2, 1<<20), bytes.Repeat([]byte{255}, 1<<20+3)) {
		if s, want := frame.Sum(b), modelSum(b); s != want {
			t.Errorf("Sum of %d bytes = %x, want %x", len(b), s, want)
		}
	}
}

// P3.1: Put.

func TestPutIsLengthBytesAndSum(t *testing.T) {
	for _, c := range []struct{ out, b, want string }{
		{"", "", "\x00\x00\x00\x00\x00\x00\x00\x00\x00\x00\x00\x00"},
		{"", "\x01", "\x01\x00\x00\x00\x01\x02\x00\x00\x00\x02\x00\x00\x00"},
		{"ab", "\x01", "ab\x01\x00\x00\x00\x01\x02\x00\x00\x00\x02\x00\x00\x00"},
		{"ab", "", "ab\x00\x00\x00\x00\x00\x00\x00\x00\x00\x00\x00\x00"},
		{"", "\x01\x02\x03\x04\x05", "\x05\x00\x00\x00\x01\x02\x03\x04\x05\x0b\x02\x03\x04\x11\x04\x06\x08"},
	} {
		if got, e := frame.Put([]byte(c.out), []byte(c.b)); string(got) != c.want || e != 0 {
			t.Errorf("Put(%x, %x) = %x, %d, want %x", c.out, c.b, got, e, c.want)
		}
	}
}

func TestPutStandsBehindAll(t *testing.T) {
	for _, out := range [][]byte{nil, {}, {7}, random(3, 11), model([]byte("first")), random(4, most+1), random(5, 1<<20)} {
		for _, b := range samples() {
			got, e := frame.Put(out, b)
			if want := append(slices.Clone(out), model(b)...); !bytes.Equal(got, want) || e != 0 {
				t.Fatalf("Put of %d bytes behind %d has %d, and error %d", len(b), len(out), len(got), e)
			}
		}
	}
}

func TestPutRefusesOneByteTooMany(t *testing.T) {
	for _, out := range [][]byte{nil, []byte("some"), random(6, most+1)} {
		if got, e := frame.Put(out, make([]byte, most)); len(got) != len(out)+most+12 || e != 0 {
			t.Errorf("Put of 65536 bytes behind %d has %d, and error %d", len(out), len(got), e)
		}
		for _, n := range []int{most + 1, most + 2, 2 * most, 1 << 20} {
			if got, e := frame.Put(out, make([]byte, n)); got != nil || e != api.ErrMany {
				t.Errorf("Put of %d bytes behind %d has %d, and error %d", n, len(out), len(got), e)
			}
		}
	}
}

// P3.2: Get.

func TestGetOfFewerThanFourBytesEnds(t *testing.T) {
	for _, b := range []string{"", "\x00", "\x00\x00", "\x00\x00\x00", "\xff", "\xff\xff", "\xff\xff\xff", "\x00\x00\x01"} {
		wantGet(t, b, []byte(b), nil, 0, api.ErrEnd)
	}
	wantGet(t, "nil", nil, nil, 0, api.ErrEnd)
}

func TestGetOfFewerThanTheFrameHasEnds(t *testing.T) {
	for _, b := range samples() {
		f := model(b)
		for n := range f {
			// Of the long ones just the places around which something turns.
			if n > 300 && n < len(f)-20 && n%1009 != 0 {
				continue
			}
			wantGet(t, "cut off", f[:n], nil, 0, api.ErrEnd)
		}
		wantGet(t, "whole", f, b, len(f), 0)
	}
}

func TestGetOfMissingBytesEndsWhateverTheSum(t *testing.T) {
	f := framed([]byte("abc"), ^modelSum([]byte("abc")))
	wantGet(t, "one byte too few of a wrong sum", f[:len(f)-1], nil, 0, api.ErrEnd)
	wantGet(t, "a wrong sum", f, nil, 0, api.ErrSum)
}

func TestGetRefusesTooManyAheadOfMissingOnes(t *testing.T) {
	for _, c := range []struct {
		b   string
		err api.Errno
	}{
		{"\x00\x00\x01\x00", api.ErrEnd},
		{"\x00\x00\x01\x00and some", api.ErrEnd},
		{"\x01\x00\x01\x00", api.ErrMany},
		{"\x01\x00\x01\x00and some", api.ErrMany},
		{"\x00\x00\x02\x00", api.ErrMany},
		{"\x00\x00\x00\x01", api.ErrMany},
		{"\x00\x00\x00\x80", api.ErrMany},
		{"\xff\xff\xff\x7f", api.ErrMany},
		{"\xff\xff\xff\xff", api.ErrMany},
		{"\xff\xff\x00\x00", api.ErrEnd},
	} {
		wantGet(t, c.b, []byte(c.b), nil, 0, c.err)
	}
}

func TestGetRefusesTooManyThoughAllAreThere(t *testing.T) {
	wantGet(t, "65536", model(random(7, most)), random(7, most), most+12, 0)
	wantGet(t, "65537", model(random(7, most+1)), nil, 0, api.ErrMany)
	wantGet(t, "65537 of a wrong sum", framed(random(7, most+1), 0), nil, 0, api.ErrMany)
}

func TestGetRefusesAWrongSum(t *testing.T) {
	for _, b := range samples() {
		right := modelSum(b)
		for i := range 64 {
			wantGet(t, "wrong sum", framed(b, right^1<<i), nil, 0, api.ErrSum)
		}
		// A half that is 2^32 - 1 is no half of a sum, though it is as much as 0.
		for _, sum := range []uint64{right<<32 | right>>32, ^right, right + 1, right - 1, 1<<64 - 1, 1<<32 - 1} {
			if sum != right {
				wantGet(t, "wrong sum", framed(b, sum), nil, 0, api.ErrSum)
			}
		}
	}
}

func TestGetLeavesWhatStandsBehind(t *testing.T) {
	for _, b := range samples() {
		for _, behind := range [][]byte{{0}, []byte("junk"), model([]byte("next")), model(nil), random(8, most)} {
			f := model(b)
			wantGet(t, "with others behind it", append(slices.Clone(f), behind...), b, len(f), 0)
		}
	}
}

// P3.2: All.

func TestAllOfNoneAndOfSeveral(t *testing.T) {
	wantAll(t, "nil", nil, nil, 0)
	wantAll(t, "empty", []byte{}, nil, 0)
	wantAll(t, "no frame", []byte("no frame at all"), nil, 0)
	wantAll(t, "one of none", join(nil), [][]byte{nil}, 12)
	wantAll(t, "two of none", join(nil, nil), [][]byte{nil, nil}, 24)
	l := samples()
	wantAll(t, "samples", join(l...), l, len(join(l...)))
	wantAll(t, "three", join([]byte("a"), nil, []byte("bcd")), [][]byte{[]byte("a"), nil, []byte("bcd")}, 40)
}

func TestAllEndsAtTheFirstThatIsRefused(t *testing.T) {
	ahead, behind := join([]byte("a"), nil, []byte("bc")), join([]byte("d"), []byte("e"))
	want := [][]byte{[]byte("a"), nil, []byte("bc")}
	for what, refused := range map[string][]byte{
		"a wrong sum":     framed([]byte("x"), 0),
		"too many":        model(make([]byte, most+1)),
		"missing ones":    {200, 0, 0, 0, 1},
		"ones that ended": model(random(9, 500))[:300],
	} {
		wantAll(t, what, slices.Concat(ahead, refused, behind), want, len(ahead))
		wantAll(t, what+" at the end", slices.Concat(ahead, refused), want, len(ahead))
		wantAll(t, what+" at the beginning", slices.Concat(refused, behind), nil, 0)
	}
}

// P3.3.

func TestWhatIsPutIsGot(t *testing.T) {
	var out []byte
	var at []int
	l := samples()
	for _, b := range l {
		f, e := frame.Put(nil, b)
		if e != 0 {
			t.Fatalf("Put of %d bytes: error %d", len(b), e)
		}
		wantGet(t, "put", f, b, len(b)+12, 0)
		at = append(at, len(out))
		if out, e = frame.Put(out, b); e != 0 {
			t.Fatalf("Put of %d bytes: error %d", len(b), e)
		}
	}
	for i, b := range l {
		wantGet(t, "put behind others", out[at[i]:], b, len(b)+12, 0)
	}
	wantAll(t, "all that was put", out, l, len(out))
}

// P3.4.

// parts are the bytes of several frames, and where each begins.
func parts() (l [][]byte, at []int, out []byte) {
	l = [][]byte{[]byte("a"), nil, {0, 0, 0, 0}, random(10, 21), {255, 255, 255, 255, 255, 255, 255, 255}, []byte("end")}
	for _, b := range l {
		at = append(at, len(out))
		out = append(out, model(b)...)
	}
	return l, at, out
}

func TestATurnedByteIsToldOf(t *testing.T) {
	l, at, out := parts()
	for place := range out {
		k := len(at) - 1
		for at[k] > place {
			k--
		}
		for other := range 256 {
			if byte(other) == out[place] {
				continue
			}
			turned := slices.Clone(out)
			turned[place] = byte(other)
			got, _ := frame.All(turned)
			if len(got) < k || !slices.EqualFunc(got[:k], l[:k], bytes.Equal) {
				t.Fatalf("byte %d as %d: the %d frames ahead of it are not got", place, other, k)
			}
			if len(got) > k && bytes.Equal(got[k], l[k]) {
				t.Fatalf("byte %d as %d: frame %d is got as it was", place, other, k)
			}
			if place-at[k] >= 4 {
				wantGet(t, "turned", turned[at[k]:], nil, 0, api.ErrSum)
			}
		}
	}
}

func TestATurnedByteOfTheLongestIsToldOf(t *testing.T) {
	b := random(11, most)
	f := model(b)
	for _, place := range []int{4, 5, 1000, 32771, most + 2, most + 3, most + 4, most + 7, most + 8, most + 11} {
		for _, by := range []byte{1, 0x80, 0xff} {
			turned := slices.Clone(f)
			turned[place] ^= by
			wantGet(t, "turned", turned, nil, 0, api.ErrSum)
		}
	}
}

// A frame may have another one's end in it, which a turned length brings to light: it is got, but not as it was.
func TestATurnedLengthMayTellOfAnotherFrame(t *testing.T) {
	short := []byte("short")
	long := model(short)[4:]
	turned := model(long)
	wantGet(t, "as it was", turned, long, 25, 0)
	turned[0] = byte(len(short))
	wantGet(t, "turned", turned, short, 17, 0)
}

// P3.5.

func TestFramesCutOffAnywhereAreTheWholeOnes(t *testing.T) {
	l, at, out := parts()
	for n := range len(out) + 1 {
		whole, size := 0, 0
		for i := range l {
			if end := at[i] + len(l[i]) + 12; end <= n {
				whole, size = i+1, end
			}
		}
		wantAll(t, "cut off", out[:n], l[:whole], size)
	}
}

// R1, R3: any bytes are taken, with the same answer each time.

func TestAnyBytesAreTaken(t *testing.T) {
	r := rand.New(rand.NewSource(12))
	for range 20000 {
		b := random(r.Int63(), r.Intn(60))
		// Most lengths should be short ones, else all are refused at once.
		for i := range b {
			if r.Intn(2) == 0 {
				b[i] = 0
			}
		}
		got, n, e := frame.Get(b)
		switch {
		case e == 0 && (n != len(got)+12 || !bytes.Equal(b[:n], model(got))):
			t.Fatalf("Get(%x) = %x, %d", b, got, n)
		case e != 0 && (got != nil || n != 0):
			t.Fatalf("Get(%x) = %x, %d, %d", b, got, n, e)
		}
		l, size := frame.All(b)
		if size < 0 || size > len(b) || !bytes.Equal(join(l...), b[:size]) {
			t.Fatalf("All(%x) = %x, %d", b, l, size)
		}
		wantAll(t, "again", b, l, size)
		if frame.Sum(b) != modelSum(b) {
			t.Fatalf("Sum(%x) = %x", b, frame.Sum(b))
		}
	}
}

// R4.

// spare are bytes with room behind them, in which 0xee stands.
func spare(b []byte) []byte {
	l := bytes.Repeat([]byte{0xee}, len(b)+200)
	copy(l, b)
	return l[:len(b)]
}

// wantSpare tells of anything that was written into bytes, or behind them.
func wantSpare(t *testing.T, what string, l, b []byte) {
	t.Helper()
	if full := l[:cap(l)]; !bytes.Equal(full, spare(b)[:cap(l)]) {
		t.Errorf("%s: %x was turned into %x", what, b, full)
	}
}

// scrawl writes over bytes, and over all the room behind them.
func scrawl(b []byte) {
	full := b[:cap(b)]
	for i := range full {
		full[i] ^= 0x55
	}
}

func TestNothingHandedInIsTurned(t *testing.T) {
	for _, b := range samples() {
		if len(b) > 5000 {
			continue
		}
		out, in := spare([]byte("out")), spare(b)
		frame.Sum(in)
		wantSpare(t, "Sum's bytes", in, b)
		put, _ := frame.Put(out, in)
		wantSpare(t, "Put's out", out, []byte("out"))
		wantSpare(t, "Put's bytes", in, b)
		scrawl(put)
		wantSpare(t, "Put's out, behind its answer", out, []byte("out"))
		wantSpare(t, "Put's bytes, behind its answer", in, b)

		two := join(b, b)
		in = spare(two)
		got, _, _ := frame.Get(in)
		scrawl(got)
		wantSpare(t, "Get's bytes", in, two)
		l, _ := frame.All(in)
		for _, got := range l {
			scrawl(got)
		}
		wantSpare(t, "All's bytes", in, two)
	}
}

func TestPutBehindNothingAnswersNewMemory(t *testing.T) {
	empty := spare(nil)
	put, e := frame.Put(empty, nil)
	if e != 0 || !bytes.Equal(put, make([]byte, 12)) {
		t.Fatalf("Put(empty, nil) = %x, %d", put, e)
	}
	wantSpare(t, "Put's out", empty, nil)
	frame.Put(empty, make([]byte, most+1))
	wantSpare(t, "Put's out of a refused one", empty, nil)
}

func TestPutBehindItselfAndTwiceBehindOne(t *testing.T) {
	b := spare([]byte("same"))
	got, e := frame.Put(b, b)
	if want := append([]byte("same"), model([]byte("same"))...); !bytes.Equal(got, want) || e != 0 {
		t.Errorf("Put(b, b) = %x, %d, want %x", got, e, want)
	}
	first, _ := frame.Put(b, []byte("1"))
	second, _ := frame.Put(b, []byte("2"))
	if want := append([]byte("same"), model([]byte("1"))...); !bytes.Equal(first, want) {
		t.Errorf("the second Put turned the first one's answer into %x", first)
	}
	scrawl(first)
	if want := append([]byte("same"), model([]byte("2"))...); !bytes.Equal(second, want) {
		t.Errorf("writing over the first answer turned the second one into %x", second)
	}
}

func TestWhatWasAnsweredTurnsNothingElse(t *testing.T) {
	b := join([]byte("one"), []byte("two"), []byte("three"))
	got, _, _ := frame.Get(b)
	l, _ := frame.All(b)
	if len(l) != 3 {
		t.Fatalf("All = %x", l)
	}
	scrawl(b)
	if string(got) != "one" {
		t.Errorf("writing over the bytes turned Get's answer into %q", got)
	}
	if string(l[0]) != "one" || string(l[1]) != "two" || string(l[2]) != "three" {
		t.Errorf("writing over the bytes turned All's answer into %q", l)
	}
	scrawl(l[1])
	_ = append(l[0][:0], "longer than that"...)
	if string(l[2]) != "three" {
		t.Errorf("writing over one answer turned another one into %q", l[2])
	}
	scrawl(b)
	again, n := frame.All(b)
	if want := [][]byte{[]byte("one"), []byte("two"), []byte("three")}; !slices.EqualFunc(again, want, bytes.Equal) || n != len(b) {
		t.Errorf("All, again = %q, %d", again, n)
	}
}

// R6.

func TestNilAndEmptyAreTheSame(t *testing.T) {
	if frame.Sum(nil) != frame.Sum([]byte{}) {
		t.Error("Sum")
	}
	for _, out := range [][]byte{nil, {}} {
		for _, b := range [][]byte{nil, {}} {
			if got, e := frame.Put(out, b); !bytes.Equal(got, make([]byte, 12)) || e != 0 {
				t.Errorf("Put(%#v, %#v) = %x, %d", out, b, got, e)
			}
		}
	}
	for _, b := range [][]byte{nil, {}} {
		wantGet(t, "none", b, nil, 0, api.ErrEnd)
		wantAll(t, "none", b, nil, 0)
	}
}
