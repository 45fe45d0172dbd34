package array_test

import (
	"maps"
	"math"
	"math/rand"
	"regexp"
	"slices"
	"sort"
	"strconv"
	"strings"
	"testing"

	"marlinspike/api"
	"marlinspike/array"
)

const (
	// mostIndexes is how many indexes an array has at most.
	mostIndexes = 256
	// most is the greatest index, and the greatest limit.
	most = 999999
)

var none api.Fault

// form, end and many are the faults at a byte.
func form(at int) api.Fault { return api.Fault{Why: api.ErrForm, At: at} }
func end(at int) api.Fault  { return api.Fault{Why: api.ErrEnd, At: at} }
func many(at int) api.Fault { return api.Fault{Why: api.ErrMany, At: at} }

// of is an array of indexes without a limit.
func of(indexes ...int) array.Array { return array.Array{Indexes: indexes} }

// with is an array with another limit.
func with(limit int, a array.Array) array.Array { return array.Array{Indexes: a.Indexes, Limit: limit} }

// span are so many indexes from a first one on, with a step between.
func span(first, count, step int) []int {
	var l []int
	for i := range count {
		l = append(l, first+i*step)
	}
	return l
}

// same tells whether two arrays are alike.
func same(a, b array.Array) bool { return a.Limit == b.Limit && slices.Equal(a.Indexes, b.Indexes) }

// clone is another array that is alike.
func clone(a array.Array) array.Array { return with(a.Limit, of(slices.Clone(a.Indexes)...)) }

// short is a text, or where it is long its ends.
func short(s string) string {
	if len(s) > 120 {
		return s[:60] + " .. " + s[len(s)-60:]
	}
	return s
}

// wantArray holds what Parse answers against an array.
func wantArray(t *testing.T, s string, want array.Array) {
	t.Helper()
	if a, f := array.Parse(s); f != none || !same(a, want) {
		t.Errorf("Parse(%q) = %v, %v, want %v", short(s), a, f, want)
	}
}

// wantFault holds what Parse answers against a fault.
func wantFault(t *testing.T, s string, want api.Fault) {
	t.Helper()
	if a, f := array.Parse(s); f != want || !same(a, array.Array{}) {
		t.Errorf("Parse(%q) = %v, %v, want %v", short(s), a, f, want)
	}
}

// The model of Parse finds by a pattern of whole texts where a text can not go on, and goes over the numbers ahead of it: each is asked of its least when it ends, and a range of its indexes when its last number does.
var (
	aWhole  = regexp.MustCompile(`^N(-N(:N)?)?(,N(-N(:N)?)?)*(%N)?$`)
	aNumber = regexp.MustCompile(`[0-9]{1,6}`)
	digits  = regexp.MustCompile(`[0-9]+`)
)

// whole tells whether a text is whole, whatever its numbers.
func whole(s string) bool {
	return aWhole.MatchString(digits.ReplaceAllStringFunc(s, func(d string) string {
		if len(d) > 6 {
			return "x"
		}
		return "N"
	})) && !strings.Contains(s, "N")
}

// canGoOn tells whether a whole text begins with a text.
func canGoOn(s string) bool { return whole(s) || whole(s+"1") }

// modelRange are the indexes of a range's text, or the first ones of too many.
func modelRange(s string) []int {
	head, step, _ := strings.Cut(s, ":")
	first, last, _ := strings.Cut(head, "-")
	from, _ := strconv.Atoi(first)
	to, err := strconv.Atoi(last)
	if err != nil {
		to = from
	}
	by, err := strconv.Atoi(step)
	if err != nil {
		by = 1
	}
	var l []int
	for i := from; i <= to && len(l) <= mostIndexes; i++ {
		if (i-from)%by == 0 {
			l = append(l, i)
		}
	}
	return l
}

// comeAgain tells whether one of some indexes comes twice.
func comeAgain(indexes ...int) bool {
	l := slices.Sorted(slices.Values(indexes))
	return len(slices.Compact(l)) < len(indexes)
}

// modelFault is the first fault of a text.
func modelFault(s string) api.Fault {
	// What can not go on can not with more behind it.
	stop := sort.Search(len(s), func(i int) bool { return !canGoOn(s[:i+1]) })
	var came []int
	begins, first := 0, 0
	for _, at := range aNumber.FindAllStringIndex(s[:stop], -1) {
		from, to := at[0], at[1]
		behind := byte(0)
		if to < len(s) {
			behind = s[to]
		}
		if '0' <= behind && behind <= '9' {
			break
		}
		n, _ := strconv.Atoi(s[from:to])
		kind := byte(',')
		if from > 0 {
			kind = s[from-1]
		}
		switch {
		case kind == ',':
			begins, first = from, n
		case kind == '-' && n < first, kind != '-' && n == 0:
			return form(from)
		}
		if kind == '%' || kind == ',' && behind == '-' || kind == '-' && behind == ':' {
			continue
		}
		came = append(came, modelRange(s[begins:to])...)
		if len(came) > mostIndexes || comeAgain(came...) {
			return many(begins)
		}
	}
	switch {
	case stop < len(s):
		return form(stop)
	case !whole(s):
		return end(len(s))
	}
	return none
}

// modelArray is the array of a text that has no fault.
func modelArray(s string) array.Array {
	ranges, limit, _ := strings.Cut(s, "%")
	var a array.Array
	for part := range strings.SplitSeq(ranges, ",") {
		a.Indexes = append(a.Indexes, modelRange(part)...)
	}
	slices.Sort(a.Indexes)
	a.Limit, _ = strconv.Atoi(limit)
	return a
}

// wantModel holds what Parse answers against the model, and tells the fault.
func wantModel(t *testing.T, s string) api.Fault {
	t.Helper()
	f := modelFault(s)
	if f != none {
		wantFault(t, s, f)
	} else {
		wantArray(t, s, modelArray(s))
	}
	return f
}

// wantArrays hold what Parse answers, and the model, against arrays.
func wantArrays(t *testing.T, arrays map[string]array.Array) {
	t.Helper()
	for s, want := range arrays {
		wantArray(t, s, want)
		if a, f := modelArray(s), modelFault(s); f != none || !same(a, want) {
			t.Errorf("the model of Parse(%q) = %v, %v, want %v", short(s), a, f, want)
		}
	}
}

// wantFaults hold what Parse answers, and the model, against faults.
func wantFaults(t *testing.T, faults map[string]api.Fault) {
	t.Helper()
	for s, want := range faults {
		wantFault(t, s, want)
		if f := modelFault(s); f != want {
			t.Errorf("the model of Parse(%q) has the fault %v, want %v", short(s), f, want)
		}
	}
}

// P8.1: Parse.

func TestParseOfOneRange(t *testing.T) {
	wantArrays(t, map[string]array.Array{
		// A number.
		"0":      of(0),
		"1":      of(1),
		"9":      of(9),
		"10":     of(10),
		"100000": of(100000),
		"999999": of(999999),
		// A second one, equal and above.
		"0-0":           of(0),
		"7-7":           of(7),
		"0-1":           of(0, 1),
		"1-5":           of(1, 2, 3, 4, 5),
		"9-11":          of(9, 10, 11),
		"98-102":        of(98, 99, 100, 101, 102),
		"999998-999999": of(999998, 999999),
		"999999-999999": of(999999),
		// A step, that comes to the second number, or goes past it at once, or later.
		"1-5:1":             of(1, 2, 3, 4, 5),
		"1-5:2":             of(1, 3, 5),
		"1-6:2":             of(1, 3, 5),
		"1-7:2":             of(1, 3, 5, 7),
		"0-9:3":             of(0, 3, 6, 9),
		"0-8:3":             of(0, 3, 6),
		"1-5:3":             of(1, 4),
		"1-5:4":             of(1, 5),
		"1-5:5":             of(1),
		"1-5:6":             of(1),
		"1-5:999999":        of(1),
		"7-7:1":             of(7),
		"7-7:3":             of(7),
		"0-0:999999":        of(0),
		"0-999999:999999":   of(0, 999999),
		"0-999999:999998":   of(0, 999998),
		"0-999999:500000":   of(0, 500000),
		"0-999999:333333":   of(0, 333333, 666666, 999999),
		"1-999999:333333":   of(1, 333334, 666667),
		"999999-999999:999": of(999999),
	})
}

func TestParseOfSeveralRanges(t *testing.T) {
	wantArrays(t, map[string]array.Array{
		"1,2":                      of(1, 2),
		"1,3,5":                    of(1, 3, 5),
		"1-3,5-7":                  of(1, 2, 3, 5, 6, 7),
		"1-3,4-6":                  of(1, 2, 3, 4, 5, 6),
		"0-4:2,5-9:2":              of(0, 2, 4, 5, 7, 9),
		"0,999999":                 of(0, 999999),
		"1-3,10-30:10,100,200-201": of(1, 2, 3, 10, 20, 30, 100, 200, 201),
		// Out of order, and one between another one's.
		"2,1":                    of(1, 2),
		"10,9":                   of(9, 10),
		"3,1,2":                  of(1, 2, 3),
		"9,0-6:2":                of(0, 2, 4, 6, 9),
		"5-7,1-3":                of(1, 2, 3, 5, 6, 7),
		"4-6,1-3,7":              of(1, 2, 3, 4, 5, 6, 7),
		"8,6,7,5,3,0,9":          of(0, 3, 5, 6, 7, 8, 9),
		"999999,0":               of(0, 999999),
		"1-5:2,0-4:2":            of(0, 1, 2, 3, 4, 5),
		"0-4:2,1-5:2":            of(0, 1, 2, 3, 4, 5),
		"0-20:10,5,15":           of(0, 5, 10, 15, 20),
		"2-12:5,1-11:5,0-10:5,3": of(0, 1, 2, 3, 5, 6, 7, 10, 11, 12),
		// What a step goes past is none of the range's.
		"1-6:2,6":     of(1, 3, 5, 6),
		"1-6:2,7":     of(1, 3, 5, 7),
		"1-5:9,5,2-4": of(1, 2, 3, 4, 5),
	})
}

func TestParseOfLimits(t *testing.T) {
	wantArrays(t, map[string]array.Array{
		"0-6:2,9%2":            with(2, of(0, 2, 4, 6, 9)),
		"0%1":                  with(1, of(0)),
		"7%1":                  with(1, of(7)),
		"7%2":                  with(2, of(7)),
		"1-3%1":                with(1, of(1, 2, 3)),
		"1-3%3":                with(3, of(1, 2, 3)),
		"1-3%4":                with(4, of(1, 2, 3)),
		"1-9:4%10":             with(10, of(1, 5, 9)),
		"3,1,2%2":              with(2, of(1, 2, 3)),
		"1-3%256":              with(256, of(1, 2, 3)),
		"1-3%257":              with(257, of(1, 2, 3)),
		"5%100000":             with(100000, of(5)),
		"5%999999":             with(999999, of(5)),
		"999999-999999:9%9":    with(9, of(999999)),
		"9,0-6:2,10-12:2,7%12": with(12, of(0, 2, 4, 6, 7, 9, 10, 12)),
	})
}

func TestParseOfNoughtsAhead(t *testing.T) {
	wantArrays(t, map[string]array.Array{
		"00":                   of(0),
		"000000":               of(0),
		"01":                   of(1),
		"000001":               of(1),
		"099999":               of(99999),
		"000000-000000":        of(0),
		"001-3":                of(1, 2, 3),
		"1-003":                of(1, 2, 3),
		"000001-000003":        of(1, 2, 3),
		"08-10":                of(8, 9, 10),
		"1-5:02":               of(1, 3, 5),
		"1-5:000002":           of(1, 3, 5),
		"1-5:000001":           of(1, 2, 3, 4, 5),
		"000000-000006:000002": of(0, 2, 4, 6),
		"1%02":                 with(2, of(1)),
		"1%000001":             with(1, of(1)),
		"000003,02,1%000010":   with(10, of(1, 2, 3)),
	})
	// One is one, however many noughts are ahead.
	wantFaults(t, map[string]api.Fault{
		"1,01":         many(2),
		"01,1":         many(3),
		"000001,01":    many(7),
		"0,000000":     many(2),
		"010-012,11":   many(8),
		"002-2,2":      many(6),
		"00002-00001":  form(6),
		"1-5:00":       form(4),
		"1-5:000000":   form(4),
		"1%00":         form(2),
		"1%000000":     form(2),
		"1,2-3:000%0":  form(6),
		"000002-1,1,1": form(7),
	})
}

func TestParseOfSevenDigits(t *testing.T) {
	// Whatever the six are: noughts, too great a number, or one below the first.
	for _, seven := range []string{"1234567", "1000000", "9999999", "0000000", "0000001", "0000009", "0123456", "9999990"} {
		for _, behind := range []string{"", "0", "9", "-", ",", ":", "%", "x", "-1", ",1", "12345678901234567890"} {
			wantFaults(t, map[string]api.Fault{
				seven + behind:                        form(6),
				"1-" + seven + behind:                 form(8),
				"5-" + seven + behind:                 form(8),
				"999999-" + seven + behind:            form(13),
				"1-3:" + seven + behind:               form(10),
				"1-3%" + seven + behind:               form(10),
				"1-3,4-5:2," + seven + behind:         form(16),
				"000001-000003:000002%" + seven:       form(27),
				"000001,000002-" + seven + behind:     form(20),
				"0-255%" + seven + behind:             form(12),
				"0-999999:" + seven + behind:          form(15),
				"7,7-" + seven + behind:               form(10),
				"7,6-8:" + seven + behind:             form(12),
				"7,6-8:000001%" + seven + behind:      many(2),
				"7,6-8:000001," + seven + behind:      many(2),
				"0-256," + seven + behind:             many(0),
				"0-999999%" + seven + behind:          many(0),
				"2-000001" + seven + behind:           form(8),
				"1-2:000000" + seven + behind:         form(10),
				"1%000000" + seven + behind:           form(8),
				"2-000001," + seven + behind:          form(2),
				"1-2:000000%" + seven + behind:        form(4),
				"1%000000," + seven + behind:          form(2),
				"123456" + seven + behind:             form(6),
				"3,1-2," + "123456-" + seven + ",1,1": form(19),
			})
		}
	}
}

func TestParseOfASecondNumberBelowTheFirst(t *testing.T) {
	wantFaults(t, map[string]api.Fault{
		"1-0":           form(2),
		"2-1":           form(2),
		"10-9":          form(3),
		"100-99":        form(4),
		"999999-999998": form(7),
		"999999-0":      form(7),
		"12-11":         form(3),
		"1,3-2":         form(4),
		"1-3,20-10":     form(7),
		"1-3:2,20-10":   form(9),
		"20-2":          form(3),
		"20-1,1":        form(3),
		// Once its digits are read, ahead of all behind them.
		"10-9x":     form(3),
		"10-9-":     form(3),
		"10-9:":     form(3),
		"10-9:0":    form(3),
		"10-9:x":    form(3),
		"10-9,":     form(3),
		"10-9,x":    form(3),
		"10-9%":     form(3),
		"10-9%0":    form(3),
		"7,10-9x":   form(5),
		"7,7-6":     form(4),
		"7,7-6:9":   form(4),
		"7,7-06,7":  form(4),
		"0-256,3-2": many(0),
		// Not told as long as digits come.
		"10-1":   form(3),
		"10-10x": form(5),
		"10-11x": form(5),
		"10-9 ":  form(3),
	})
	wantArrays(t, map[string]array.Array{
		"10-10": of(10),
		"10-11": of(10, 11),
		"2-10":  of(2, 3, 4, 5, 6, 7, 8, 9, 10),
		"9-009": of(9),
	})
}

func TestParseOfNoughts(t *testing.T) {
	wantFaults(t, map[string]api.Fault{
		// A step.
		"1-5:0":         form(4),
		"1-5:000":       form(4),
		"1-1:0":         form(4),
		"0-0:0":         form(4),
		"1,2-5:0":       form(6),
		"1-5:0,7":       form(4),
		"1-5:0%2":       form(4),
		"1-5:0x":        form(4),
		"1-5:0-":        form(4),
		"1-5:0:":        form(4),
		"0-256:0":       form(6),
		"7,7-9:0":       form(6),
		"1-5:2,7-9:00,": form(10),
		// A limit.
		"1%0":       form(2),
		"1-5%0":     form(4),
		"1-5:2%0":   form(6),
		"1-5%000":   form(4),
		"1,2%0":     form(4),
		"1%0x":      form(2),
		"1%0%":      form(2),
		"1%0,":      form(2),
		"1%00-":     form(2),
		"1,1%0":     many(2),
		"0-256%0":   many(0),
		"0-255%0":   form(6),
		"1-5:0%0":   form(4),
		"5-4:0%0":   form(2),
		"2-5,0-1%0": form(8),
	})
}

func TestParseOfTextsThatEndTooEarly(t *testing.T) {
	wantFaults(t, map[string]api.Fault{
		"":                      end(0),
		"1-":                    end(2),
		"123456-":               end(7),
		"1-3:":                  end(4),
		"1-123456:":             end(9),
		"1-1:":                  end(4),
		"1,":                    end(2),
		"1-3,":                  end(4),
		"1-3:2,":                end(6),
		"1%":                    end(2),
		"1-3%":                  end(4),
		"1-3:2%":                end(6),
		"1,2-":                  end(4),
		"1,2-3:":                end(6),
		"1,2,":                  end(4),
		"1,2%":                  end(4),
		"1-5,7-":                end(6),
		"0-256:":                end(6),
		"0-999999:":             end(9),
		"7,7-":                  end(4),
		"7,7-8:":                end(6),
		"0-255,":                end(6),
		"0-255%":                end(6),
		"0-255,1-":              end(8),
		"1,1,":                  many(2),
		"1,1%":                  many(2),
		"0-256,":                many(0),
		"0-256%":                many(0),
		"000000-000006:000002,": end(21),
	})
	// All that a text begins with.
	for _, s := range []string{"123456-123466:000005,7%12", "0-6:2,9%2", "10-8:0,1%0", "1-3,2%1", "0-300:1,5%10", "0-300,5%10"} {
		for size := range len(s) + 1 {
			wantModel(t, s[:size])
		}
	}
}

func TestParseOfBytesThatMayNotStandThere(t *testing.T) {
	wantFaults(t, map[string]api.Fault{
		// Where a number is missing.
		"-":      form(0),
		",":      form(0),
		":":      form(0),
		"%":      form(0),
		"x":      form(0),
		"%2":     form(0),
		",1":     form(0),
		"-1":     form(0),
		"+1":     form(0),
		" 1":     form(0),
		"1,,2":   form(2),
		"1,-2":   form(2),
		"1,:2":   form(2),
		"1,%2":   form(2),
		"1, 2":   form(2),
		"1--2":   form(2),
		"1-,2":   form(2),
		"1-:2":   form(2),
		"1-%2":   form(2),
		"1-+2":   form(2),
		"1-3::2": form(4),
		"1-3:-2": form(4),
		"1-3:,2": form(4),
		"1-3:%2": form(4),
		"1%%2":   form(2),
		"1%,2":   form(2),
		"1%-2":   form(2),
		"1%:2":   form(2),
		"1%+2":   form(2),
		"1% 2":   form(2),
		// Behind a number.
		"1x":        form(1),
		"1 ":        form(1),
		"1\n":       form(1),
		"1\x00":     form(1),
		"1.5":       form(1),
		"1;2":       form(1),
		"1 ,2":      form(1),
		"1-3-5":     form(3),
		"1-3x":      form(3),
		"1-3 :2":    form(3),
		"1-5:2:2":   form(5),
		"1-5:2-7":   form(5),
		"1-5:2x":    form(5),
		"1-5:2 ,7":  form(5),
		"123456x":   form(6),
		"123456-12": form(7),
		// A step behind one number.
		"1:2":     form(1),
		"1:":      form(1),
		"1:0":     form(1),
		"1,2:2":   form(3),
		"1-3,5:1": form(5),
		// Behind a limit.
		"1%2x":      form(3),
		"1%2 ":      form(3),
		"1%2,":      form(3),
		"1%2,3":     form(3),
		"1%2-3":     form(3),
		"1%2:3":     form(3),
		"1%2%":      form(3),
		"1%2%3":     form(3),
		"1-3%12%12": form(6),
		"1%999999,": form(8),
		"1,2%3,1":   form(5),
		// Next to the digits, and past all letters.
		"/":           form(0),
		"1/":          form(1),
		"1-/":         form(2),
		"1-3:/":       form(4),
		"1%/":         form(2),
		"1;":          form(1),
		"1\xb2":       form(1),
		"1,\xff":      form(2),
		"\u0663":      form(0),
		"1\u0663":     form(1),
		"1%\uff11":    form(2),
		"1\u20132":    form(1),
		"a1":          form(0),
		"[1-3]":       form(0),
		"1-3:2,[5]":   form(6),
		"0x10":        form(1),
		"1e3":         form(1),
		"1_000":       form(1),
		"n[1-3]":      form(0),
		"1-3:2%2\x00": form(7),
	})
	// Each byte at each place.
	for _, s := range []string{"1-7:2,9%2", "12,34-56:7%8"} {
		for at := range len(s) + 1 {
			for c := range 256 {
				b := string([]byte{byte(c)})
				wantModel(t, s[:at]+b+s[at:])
				if at < len(s) {
					wantModel(t, s[:at]+b+s[at+1:])
				}
			}
		}
	}
}

// list is a text of so many single numbers, from a first one on, with a step between.
func list(first, count, step int) string {
	var l []string
	for _, i := range span(first, count, step) {
		l = append(l, strconv.Itoa(i))
	}
	return strings.Join(l, ",")
}

func TestParseOf256Indexes(t *testing.T) {
	wantArrays(t, map[string]array.Array{
		"0-255":                      of(span(0, 256, 1)...),
		"1-256":                      of(span(1, 256, 1)...),
		"999744-999999":              of(span(999744, 256, 1)...),
		"0-255:1":                    of(span(0, 256, 1)...),
		"0-254":                      of(span(0, 255, 1)...),
		"0-510:2":                    of(span(0, 256, 2)...),
		"0-511:2":                    of(span(0, 256, 2)...),
		"0-999999:3907":              of(span(0, 256, 3907)...),
		"0-998580:3916":              of(span(0, 256, 3916)...),
		"0-255%256":                  with(256, of(span(0, 256, 1)...)),
		"0-255%999999":               with(999999, of(span(0, 256, 1)...)),
		"0-254,255":                  of(span(0, 256, 1)...),
		"255,0-254":                  of(span(0, 256, 1)...),
		"0-127,128-255":              of(span(0, 256, 1)...),
		"0-254:2,1-255:2":            of(span(0, 256, 1)...),
		"0-99,200-299,400-455":       of(slices.Concat(span(0, 100, 1), span(200, 100, 1), span(400, 56, 1))...),
		list(0, 256, 1):              of(span(0, 256, 1)...),
		list(7, 256, 3) + "%9":       with(9, of(span(7, 256, 3)...)),
		list(0, 255, 2) + ",509":     of(append(span(0, 255, 2), 509)...),
		list(1000, 250, 1) + ",0-5":  of(slices.Concat(span(0, 6, 1), span(1000, 250, 1))...),
		"0-5," + list(1000, 250, 10): of(slices.Concat(span(0, 6, 1), span(1000, 250, 10))...),
	})
}

func TestParseOfA257thIndex(t *testing.T) {
	singles := list(1000, 256, 1)
	wantFaults(t, map[string]api.Fault{
		// In one range.
		"0-256":            many(0),
		"1-257":            many(0),
		"999743-999999":    many(0),
		"0-999999":         many(0),
		"0-256:1":          many(0),
		"0-512:2":          many(0),
		"0-999999:3906":    many(0),
		"0-999999:1":       many(0),
		"000000-000256":    many(0),
		"0-999999:000001":  many(0),
		"0-256%3":          many(0),
		"0-256,3":          many(0),
		"7,1000-1256":      many(2),
		"7-9,1000-1256":    many(4),
		"7-9:2,1000-1256":  many(6),
		"7,1000-999999:9":  many(2),
		"100000-900000:20": many(0),
		// Over several: of the range with which there are more.
		"0-255,256":               many(6),
		"0-255,1000-1001":         many(6),
		"0-254,255,256":           many(10),
		"0-254,255-256":           many(6),
		"0-254,255-256:2,999":     many(16),
		"0-99,200-299,400-456":    many(13),
		"0-99,200-299,400-499:1":  many(13),
		"0-254:2,1-255:2,256":     many(16),
		"0-254:2,1-257:2":         many(8),
		"256,0-255":               many(4),
		"300-555,0":               many(8),
		"300-555,0-999999":        many(8),
		singles + ",0":            many(len(singles) + 1),
		singles + ",0,1,2":        many(len(singles) + 1),
		singles + ",0-999999":     many(len(singles) + 1),
		singles[5:] + ",0,1":      many(len(singles) - 2),
		singles[5:] + ",0-1,7":    many(len(singles) - 4),
		singles + ",500%1":        many(len(singles) + 1),
		singles[10:] + ",3,2-1,0": form(len(singles) - 5),
		// Ahead of what stands behind the range, but only once it has ended.
		"0-256x":      many(0),
		"0-256 ":      many(0),
		"0-256-":      many(0),
		"0-256-300":   many(0),
		"0-256,x":     many(0),
		"0-256,,":     many(0),
		"0-256,3-2":   many(0),
		"0-256,0-256": many(0),
		"0-256%x":     many(0),
		"0-256%2,":    many(0),
		"0-256:1x":    many(0),
		"0-256:1:":    many(0),
		"0-255,256x":  many(6),
		"0-255,256:2": many(6),
		"0-255,256,x": many(6),
		"0-256:x":     form(6),
		"0-256::":     form(6),
		"0-256:,":     form(6),
		"0-2560000":   form(8),
		"0-255,256-x": form(10),
		"0-255,3-2":   form(8),
		"0-255,x":     form(6),
		"0-255x":      form(5),
		"3-2,0-256":   form(2),
		"x,0-256":     form(0),
		"1:2,0-256":   form(1),
		"1%2,0-256":   form(3),
	})
}

func TestParseOfAnIndexThatComesAgain(t *testing.T) {
	wantFaults(t, map[string]api.Fault{
		// In the next range.
		"0,0":             many(2),
		"1,1":             many(2),
		"7,7%3":           many(2),
		"999999,999999":   many(7),
		"1-3,1":           many(4),
		"1-3,2":           many(4),
		"1-3,3":           many(4),
		"1-3,1-3":         many(4),
		"1-3,3-5":         many(4),
		"3-5,1-3":         many(4),
		"1,0-5":           many(2),
		"5,0-5":           many(2),
		"0,0-5":           many(2),
		"3,0-6:3":         many(2),
		"0-6:2,3-5":       many(6),
		"0-6:2,4":         many(6),
		"0-6:2,6":         many(6),
		"0-9:3,0-10:5":    many(6),
		"1-9:4,3-11:2":    many(6),
		"1-1,1-1":         many(4),
		"100-200,150":     many(8),
		"0-255,0":         many(6),
		"0-255,255":       many(6),
		"0-255,255-256":   many(6),
		"0-254,0-1":       many(6),
		"0-254,254":       many(6),
		"500000,0-999999": many(7),
		// In a later one.
		"1,2,1":                many(4),
		"1,2,3,4,5,3":          many(10),
		"1-3,5-7,2":            many(8),
		"1-3,5-7,9,6-7":        many(10),
		"1-3,5-7,3-5":          many(8),
		"9,0-6:2,9":            many(8),
		"9,0-6:2,7-11:2":       many(8),
		"9,0-6:2,7-11:2,x":     many(8),
		"0-10:2,1-11:2,3":      many(14),
		"0-10:2,1-11:2,12,0":   many(17),
		list(0, 255, 1) + ",0": many(len(list(0, 255, 1)) + 1),
		list(0, 256, 1) + ",0": many(len(list(0, 256, 1)) + 1),
		// The first range of several, and ahead of what stands behind it.
		"1,1,2,2":     many(2),
		"1,2,2,1":     many(4),
		"1,1,":        many(2),
		"1,1x":        many(2),
		"1,1:2":       many(2),
		"1,1,x":       many(2),
		"1,1,3-2":     many(2),
		"1,1%x":       many(2),
		"1,1-1:1x":    many(2),
		"1,0-2:1:":    many(2),
		"1,1-x":       form(4),
		"1,1-3:x":     form(6),
		"1,1-0":       form(4),
		"1,2x,1":      form(3),
		"1,x,1":       form(2),
		"2-1,1":       form(2),
		"1,2%1,1":     form(5),
		"1,2%0,1":     form(4),
		"1,2,3-1,1,2": form(6),
		// Both faults: of the first range that has one.
		"0-256,0":         many(0),
		"1,1,0-999999":    many(2),
		"1,2-999999,1":    many(2),
		"1,1-257":         many(2),
		"1,0-256":         many(2),
		"1,0-255":         many(2),
		"1,2-256,1":       many(8),
		"1,2-256,1,300":   many(8),
		"1,2-256,300,1":   many(8),
		"1,2-255,1,300":   many(8),
		"1,2-255,300,1":   many(12),
		"1,2-255,300-301": many(8),
		"1,2-255,255-256": many(8),
		"0-255,0,256":     many(6),
		"0-255,256,0":     many(6),
		"0-255,200-300":   many(6),
	})
	// What has no index twice is none of these.
	wantArrays(t, map[string]array.Array{
		"1,11,111":      of(1, 11, 111),
		"1,10,100":      of(1, 10, 100),
		"1-3,13,31":     of(1, 2, 3, 13, 31),
		"0,256,512":     of(0, 256, 512),
		"0-6:3,1-7:3":   of(0, 1, 3, 4, 6, 7),
		"3-5,0-2,6":     of(0, 1, 2, 3, 4, 5, 6),
		"0-9:9,1-8,10":  of(0, 1, 2, 3, 4, 5, 6, 7, 8, 9, 10),
		"65536,0,65535": of(0, 65535, 65536),
	})
}

// someText is a text of which much may be, and some not.
func someText(r *rand.Rand) string {
	number := func(below int) string {
		s := strconv.Itoa(r.Intn(below))
		return strings.Repeat("0", r.Intn(8)*(r.Intn(9)/8)) + s
	}
	below := []int{10, 100, 1000, 1000, 1000000}[r.Intn(5)]
	var parts []string
	for range 1 + r.Intn(5) {
		first := r.Intn(below)
		part := strings.Repeat("0", r.Intn(3)*(r.Intn(9)/8)) + strconv.Itoa(first)
		if r.Intn(2) == 0 {
			part += "-" + strconv.Itoa(max(0, first-1+r.Intn(1<<r.Intn(9)+2)))
			if r.Intn(2) == 0 {
				part += ":" + number(12)
			}
		}
		parts = append(parts, part)
	}
	s := strings.Join(parts, ",")
	if r.Intn(2) == 0 {
		s += "%" + number(below)
	}
	if r.Intn(3) > 0 {
		return s
	}
	at := r.Intn(len(s))
	if r.Intn(2) == 0 {
		return s[:at]
	}
	return s[:at] + string("0129-,:%x"[r.Intn(9)]) + s[at+r.Intn(2):]
}

func TestParseAsTheModel(t *testing.T) {
	seen := map[api.Errno]int{}
	// All short texts of some bytes.
	const bytes = "0129-,:%x"
	texts := []string{""}
	for len(texts[0]) < 6 {
		var longer []string
		for _, s := range texts {
			seen[wantModel(t, s).Why]++
			for i := range len(bytes) {
				longer = append(longer, s+bytes[i:i+1])
			}
		}
		texts = longer
	}
	r := rand.New(rand.NewSource(1))
	for range 30000 {
		seen[wantModel(t, someText(r)).Why]++
	}
	for _, why := range []api.Errno{api.OK, api.ErrForm, api.ErrEnd, api.ErrMany} {
		if seen[why] < 1000 {
			t.Errorf("the faults were %v", seen)
		}
	}
}

func TestParseOfVeryLongTexts(t *testing.T) {
	const long = 1 << 20
	wantFault(t, strings.Repeat("0", long), form(6))
	wantFault(t, strings.Repeat("1,", long), many(2))
	wantFault(t, strings.Repeat("-", long), form(0))
	wantFault(t, "1-"+strings.Repeat("9", long), form(8))
	wantFault(t, "1-2:"+strings.Repeat("9", long), form(10))
	wantFault(t, "1%"+strings.Repeat("9", long), form(8))
	wantFault(t, "1%2"+strings.Repeat(",", long), form(3))
	// As long as a text may be.
	var ranges []string
	for _, i := range span(100000, 256, 7) {
		n := strconv.Itoa(i)
		ranges = append(ranges, n+"-"+n+":999999")
	}
	wantArray(t, strings.Join(ranges, ",")+"%999999", with(999999, of(span(100000, 256, 7)...)))
}

// P8.2: Right.

// wrongs are arrays that may not be.
func wrongs() []array.Array {
	l := []array.Array{
		{},
		with(3, of()),
		with(-1, of()),
		{Indexes: []int{}},
		of(span(0, 257, 1)...),
		of(span(1, 257, 2)...),
		with(9, of(span(0, 257, 3)...)),
		of(span(0, 300, 1)...),
		of(span(0, 100000, 1)...),
		of(span(0, 256+256, 1)...),
		// Below 0, and above the greatest.
		of(-1),
		of(-1, 0),
		of(-2, -1),
		of(-999999),
		of(math.MinInt),
		of(math.MinInt, 5, math.MaxInt),
		of(most + 1),
		of(0, most+1),
		of(most, most+1),
		of(1<<32, 1<<32+1),
		of(5, 1<<32+6),
		of(math.MaxInt),
		of(5, math.MaxInt),
		ending(span(0, 255, 1), most+1),
		// Falling.
		of(1, 0),
		of(5, 3),
		of(1, 2, 3, 2),
		of(1, 3, 2, 4),
		of(2, 1, 3, 4),
		of(0, most, most-1),
		of(5, 6, math.MinInt),
		of(5, 6, -1),
		ending(span(7, 255, 1), 6),
		// Twice.
		of(0, 0),
		of(7, 7),
		of(1, 2, 2),
		of(1, 1, 2),
		of(1, 2, 2, 3),
		of(1, 2, 1),
		of(most, most),
		ending(span(0, 255, 1), 254),
	}
	for _, limit := range []int{-1, -2, -most, math.MinInt, most + 1, 1 << 32, 1<<32 + 1, math.MaxInt} {
		l = append(l, with(limit, of(0)), with(limit, of(1, 2, 3)), with(limit, of(span(0, 256, 1)...)))
	}
	return l
}

// ending is an array of indexes and one more.
func ending(l []int, index int) array.Array { return of(append(l, index)...) }

// rights are arrays that may be.
func rights() []array.Array {
	l := []array.Array{
		of(0),
		of(1),
		of(most),
		of(most - 1),
		of(0, 1),
		of(0, most),
		of(most-1, most),
		of(1, 2, 3),
		of(1, 3, 9, 10, 500000),
		of(span(0, 255, 1)...),
		of(span(0, 256, 1)...),
		of(span(most-255, 256, 1)...),
		of(span(0, 256, 3907)...),
		ending(span(0, 255, 1), most),
	}
	for _, a := range l {
		for _, limit := range []int{1, 2, 256, 257, most - 1, most} {
			l = append(l, with(limit, a))
		}
	}
	return l
}

func TestRight(t *testing.T) {
	for _, a := range rights() {
		if !array.Right(a) {
			t.Errorf("Right(%v) is false", a)
		}
	}
	for _, a := range wrongs() {
		if array.Right(a) {
			t.Errorf("Right(%v) is true", a)
		}
	}
	for n := range 600 {
		if got := array.Right(of(span(0, n, 1)...)); got != (1 <= n && n <= 256) {
			t.Errorf("Right of %d indexes is %v", n, got)
		}
	}
}

func TestRightOfEachPlace(t *testing.T) {
	for _, n := range []int{2, 3, 17, 256} {
		for at := range n {
			for _, index := range []int{math.MinInt, -1, 0, 5, most, most + 1, math.MaxInt} {
				l := span(5, n, 9)
				l[at] = index
				want := 0 <= index && index <= most && (at == 0 || index > l[at-1]) && (at == n-1 || index < l[at+1])
				if got := array.Right(of(l...)); got != want {
					t.Errorf("Right with %d at %d of %d is %v", index, at, n, got)
				}
			}
		}
	}
}

// P8.2: Format.

// wantFormat holds what Format answers against a text.
func wantFormat(t *testing.T, a array.Array, want string) {
	t.Helper()
	if s, err := array.Format(a); s != want || err != api.OK {
		t.Errorf("Format(%v) = %q, %d, want %q", a, short(s), err, short(want))
	}
}

// modelFormat is the text of an array that may be: of each number of indexes from the most down it is asked whether they are a range.
func modelFormat(a array.Array) string {
	var parts []string
	for l := a.Indexes; len(l) > 0; {
		n := len(l)
		for !slices.Equal(l[:n], span(l[0], n, l[min(1, n-1)]-l[0])) {
			n--
		}
		step := l[min(1, n-1)] - l[0]
		switch {
		case n >= 3 && step > 1:
			parts = append(parts, strconv.Itoa(l[0])+"-"+strconv.Itoa(l[n-1])+":"+strconv.Itoa(step))
		case n >= 2 && step == 1:
			parts = append(parts, strconv.Itoa(l[0])+"-"+strconv.Itoa(l[n-1]))
		default:
			parts = append(parts, strconv.Itoa(l[0]))
			n = 1
		}
		l = l[n:]
	}
	s := strings.Join(parts, ",")
	if a.Limit > 0 {
		s += "%" + strconv.Itoa(a.Limit)
	}
	return s
}

func TestFormat(t *testing.T) {
	for want, a := range map[string]array.Array{
		"0-6:2,9%2": with(2, of(0, 2, 4, 6, 9)),
		// One.
		"0":      of(0),
		"7":      of(7),
		"10":     of(10),
		"999999": of(most),
		// Two, with the step 1 and with another one.
		"0-1":           of(0, 1),
		"1-2":           of(1, 2),
		"9-10":          of(9, 10),
		"999998-999999": of(most-1, most),
		"0,2":           of(0, 2),
		"1,3":           of(1, 3),
		"1,9":           of(1, 9),
		"0,999999":      of(0, most),
		// Three and more, with one step.
		"0-2":              of(0, 1, 2),
		"1-4":              of(1, 2, 3, 4),
		"0-4:2":            of(0, 2, 4),
		"1-7:3":            of(1, 4, 7),
		"1-7:2":            of(1, 3, 5, 7),
		"0-999998:499999":  of(0, 499999, 999998),
		"1-999999:499999":  of(1, 500000, most),
		"0-999999:333333":  of(0, 333333, 666666, most),
		"0-255":            of(span(0, 256, 1)...),
		"0-510:2":          of(span(0, 256, 2)...),
		"0-996285:3907":    of(span(0, 256, 3907)...),
		"999744-999999":    of(span(999744, 256, 1)...),
		"999487-999997:2":  of(span(999487, 256, 2)...),
		"98-104:2,105-106": of(98, 100, 102, 104, 105, 106),
		// Steps that change: what ends a range begins no other one.
		"1-2,4":           of(1, 2, 4),
		"1-2,4,6":         of(1, 2, 4, 6),
		"1-2,4-8:2":       of(1, 2, 4, 6, 8),
		"1-3,5":           of(1, 2, 3, 5),
		"1-3,5,7":         of(1, 2, 3, 5, 7),
		"1-3,5-9:2":       of(1, 2, 3, 5, 7, 9),
		"1,3-4":           of(1, 3, 4),
		"1,3-5":           of(1, 3, 4, 5),
		"1-5:2,6":         of(1, 3, 5, 6),
		"1-5:2,6-7":       of(1, 3, 5, 6, 7),
		"1-5:2,8":         of(1, 3, 5, 8),
		"1-5:2,8,11":      of(1, 3, 5, 8, 11),
		"1-5:2,8-14:3":    of(1, 3, 5, 8, 11, 14),
		"1,3-9:3":         of(1, 3, 6, 9),
		"1,3,6":           of(1, 3, 6),
		"1,3,6-7":         of(1, 3, 6, 7),
		"1,3,6,10,15,21":  of(1, 3, 6, 10, 15, 21),
		"1,3,6-18:4":      of(1, 3, 6, 10, 14, 18),
		"0-1,3-4,6-7":     of(0, 1, 3, 4, 6, 7),
		"0-2,4-6,8-10":    of(0, 1, 2, 4, 5, 6, 8, 9, 10),
		"0-30:10,31":      of(0, 10, 20, 30, 31),
		"5,7-8,11-15:2":   of(5, 7, 8, 11, 13, 15),
		"5,10-12,14-30:8": of(5, 10, 11, 12, 14, 22, 30),
	} {
		wantFormat(t, a, want)
	}
}

func TestFormatOfLimits(t *testing.T) {
	for want, a := range map[string]array.Array{
		"0":             with(0, of(0)),
		"0%1":           with(1, of(0)),
		"0-1%2":         with(2, of(0, 1)),
		"0-4:2%10":      with(10, of(0, 2, 4)),
		"1,3%256":       with(256, of(1, 3)),
		"1,3%999999":    with(most, of(1, 3)),
		"0-255%257":     with(257, of(span(0, 256, 1)...)),
		"1-3,5-9:2%100": with(100, of(1, 2, 3, 5, 7, 9)),
	} {
		wantFormat(t, a, want)
	}
}

func TestFormatOfWhatIsNotRight(t *testing.T) {
	for _, a := range wrongs() {
		if s, err := array.Format(a); s != "" || err != api.ErrForm {
			t.Errorf("Format(%v) = %q, %d", a, short(s), err)
		}
	}
}

// subsets are all arrays of indexes below a number.
func subsets(below int) []array.Array {
	var l []array.Array
	for bits := 1; bits < 1<<below; bits++ {
		var a array.Array
		for i := range below {
			if bits>>i&1 == 1 {
				a.Indexes = append(a.Indexes, i)
			}
		}
		l = append(l, a)
	}
	return l
}

// someArray is an array that may be, in which some steps come several times.
func someArray(r *rand.Rand) array.Array {
	index, step := r.Intn(1<<r.Intn(20)), 1+r.Intn(1<<r.Intn(10))
	a := of(index)
	for n := r.Intn(1 << r.Intn(9)); n > 0; n-- {
		if r.Intn(4) == 0 {
			step = 1 + r.Intn(1<<r.Intn(10))
		}
		if index += step; index > most {
			break
		}
		a.Indexes = append(a.Indexes, index)
	}
	if a.Indexes[0] > most {
		a.Indexes[0] = most
	}
	if r.Intn(2) == 0 {
		a.Limit = r.Intn(1 << r.Intn(20))
	}
	return a
}

func TestFormatAsTheModel(t *testing.T) {
	for _, a := range append(rights(), subsets(12)...) {
		wantFormat(t, a, modelFormat(a))
	}
	r := rand.New(rand.NewSource(2))
	for range 1000 {
		a := someArray(r)
		wantFormat(t, a, modelFormat(a))
	}
}

// P8.3: Step.

// doneOf are indexes that are done.
func doneOf(indexes ...int) map[int]bool {
	done := map[int]bool{}
	for _, i := range indexes {
		done[i] = true
	}
	return done
}

// wantStep holds what Step answers against indexes.
func wantStep(t *testing.T, a array.Array, running int, done map[int]bool, want ...int) {
	t.Helper()
	if got := array.Step(a, running, done); !slices.Equal(got, want) {
		t.Errorf("Step(%v, %d, %v) = %v, want %v", a, running, done, got, want)
	}
}

// runnings are counts of what runs, from the least on.
var runnings = []int{math.MinInt, -most, -2, -1, 0, 1, 2, 3, 4, 5, 100, most, math.MaxInt}

func TestStepWithoutALimit(t *testing.T) {
	a := of(2, 3, 5, 8, 13)
	for _, running := range runnings {
		if running < 0 {
			wantStep(t, a, running, nil)
			wantStep(t, a, running, doneOf(3))
			continue
		}
		// However many run.
		wantStep(t, a, running, nil, 2, 3, 5, 8, 13)
		wantStep(t, a, running, doneOf(), 2, 3, 5, 8, 13)
		wantStep(t, a, running, doneOf(2), 3, 5, 8, 13)
		wantStep(t, a, running, doneOf(13), 2, 3, 5, 8)
		wantStep(t, a, running, doneOf(3, 8), 2, 5, 13)
		wantStep(t, a, running, doneOf(2, 3, 5, 13), 8)
		wantStep(t, a, running, doneOf(2, 3, 5, 8, 13))
	}
	all := span(0, 256, 1)
	wantStep(t, of(all...), 0, nil, all...)
	wantStep(t, of(all...), 300, doneOf(all[:100]...), all[100:]...)
	wantStep(t, of(all...), 300, doneOf(all...))
	wantStep(t, of(0), 0, nil, 0)
	wantStep(t, of(0), 0, doneOf(0))
	wantStep(t, of(0, most), 0, doneOf(0), most)
}

func TestStepWithALimit(t *testing.T) {
	a := with(3, of(2, 3, 5, 8, 13))
	wantStep(t, a, 0, nil, 2, 3, 5)
	wantStep(t, a, 1, nil, 2, 3)
	wantStep(t, a, 2, nil, 2)
	for _, running := range []int{math.MinInt, math.MinInt + 1, -most, -3, -2, -1, 3, 4, 5, 6, 100, most, math.MaxInt - 1, math.MaxInt} {
		wantStep(t, a, running, nil)
		wantStep(t, a, running, doneOf(2, 5))
	}
	// Those that are done are not counted.
	wantStep(t, a, 0, doneOf(2), 3, 5, 8)
	wantStep(t, a, 0, doneOf(3), 2, 5, 8)
	wantStep(t, a, 0, doneOf(2, 3, 5), 8, 13)
	wantStep(t, a, 0, doneOf(3, 8), 2, 5, 13)
	wantStep(t, a, 0, doneOf(2, 3, 5, 8), 13)
	wantStep(t, a, 0, doneOf(2, 3, 5, 8, 13))
	wantStep(t, a, 1, doneOf(3, 8), 2, 5)
	wantStep(t, a, 2, doneOf(3, 8), 2)
	wantStep(t, a, 2, doneOf(2, 3, 5, 8), 13)
	wantStep(t, a, 3, doneOf(3, 8))
	// A limit of one, and ones above the array.
	wantStep(t, with(1, a), 0, nil, 2)
	wantStep(t, with(1, a), 1, nil)
	wantStep(t, with(5, a), 0, nil, 2, 3, 5, 8, 13)
	wantStep(t, with(5, a), 4, nil, 2)
	wantStep(t, with(6, a), 0, nil, 2, 3, 5, 8, 13)
	wantStep(t, with(6, a), 1, nil, 2, 3, 5, 8, 13)
	wantStep(t, with(6, a), 2, nil, 2, 3, 5, 8)
	wantStep(t, with(most, a), 0, nil, 2, 3, 5, 8, 13)
	wantStep(t, with(most, a), most-5, nil, 2, 3, 5, 8, 13)
	wantStep(t, with(most, a), most-4, nil, 2, 3, 5, 8)
	wantStep(t, with(most, a), most-1, nil, 2)
	wantStep(t, with(most, a), most, nil)
	wantStep(t, with(most, a), most+1, nil)
	all := span(1, 256, 3)
	wantStep(t, with(200, of(all...)), 0, nil, all[:200]...)
	wantStep(t, with(200, of(all...)), 150, doneOf(all[:220]...), all[220:]...)
	wantStep(t, with(200, of(all...)), 180, doneOf(all[:220]...), all[220:240]...)
}

func TestStepOfWhatIsNoneOfTheArrays(t *testing.T) {
	a := with(2, of(2, 4, 6))
	wantStep(t, a, 0, doneOf(0, 1, 3, 5, 7, -1, math.MinInt, math.MaxInt), 2, 4)
	wantStep(t, a, 1, doneOf(3, 5, 4), 2)
	wantStep(t, with(0, a), 0, doneOf(0, 1, 3, 5, 7, -2, -4, 1<<32+2), 2, 4, 6)
	wantStep(t, with(0, a), 9, doneOf(0, 4, 7), 2, 6)
	// Those that are false there are not done.
	wantStep(t, a, 0, map[int]bool{2: false, 4: false, 6: false}, 2, 4)
	wantStep(t, a, 0, map[int]bool{2: true, 4: false, 6: false}, 4, 6)
	wantStep(t, a, 0, map[int]bool{2: false, 4: true, 5: true, 7: false}, 2, 6)
	wantStep(t, with(0, a), 0, map[int]bool{2: false, 4: true, 6: false}, 2, 6)
	wantStep(t, with(0, a), 0, map[int]bool{2: true, 4: true, 6: true, 8: false})
}

func TestStepOfWhatIsNotRight(t *testing.T) {
	for _, a := range wrongs() {
		for _, running := range runnings {
			wantStep(t, a, running, nil)
			wantStep(t, a, running, doneOf(1, 3))
		}
	}
}

// modelStep are the indexes that may be started: each one is asked how many are ahead of it.
func modelStep(a array.Array, running int, done map[int]bool) []int {
	var start []int
	for at, i := range a.Indexes {
		ahead := 0
		for _, other := range a.Indexes[:at] {
			if !done[other] {
				ahead++
			}
		}
		if running >= 0 && !done[i] && (a.Limit == 0 || running+ahead < a.Limit) {
			start = append(start, i)
		}
	}
	return start
}

func TestStepAsTheModel(t *testing.T) {
	for _, a := range subsets(5) {
		for _, d := range append(subsets(5), of()) {
			done := doneOf(d.Indexes...)
			for limit := range 8 {
				for running := -2; running < 9; running++ {
					a.Limit = limit
					wantStep(t, a, running, done, modelStep(a, running, done)...)
				}
			}
		}
	}
	r := rand.New(rand.NewSource(3))
	for range 3000 {
		a, done := someArray(r), map[int]bool{}
		for _, i := range a.Indexes {
			if r.Intn(3) > 0 {
				done[i] = r.Intn(2) == 0
			}
		}
		running := r.Intn(1<<r.Intn(10)) - r.Intn(2)
		wantStep(t, a, running, done, modelStep(a, running, done)...)
	}
}

// P8.4.

// wantAgain holds against an array what is parsed of what it is formatted to.
func wantAgain(t *testing.T, a array.Array) {
	t.Helper()
	s, err := array.Format(a)
	if err != api.OK {
		t.Fatalf("Format(%v) has the error %d", a, err)
	}
	wantArray(t, s, a)
}

func TestWhatIsFormattedIsParsed(t *testing.T) {
	for _, a := range append(rights(), subsets(12)...) {
		wantAgain(t, a)
	}
	r := rand.New(rand.NewSource(4))
	for range 10000 {
		wantAgain(t, someArray(r))
	}
}

func TestWhatIsParsedIsParsedAgain(t *testing.T) {
	r := rand.New(rand.NewSource(5))
	held := 0
	for range 20000 {
		s := someText(r)
		a, f := array.Parse(s)
		if (f == none) != array.Right(a) {
			t.Fatalf("Parse(%q) = %v, %v: whether it is right is %v", s, a, f, array.Right(a))
		}
		if f == none {
			held++
			wantAgain(t, a)
			// A text that Format gives is given again.
			again, _ := array.Format(a)
			wantFormat(t, a, again)
		}
	}
	if held < 1000 {
		t.Errorf("there were %d texts that may be", held)
	}
}

// P8.5.

// runAll starts all of an array, step by step, of which some that are picked end in between, and tells how many ran at once at most.
func runAll(t *testing.T, a array.Array, ends func(running []int) int) int {
	t.Helper()
	done := map[int]bool{}
	var running, started []int
	top := 0
	for len(started) < len(a.Indexes) || len(running) > 0 {
		next := array.Step(a, len(running), done)
		if len(next)+len(running) == 0 {
			t.Fatalf("of %v nothing is started, nor runs, behind %v", a, started)
		}
		for _, i := range next {
			if done[i] {
				t.Fatalf("of %v %d is started twice", a, i)
			}
			done[i] = true
		}
		started, running = append(started, next...), append(running, next...)
		top = max(top, len(running))
		// At least one ends, so that this does.
		for n := 1 + ends(running); n > 0 && len(running) > 0; n-- {
			at := ends(running) % len(running)
			running = slices.Delete(running, at, at+1)
		}
	}
	if !slices.Equal(started, a.Indexes) {
		t.Fatalf("of %v there were started %v", a, started)
	}
	wantStep(t, a, 0, done)
	return top
}

func TestStepByStepAllAreStarted(t *testing.T) {
	r := rand.New(rand.NewSource(6))
	ways := []func([]int) int{
		// The first one ends, the last one, all at once, and any.
		func([]int) int { return 0 },
		func(running []int) int { return len(running) - 1 },
		func(running []int) int { return len(running) },
		func(running []int) int { return r.Intn(len(running) + 1) },
	}
	arrays := append(rights(), subsets(6)...)
	for range 300 {
		arrays = append(arrays, someArray(r))
	}
	for _, a := range arrays {
		for _, limit := range []int{0, 1, 2, 3, len(a.Indexes), len(a.Indexes) + 1, a.Limit} {
			a.Limit = limit
			want := len(a.Indexes)
			if limit > 0 {
				want = min(want, limit)
			}
			for _, ends := range ways {
				// As many run at once as may.
				if top := runAll(t, a, ends); top != want {
					t.Fatalf("of %v %d ran at once, want %d", a, top, want)
				}
			}
		}
	}
}

// R4: what is handed in is neither written into nor kept, and what is answered is the caller's.

func TestWhatIsHandedInStays(t *testing.T) {
	// There is room behind the indexes, which must stay as it is, too.
	room := []int{2, 3, 5, 8, 13, 77, 78, 79}
	wasRoom := slices.Clone(room)
	done := map[int]bool{3: true, 5: false, 77: true}
	wasDone := maps.Clone(done)
	for _, size := range []int{0, 1, 2, 5} {
		for _, limit := range []int{0, 1, 3, -1} {
			a := with(limit, of(room[:size]...))
			a.Indexes = room[:size]
			array.Right(a)
			array.Format(a)
			array.Step(a, 0, done)
			array.Step(a, 1, done)
			array.Step(a, 0, nil)
		}
	}
	if !slices.Equal(room, wasRoom) {
		t.Errorf("the indexes are now %v, were %v", room, wasRoom)
	}
	if !maps.Equal(done, wasDone) {
		t.Errorf("those done are now %v, were %v", done, wasDone)
	}
}

// scrawl writes over a list, and over all the room behind it.
func scrawl(l []int) {
	l = l[:cap(l)]
	for i := range l {
		l[i] = -77
	}
}

func TestAnswersAreTheCallers(t *testing.T) {
	// Of Step, with nothing done, with the first ones done, and with the last ones.
	for _, a := range []array.Array{of(1), of(2, 3, 5, 8, 13), with(3, of(2, 3, 5, 8, 13)), with(9, of(2, 3, 5))} {
		for _, done := range []map[int]bool{nil, doneOf(2), doneOf(13, 8)} {
			was := clone(a)
			first, again := array.Step(a, 0, done), array.Step(a, 0, done)
			want := slices.Clone(first)
			scrawl(first)
			if !same(a, was) {
				t.Errorf("what Step answers is its caller's list: %v, was %v", a, was)
			}
			if !slices.Equal(again, want) {
				t.Errorf("what Step answers turns with another answer: %v, was %v", again, want)
			}
			handed := clone(a)
			again = array.Step(handed, 0, done)
			scrawl(handed.Indexes)
			if !slices.Equal(again, want) {
				t.Errorf("what Step answers turns with its caller's list: %v, was %v", again, want)
			}
		}
	}
	// Of Parse: no two answers share anything.
	for _, s := range []string{"1", "1-5:2,9%2", "9,0-6:2", "0-255", list(0, 256, 2)} {
		first, _ := array.Parse(s)
		again, _ := array.Parse(s)
		want := clone(first)
		scrawl(first.Indexes)
		if !same(again, want) {
			t.Errorf("Parse(%q) = %v turned with another one's answer", short(s), again)
		}
		wantArray(t, s, want)
	}
}

// R3: the same calls have the same answers.
func TestTheSameCallsHaveTheSameAnswers(t *testing.T) {
	for range 3 {
		wantArray(t, "9,0-6:2%2", with(2, of(0, 2, 4, 6, 9)))
		wantFault(t, "9,0-6:2,4", many(8))
		wantFault(t, "9,0-6:", end(6))
		wantFormat(t, with(2, of(0, 2, 4, 6, 9)), "0-6:2,9%2")
		wantStep(t, with(2, of(0, 2, 4, 6, 9)), 1, doneOf(0, 2), 4)
	}
}
