package host_test

import (
	"math/rand"
	"regexp"
	"slices"
	"strconv"
	"strings"
	"testing"

	"marlinspike/api"
	"marlinspike/host"
)

var none api.Fault

// form, end and many are the faults at a byte.
func form(at int) api.Fault { return api.Fault{Why: api.ErrForm, At: at} }
func end(at int) api.Fault  { return api.Fault{Why: api.ErrEnd, At: at} }
func many(at int) api.Fault { return api.Fault{Why: api.ErrMany, At: at} }

// words are the names that stand in a text, with blanks between.
func words(s string) []string { return strings.Fields(s) }

// count are the names of a prefix and the numbers from one to another.
func count(prefix string, from, to int) []string {
	var l []string
	for n := from; n <= to; n++ {
		l = append(l, prefix+strconv.Itoa(n))
	}
	return l
}

// The model of Expand goes by patterns, a part at a time.
var (
	aPart = regexp.MustCompile(`^[0-9A-Za-z._-]+(\[[0-9]{1,6}(-[0-9]{1,6})?(,[0-9]{1,6}(-[0-9]{1,6})?)*\])?$`)
	// aStart is all that a part may begin with, and as much of it as can be.
	aStart = longest(`^([0-9A-Za-z._-]+(\[([0-9]{1,6}(-[0-9]{1,6})?,)*([0-9]{1,6}-?|[0-9]{1,6}-[0-9]{1,6}|[0-9]{1,6}(-[0-9]{1,6})?\])?)?)?`)
	// aRange is what stands ahead of a range's second number, and both numbers, if the second one ended.
	aRange = regexp.MustCompile(`[\[,]([0-9]{1,6})-([0-9]{1,6})`)
)

// longest is a pattern that matches as much as it can.
func longest(s string) *regexp.Regexp {
	re := regexp.MustCompile(s)
	re.Longest()
	return re
}

// modelPart is where a part that begins s ends, and its first fault.
func modelPart(s string) (int, api.Fault) {
	stop := len(aStart.FindString(s))
	fault := none
	switch whole := aPart.MatchString(s[:stop]); {
	case whole && (stop == len(s) || s[stop] == ','):
	case stop == len(s):
		fault = end(stop)
	default:
		fault = form(stop)
	}
	for _, m := range aRange.FindAllStringSubmatchIndex(s[:stop], -1) {
		first, _ := strconv.Atoi(s[m[2]:m[3]])
		second, _ := strconv.Atoi(s[m[4]:m[5]])
		seventh := m[5] == stop && stop < len(s) && '0' <= s[stop] && s[stop] <= '9'
		if second < first && !seventh {
			return stop, form(m[4])
		}
	}
	return stop, fault
}

// modelNames are a part's names, as many as there are till there are more than most.
func modelNames(s string, most int) []string {
	prefix, ranges, brackets := strings.Cut(strings.TrimSuffix(s, "]"), "[")
	if !brackets {
		return []string{prefix}
	}
	var l []string
	for r := range strings.SplitSeq(ranges, ",") {
		from, to, two := strings.Cut(r, "-")
		if !two {
			to = from
		}
		first, _ := strconv.Atoi(from)
		second, _ := strconv.Atoi(to)
		for n := first; n <= second && len(l) <= most; n++ {
			digits := strconv.Itoa(n)
			for from[0] == '0' && len(digits) < len(from) {
				digits = "0" + digits
			}
			l = append(l, prefix+digits)
		}
	}
	return l
}

// model are the names of a text, or its fault.
func model(s string) ([]string, api.Fault) {
	var l []string
	for at := 0; s != ""; {
		stop, fault := modelPart(s[at:])
		if fault != none {
			return nil, api.Fault{Why: fault.Why, At: at + fault.At}
		}
		l = append(l, modelNames(s[at:at+stop], 256)...)
		if len(l) > 256 {
			return nil, many(at)
		}
		if at += stop; at == len(s) {
			break
		}
		at++
	}
	return l, none
}

// wantNames holds what Expand answers against names.
func wantNames(t *testing.T, s string, names []string) {
	t.Helper()
	if l, f := host.Expand(s); f != none || !slices.Equal(l, names) {
		t.Errorf("Expand(%.60q) = %.300q, %v, want %.300q", s, l, f, names)
	}
}

// wantFault holds what Expand answers against a fault.
func wantFault(t *testing.T, s string, fault api.Fault) {
	t.Helper()
	if l, f := host.Expand(s); f != fault || len(l) != 0 {
		t.Errorf("Expand(%.60q) = %.300q, %v, want the fault %v", s, l, f, fault)
	}
}

// holdExpand holds what Expand answers against the model.
func holdExpand(t *testing.T, s string) api.Errno {
	t.Helper()
	l, f := host.Expand(s)
	if names, fault := model(s); f != fault || !slices.Equal(l, names) {
		t.Fatalf("Expand(%q) = %.300q, %v, want %.300q, %v", s, l, f, names, fault)
	}
	return f.Why
}

// P5.1: names.

func TestExpand(t *testing.T) {
	for s, names := range map[string]string{
		"":                  "",
		"n[1-3,07-08],m":    "n1 n2 n3 n07 n08 m",
		"n":                 "n",
		"n1":                "n1",
		"7":                 "7",
		"-":                 "-",
		"_":                 "_",
		".":                 ".",
		"a-b_c.9":           "a-b_c.9",
		"AZaz09":            "AZaz09",
		"a,b":               "a b",
		"a,b,a":             "a b a",
		"n[5]":              "n5",
		"n[5],m":            "n5 m",
		"m,n[5]":            "m n5",
		"n[1-3]":            "n1 n2 n3",
		"n[5-5]":            "n5",
		"n[1,3]":            "n1 n3",
		"n[3,1]":            "n3 n1",
		"n[1,1,1-2]":        "n1 n1 n1 n2",
		"n[1-2,5,8-9]":      "n1 n2 n5 n8 n9",
		"n[1],n[2],m[3]":    "n1 n2 m3",
		"n[8-11]":           "n8 n9 n10 n11",
		"n1[2-3]":           "n12 n13",
		"12[3,45]":          "123 1245",
		"-[1-2]":            "-1 -2",
		".-_[1]":            ".-_1",
		"n[999999]":         "n999999",
		"n[999998-999999]":  "n999998 n999999",
		"n[99999-100000]":   "n99999 n100000",
		"n[1-1],n[1-2],n-1": "n1 n1 n2 n-1",
	} {
		wantNames(t, s, words(names))
	}
}

func TestExpandFillsUpWithNoughts(t *testing.T) {
	for s, names := range map[string]string{
		"n[0]":             "n0",
		"n[0-2]":           "n0 n1 n2",
		"n[0-11]":          strings.Join(count("n", 0, 11), " "),
		"n[00]":            "n00",
		"n[00-2]":          "n00 n01 n02",
		"n[07]":            "n07",
		"n[007]":           "n007",
		"n[000000]":        "n000000",
		"n[000000-000001]": "n000000 n000001",
		"n[07-08]":         "n07 n08",
		"n[07-8]":          "n07 n08",
		"n[07-008]":        "n07 n08",
		"n[007-8]":         "n007 n008",
		"n[09-11]":         "n09 n10 n11",
		"n[098-101]":       "n098 n099 n100 n101",
		"n[98-101]":        "n98 n99 n100 n101",
		"n[098-00101]":     "n098 n099 n100 n101",
		"n[7-08]":          "n7 n8",
		"n[7-000008]":      "n7 n8",
		"n[9-011]":         "n9 n10 n11",
		"n[0-01]":          "n0 n1",
		"n[0-000000]":      "n0",
		"n[10-11]":         "n10 n11",
		"n[100]":           "n100",
		"n[09999-010001]":  "n09999 n10000 n10001",
		"n[099999-100000]": "n099999 n100000",
		"n[08,9,010,0,00]": "n08 n9 n010 n0 n00",
		"n0[1-2],n00[01]":  "n01 n02 n0001",
	} {
		wantNames(t, s, words(names))
	}
	// Two digits from the first nought on, and three from the hundred on.
	l := append(count("n0", 0, 9), count("n", 10, 120)...)
	wantNames(t, "n[00-120]", l)
	wantNames(t, "n[00-000120]", l)
	wantNames(t, "n[0-120]", count("n", 0, 120))
}

// P5.1: what may not stand there.

func TestExpandRefusesWhatMayNotStandThere(t *testing.T) {
	for s, fault := range map[string]api.Fault{
		// Where a prefix begins.
		",":      form(0),
		",a":     form(0),
		"[":      form(0),
		"[1]":    form(0),
		"]":      form(0),
		" n":     form(0),
		"a,,b":   form(2),
		"a,[1]":  form(2),
		"n[1],,": form(5),
		"n[1],]": form(5),
		// In a prefix.
		"n]":     form(1),
		"n ":     form(1),
		"n m":    form(1),
		"n/m":    form(1),
		"n:1":    form(1),
		"n@":     form(1),
		"n`":     form(1),
		"n{":     form(1),
		"n\x00":  form(1),
		"n\x80":  form(1),
		"n\xff":  form(1),
		"\xc3":   form(0),
		"näs":    form(1),
		"a,n!,b": form(3),
		"n]1":    form(1),
		// Where a number begins.
		"n[]":        form(2),
		"n[,":        form(2),
		"n[,1]":      form(2),
		"n[-":        form(2),
		"n[-1]":      form(2),
		"n[a":        form(2),
		"n[a]":       form(2),
		"n[ 1]":      form(2),
		"n[[1]]":     form(2),
		"n[+1]":      form(2),
		"n[1,]":      form(4),
		"n[1,,2]":    form(4),
		"n[1,-2]":    form(4),
		"n[1,x]":     form(4),
		"n[1-]":      form(4),
		"n[1-,2]":    form(4),
		"n[1--2]":    form(4),
		"n[1-x]":     form(4),
		"n[1-[":      form(4),
		"n[1-2,]":    form(6),
		"m,n[1-2,]":  form(8),
		"m[1],n[2-]": form(9),
		// Behind a number.
		"n[1x]":     form(3),
		"n[1 ]":     form(3),
		"n[1.2]":    form(3),
		"n[1[2]]":   form(3),
		"n[1:2]":    form(3),
		"n[1/":      form(3),
		"n[123456x": form(8),
		"n[1-2-3]":  form(5),
		"n[1-2x]":   form(5),
		"n[1-2[":    form(5),
		"n[1-2 ]":   form(5),
		"n[1,2x]":   form(5),
		// Behind the bracket that closes.
		"n[1]m":      form(4),
		"n[1]2":      form(4),
		"n[1][2]":    form(4),
		"n[1]]":      form(4),
		"n[1]-":      form(4),
		"n[1] ,m":    form(4),
		"n[1-2,3]x":  form(8),
		"m,n[1]x,!":  form(6),
		"n[1]\x00":   form(4),
		"m,n[1]\xff": form(6),
	} {
		wantFault(t, s, fault)
	}
}

func TestExpandAtEachByteOfEachPlace(t *testing.T) {
	digits := "0123456789"
	prefix := digits + "ABCDEFGHIJKLMNOPQRSTUVWXYZabcdefghijklmnopqrstuvwxyz-_."
	for _, c := range []struct {
		ahead, behind, may string
	}{
		{"", "", prefix},
		{"", "[1]", prefix},
		{"n", "", prefix + ",["},
		{"n", "1],m", prefix + ",["},
		{"n", ",m", prefix + ",["},
		{"a,", "", prefix},
		{"a,b", "[1]", prefix + ",["},
		{"n[", "]", digits},
		{"n[1", "]", digits + "-,]"},
		{"n[1", "", digits + "-,]"},
		{"n[1", "2]", digits + "-,]"},
		{"n[0-", "]", digits},
		{"n[0-", "", digits},
		{"n[1,", "]", digits},
		{"n[1,2", "3]", digits + "-,]"},
		{"n[1-2", "", digits + ",]"},
		{"n[1-2", "3]", digits + ",]"},
		{"n[12345", "", digits + "-,]"},
		{"n[123456", "", "-,]"},
		{"n[123456", "234567]", "-,]"},
		{"n[0-12345", "", digits + ",]"},
		{"n[0-123456", "", ",]"},
		{"n[1]", "m", ","},
		{"n[1]", "", ","},
		{"n[1],", "", prefix},
	} {
		for b := range 256 {
			s := c.ahead + string([]byte{byte(b)}) + c.behind
			_, f := host.Expand(s)
			if may := strings.IndexByte(c.may, byte(b)) >= 0; may == (f == form(len(c.ahead))) {
				t.Errorf("Expand(%q) = %v", s, f)
			}
			holdExpand(t, s)
		}
	}
}

func TestExpandRefusesARangeThatFalls(t *testing.T) {
	for s, fault := range map[string]api.Fault{
		"n[2-1]":           form(4),
		"n[10-9]":          form(5),
		"n[10-009]":        form(5),
		"n[010-9]":         form(6),
		"n[1-0]":           form(4),
		"n[1-000000]":      form(4),
		"n[999999-999998]": form(9),
		"n[1,3-2]":         form(6),
		"n[1-2,3-2]":       form(8),
		"n[1-2,3-2,5-4]":   form(8),
		"a,n[2-1],m":       form(6),
		"n[100000-2]":      form(9),
		// Ahead of all that stands behind its second number.
		"n[2-1":       form(4),
		"n[2-1x]":     form(4),
		"n[2-1-1]":    form(4),
		"n[22-11":     form(5),
		"n[2-1]x":     form(4),
		"n[2-1,":      form(4),
		"n[2-1,x]":    form(4),
		"n[2-1],,":    form(4),
		"n[2-1][":     form(4),
		"n[20-10,2-1": form(5),
		// But behind all that stands ahead of it.
		"n[1x,2-1]":     form(3),
		"!n[2-1]":       form(0),
		"n[0-999,2-1]":  form(10),
		"n[2-1,0-9999]": form(4),
	} {
		wantFault(t, s, fault)
	}
	// What is not below: as many, and more with a lesser first digit.
	wantNames(t, "n[2-2]", words("n2"))
	wantNames(t, "n[002-2]", words("n002"))
	wantNames(t, "n[9-10]", words("n9 n10"))
}

func TestExpandRefusesTheSeventhDigit(t *testing.T) {
	for s, fault := range map[string]api.Fault{
		"n[1234567]":         form(8),
		"n[1234567":          form(8),
		"n[12345678]":        form(8),
		"n[0000001]":         form(8),
		"n[0000000]":         form(8),
		"n[1,1234567]":       form(10),
		"n[1-1234567]":       form(10),
		"n[1-0000002]":       form(10),
		"n[1-1234567-":       form(10),
		"m,n[1234567-2]":     form(10),
		"n[9999990-9999999]": form(8),
		// Whatever the six ahead of it are: below the first number, too.
		"n[9-0000009]":      form(10),
		"n[9-0000001]":      form(10),
		"n[999999-1000000]": form(15),
		"n[999999-0000001]": form(15),
		"n[2-0000001":       form(10),
		"n[123456-1234560]": form(15),
	} {
		wantFault(t, s, fault)
	}
	// Six may be, and a prefix and a name have as many as they like.
	wantNames(t, "n[123456]", words("n123456"))
	wantNames(t, "n[000001-000002]", words("n000001 n000002"))
	wantNames(t, "n[123456-123457,000000]", words("n123456 n123457 n000000"))
	wantNames(t, "n1234567890", words("n1234567890"))
	wantNames(t, "1234567890[1]", words("12345678901"))
}

// P5.1: what is missing at the end.

func TestExpandTellsWhatIsMissing(t *testing.T) {
	for _, s := range []string{
		// A prefix.
		"n,", "n,m,", "n[1],", "n[1-3],m,", "7,",
		// A number.
		"n[", "m,n[", "n[1,", "n[1-", "n[1-2,", "n[1-2,3-", "n[1,2,", "n[123456-", "n[000000,",
		// A bracket.
		"n[1", "n[12", "n[123456", "n[1-2", "n[1-234567", "n[1,2", "n[1-2,3", "n[0", "n[00-000000", "m[1],n[2",
		// Though there would be more than 256 names.
		"n[0-256", "n[0-256,", "n[0-999999", "n[1-256],n[1",
	} {
		wantFault(t, s, end(len(s)))
	}
	// The part ahead of it is read first.
	wantFault(t, "n[0-256],", many(0))
	wantFault(t, "m,n[1-256],", many(2))
	wantFault(t, "n[1-256],", end(9))
}

// P5.1: too many names.

func TestExpandRefusesMoreThanAllNames(t *testing.T) {
	for s, names := range map[string][]string{
		"n[1-256]":                      count("n", 1, 256),
		"n[0-255]":                      count("n", 0, 255),
		"n[999744-999999]":              count("n", 999744, 999999),
		"n[1-255],m":                    append(count("n", 1, 255), "m"),
		"m,n[1-255]":                    append([]string{"m"}, count("n", 1, 255)...),
		"n[1-100,101-256]":              count("n", 1, 256),
		"n[1-128],m[1-128]":             append(count("n", 1, 128), count("m", 1, 128)...),
		"n[1-128,1-128]":                append(count("n", 1, 128), count("n", 1, 128)...),
		"n[1-255,300]":                  append(count("n", 1, 255), "n300"),
		"a,b,n[1-253],c":                append(append([]string{"a", "b"}, count("n", 1, 253)...), "c"),
		strings.Repeat("a,", 255) + "a": slices.Repeat([]string{"a"}, 256),
	} {
		wantNames(t, s, names)
	}
	for s, fault := range map[string]api.Fault{
		"n[1-257]":               many(0),
		"n[0-256]":               many(0),
		"n[0-999999]":            many(0),
		"n[999743-999999]":       many(0),
		"n[1-256],m":             many(9),
		"m,n[1-256]":             many(2),
		"m,n[1-257]":             many(2),
		"m,n[0-999999],o":        many(2),
		"n[1-100,101-257]":       many(0),
		"n[1-256,1]":             many(0),
		"n[1,1-256]":             many(0),
		"n[1-128],m[1-129]":      many(9),
		"n[1-128],m[1-64,1-65]":  many(9),
		"n[1-255],m,o,p":         many(11),
		"n[1-255],m[1],o[1]":     many(14),
		"a,b,n[1-253],c,d":       many(15),
		"n[0-999999,0-999999],m": many(0),
		"n[1-257],n[1-257]":      many(0),
		// Of a part its own faults come first, those of others behind it do not.
		"n[1-257]x":           form(8),
		"n[1-257,x]":          form(8),
		"n[1-257,2-1]":        form(10),
		"n[1-257,1234567]":    form(14),
		"n[1-257],!":          many(0),
		"n[1-257],,":          many(0),
		"n[1-257],n[2-1]":     many(0),
		"n[1-256],n[2-1],":    form(13),
		"n[1-256],!,m":        form(9),
		"n[1-256],m!":         form(10),
		"n[1-255],m,!":        form(11),
		"n[1-255],m,o,!":      many(11),
		"n[1-256],m,!":        many(9),
		"n[1-256],m[1-2]m":    form(15),
		"n[1-256],m[1-99999x": form(18),
	} {
		wantFault(t, s, fault)
	}
	wantFault(t, strings.Repeat("a,", 256)+"a", many(512))
	wantFault(t, strings.Repeat("a,", 300)+"!", many(512))
	wantFault(t, strings.Repeat("a,", 256)+"!", form(512))
	wantFault(t, strings.Repeat("a,", 256), end(512))
}

// A text's names may be many more than there is room for: they are counted, not made.
func TestExpandOfVeryManyRanges(t *testing.T) {
	ranges := strings.Repeat("0-999999,", 100000)
	s := strings.Repeat("p", 100000) + "[" + ranges
	wantFault(t, s, end(len(s)))
	wantFault(t, s+"1]", many(0))
	wantFault(t, s+"1]x", form(len(s)+2))
	wantFault(t, "m,"+s+"2-1]", form(2+len(s)+2))
}

func TestExpandAsTheModel(t *testing.T) {
	r := rand.New(rand.NewSource(1))
	pieces := []string{"n", "m1", "-", "[", "]", ",", "-", "0", "00", "1", "7", "9", "10", "099", "100", "255", "256", "257", "99999", "999999", "[1-3]", "[07-11,", "m[0-128],", "n[1-128],", "m[1-300],", "n[0],", "],", "!", "\xff", " "}
	seen := map[api.Errno]int{}
	for range 60000 {
		s := ""
		for range r.Intn(12) {
			s += pieces[r.Intn(len(pieces))]
		}
		seen[holdExpand(t, s)]++
	}
	for _, why := range []api.Errno{api.OK, api.ErrForm, api.ErrEnd, api.ErrMany} {
		if seen[why] < 20 {
			t.Errorf("%v was met %d times", why, seen[why])
		}
	}
}

// a text that may be, from parts that r takes.
func someText(r *rand.Rand) string {
	var parts []string
	for range 1 + r.Intn(5) {
		p := []string{"n", "m", "rack-1.", "a_", "9"}[r.Intn(5)]
		if r.Intn(4) > 0 {
			var ranges []string
			for range 1 + r.Intn(4) {
				ranges = append(ranges, someRange(r))
			}
			p += "[" + strings.Join(ranges, ",") + "]"
		}
		parts = append(parts, p)
	}
	return strings.Join(parts, ",")
}

// someRange is a range, which may fall by some.
func someRange(r *rand.Rand) string {
	first := []int{0, 1, 8, 95, 98, 999, 99990, 999990}[r.Intn(8)] + r.Intn(3)
	second := first + r.Intn(20) - 1
	text := func(n int) string {
		s := strings.Repeat("0", r.Intn(2)*r.Intn(4)) + strconv.Itoa(max(n, 0))
		return s[max(0, len(s)-6):]
	}
	if r.Intn(3) == 0 {
		return text(first)
	}
	return text(first) + "-" + text(second)
}

func TestExpandOfTextsThatMayBeAndOfOnesWithAByteTurned(t *testing.T) {
	r := rand.New(rand.NewSource(2))
	bytes := "n0159[],-.! \x80"
	for range 15000 {
		s := someText(r)
		holdExpand(t, s)
		at := r.Intn(len(s))
		holdExpand(t, s[:at])
		holdExpand(t, s[:at]+s[at+1:])
		c := string(bytes[r.Intn(len(bytes))])
		holdExpand(t, s[:at]+c+s[at:])
		holdExpand(t, s[:at]+c+s[at+1:])
	}
}

// P5.2.

// number is what Number answers.
type number struct {
	prefix    string
	n, digits int
	ok        bool
}

// numberOf is Number's answer in one.
func numberOf(name string) number {
	prefix, n, digits, ok := host.Number(name)
	return number{prefix, n, digits, ok}
}

// modelNumber is what it should be.
func modelNumber(name string) number {
	digits := name[len(strings.TrimRight(name, "0123456789")):]
	digits = digits[max(0, len(digits)-6):]
	prefix := strings.TrimSuffix(name, digits)
	if digits == "" || prefix == "" {
		return number{prefix: name}
	}
	n, _ := strconv.Atoi(digits)
	return number{prefix, n, len(digits), true}
}

func TestNumber(t *testing.T) {
	for name, want := range map[string]number{
		// No digit at the end.
		"":       {"", 0, 0, false},
		"n":      {"n", 0, 0, false},
		"7n":     {"7n", 0, 0, false},
		"n7-":    {"n7-", 0, 0, false},
		"n12 ":   {"n12 ", 0, 0, false},
		"n7\xff": {"n7\xff", 0, 0, false},
		"n٣":     {"n٣", 0, 0, false},
		"n1/":    {"n1/", 0, 0, false},
		"n1:":    {"n1:", 0, 0, false},
		// 1 to 6 digits.
		"n0":       {"n", 0, 1, true},
		"n7":       {"n", 7, 1, true},
		"n9":       {"n", 9, 1, true},
		"n00":      {"n", 0, 2, true},
		"n07":      {"n", 7, 2, true},
		"n10":      {"n", 10, 2, true},
		"n123":     {"n", 123, 3, true},
		"n0042":    {"n", 42, 4, true},
		"n54321":   {"n", 54321, 5, true},
		"n123456":  {"n", 123456, 6, true},
		"n000000":  {"n", 0, 6, true},
		"n999999":  {"n", 999999, 6, true},
		"-1":       {"-", 1, 1, true},
		"n-1":      {"n-", 1, 1, true},
		"n1m2":     {"n1m", 2, 1, true},
		"n1.22":    {"n1.", 22, 2, true},
		" 7":       {" ", 7, 1, true},
		"\x007":    {"\x00", 7, 1, true},
		"\xff\xfe": {"\xff\xfe", 0, 0, false},
		"\xff3":    {"\xff", 3, 1, true},
		"wörk3":    {"wörk", 3, 1, true},
		"n[1":      {"n[", 1, 1, true},
		"n/9":      {"n/", 9, 1, true},
		"n:0":      {"n:", 0, 1, true},
		// More than 6.
		"n1234567":    {"n1", 234567, 6, true},
		"n0000007":    {"n0", 7, 6, true},
		"n9999999":    {"n9", 999999, 6, true},
		"n1000000":    {"n1", 0, 6, true},
		"n1234567890": {"n1234", 567890, 6, true},
		// Digits alone.
		"0":          {"0", 0, 0, false},
		"7":          {"7", 0, 0, false},
		"123":        {"123", 0, 0, false},
		"12345":      {"12345", 0, 0, false},
		"123456":     {"123456", 0, 0, false},
		"000000":     {"000000", 0, 0, false},
		"1234567":    {"1", 234567, 6, true},
		"0000000":    {"0", 0, 6, true},
		"1234567890": {"1234", 567890, 6, true},
	} {
		if got := numberOf(name); got != want {
			t.Errorf("Number(%q) = %v, want %v", name, got, want)
		}
		if got := modelNumber(name); got != want {
			t.Errorf("the model of Number(%q) = %v, want %v", name, got, want)
		}
	}
}

func TestNumberOfAllBytesAndSizes(t *testing.T) {
	for b := range 256 {
		for _, s := range []string{"", "n", "7", "n7", "123456"} {
			c := string([]byte{byte(b)})
			for _, name := range []string{s + c, c + s, s + c + s, c + "000001"} {
				if got, want := numberOf(name), modelNumber(name); got != want {
					t.Errorf("Number(%q) = %v, want %v", name, got, want)
				}
			}
		}
	}
	for size := range 40 {
		for _, prefix := range []string{"", "n", "0", "n-"} {
			for _, digit := range []string{"0", "9", "5"} {
				name := prefix + strings.Repeat(digit, size)
				if got, want := numberOf(name), modelNumber(name); got != want {
					t.Errorf("Number(%q) = %v, want %v", name, got, want)
				}
			}
		}
	}
	long := strings.Repeat("1", 1<<20)
	if got := numberOf(long); got != (number{long[6:], 111111, 6, true}) {
		t.Error("Number of very many digits")
	}
}

// P5.3: Compress.

// modelCompress is a text of names, by what the document says of a run: its names are those of the range that is told.
func modelCompress(names ...string) string {
	var parts []string
	for len(names) > 0 {
		size, part := 1, names[0]
		first := modelNumber(names[0])
		for i := 1; i < len(names); i++ {
			last := modelNumber(names[i])
			if !first.ok || !last.ok || last.prefix != first.prefix || last.n != first.n+i {
				break
			}
			s := first.prefix + "[" + names[0][len(first.prefix):] + "-" + names[i][len(first.prefix):] + "]"
			if !slices.Equal(modelNames(s, i+1), names[:i+1]) {
				break
			}
			size, part = i+1, s
		}
		parts = append(parts, part)
		names = names[size:]
	}
	return strings.Join(parts, ",")
}

func TestCompress(t *testing.T) {
	for _, c := range []struct{ names, s string }{
		{"", ""},
		{"n", "n"},
		{"n1", "n1"},
		{"n07", "n07"},
		{"7", "7"},
		{"n1 n2 n3 n07 n08 m", "n[1-3],n[07-08],m"},
		{"n1 n2", "n[1-2]"},
		{"n1 n2 n3", "n[1-3]"},
		// Names that do not follow one another.
		{"n m", "n,m"},
		{"n n", "n,n"},
		{"n1 n1", "n1,n1"},
		{"n2 n1", "n2,n1"},
		{"n3 n2 n1", "n3,n2,n1"},
		{"n1 n3", "n1,n3"},
		{"n1 n3 n4", "n1,n[3-4]"},
		{"n1 n2 n4", "n[1-2],n4"},
		{"n1 n2 n2 n3", "n[1-2],n[2-3]"},
		{"n1 m2", "n1,m2"},
		{"n1 n", "n1,n"},
		{"n n0", "n,n0"},
		{"n n1", "n,n1"},
		{"n1 n2 m3 m4 n5", "n[1-2],m[3-4],n5"},
		{"n1 m1 n2 m2", "n1,m1,n2,m2"},
		{"n1 nn2", "n1,nn2"},
		{"n-1 n-2 n-3", "n-[1-3]"},
		{"n1 N2", "n1,N2"},
		{"n1 n2 n n3 n4", "n[1-2],n,n[3-4]"},
		// Digits alone are no numbers.
		{"1 2 3", "1,2,3"},
		{"1 n2", "1,n2"},
		{"000001 000002", "000001,000002"},
		// Numbers that grow a digit.
		{"n9 n10", "n[9-10]"},
		{"n8 n9 n10 n11", "n[8-11]"},
		{"n99 n100", "n[99-100]"},
		{"n09 n10", "n[09-10]"},
		{"n099 n100 n101", "n[099-101]"},
		{"n98 n99 n100", "n[98-100]"},
		{"n08 n09 n10", "n[08-10]"},
		{"n99999 n100000", "n[99999-100000]"},
		{"n099999 n100000", "n[099999-100000]"},
		// Digits that are not those of the range.
		{"n9 n010", "n9,n010"},
		{"n09 n010", "n09,n010"},
		{"n1 n02", "n1,n02"},
		{"n01 n2", "n01,n2"},
		{"n01 n002", "n01,n002"},
		{"n001 n02", "n001,n02"},
		{"n7 n8 n09 n10 n11", "n[7-8],n[09-11]"},
		{"n07 n08 n9 n10", "n[07-08],n[9-10]"},
		{"n099 n0100", "n099,n0100"},
		{"n99 n0100", "n99,n0100"},
		{"n00099 n100", "n00099,n100"},
		{"n00099 n0100", "n00099,n0100"},
		{"n00099 n00100", "n[00099-00100]"},
		// A 0 alone, and noughts.
		{"n0 n1", "n[0-1]"},
		{"n0 n1 n2", "n[0-2]"},
		{"n0 n01", "n0,n01"},
		{"n00 n01", "n[00-01]"},
		{"n00 n1", "n00,n1"},
		{"n000000 n000001", "n[000000-000001]"},
		// Seven digits: the prefix has the first one.
		{"n999999 n1000000", "n999999,n1000000"},
		{"n999998 n999999 n1000000 n1000001", "n[999998-999999],n1[000000-000001]"},
		{"n1000000 n1000001", "n1[000000-000001]"},
		{"n1099999 n1100000", "n1[099999-100000]"},
		{"n1234567 n1234568", "n1[234567-234568]"},
		{"n1999999 n2000000", "n1999999,n2000000"},
		{"n1999999 n11000000", "n1999999,n11000000"},
		{"n1099999 n1100000 n1100001 n2100002", "n1[099999-100001],n2100002"},
		{"1234567 1234568", "1[234567-234568]"},
		{"n0000009 n0000010", "n0[000009-000010]"},
		// Names that no text tells.
		{"! ?", "!,?"},
		{"!1 !2", "![1-2]"},
		{"a,1 a,2", "a,[1-2]"},
		{"n] n]1 n]2", "n],n][1-2]"},
		{"\xff1 \xff2", "\xff[1-2]"},
	} {
		names := words(c.names)
		if s := host.Compress(names...); s != c.s {
			t.Errorf("Compress(%q) = %q, want %q", names, s, c.s)
		}
		if s := modelCompress(names...); s != c.s {
			t.Errorf("the model of Compress(%q) = %q, want %q", names, s, c.s)
		}
	}
}

func TestCompressOfEmptyNames(t *testing.T) {
	for _, c := range []struct {
		names []string
		s     string
	}{
		{nil, ""},
		{[]string{}, ""},
		{[]string{""}, ""},
		{[]string{"", ""}, ","},
		{[]string{"a", ""}, "a,"},
		{[]string{"", "n1", "n2", ""}, ",n[1-2],"},
	} {
		if s := host.Compress(c.names...); s != c.s {
			t.Errorf("Compress(%q) = %q, want %q", c.names, s, c.s)
		}
	}
	if s := host.Compress(); s != "" {
		t.Errorf("Compress of none = %q", s)
	}
}

func TestCompressOfMoreThanExpandTakes(t *testing.T) {
	for _, c := range []struct {
		from, to int
		s        string
		fault    api.Fault
	}{
		{1, 256, "n[1-256]", none},
		{1, 257, "n[1-257]", many(0)},
		{0, 9999, "n[0-9999]", many(0)},
		{1, 99999, "n[1-99999]", many(0)},
	} {
		s := host.Compress(count("n", c.from, c.to)...)
		if s != c.s {
			t.Errorf("Compress of %d to %d = %q, want %q", c.from, c.to, s, c.s)
		}
		if _, f := host.Expand(s); f != c.fault {
			t.Errorf("Expand(%q) = %v, want %v", s, f, c.fault)
		}
	}
}

// someNames are names, many of which follow one another.
func someNames(r *rand.Rand) []string {
	var l []string
	starts := []int{0, 1, 7, 8, 95, 98, 998, 99998, 999990, 999997, 1000000, 1999998}
	for range r.Intn(5) {
		prefix := []string{"n", "m", "n0", "n-", "", "1", "N."}[r.Intn(7)]
		n := starts[r.Intn(len(starts))] + r.Intn(4)
		width := r.Intn(2) * r.Intn(9)
		for range 1 + r.Intn(6) {
			digits := strconv.Itoa(n)
			l = append(l, prefix+strings.Repeat("0", max(0, width-len(digits)))+digits)
			switch r.Intn(12) {
			case 0:
				n += 2
			case 1:
				width = r.Intn(4)
				n++
			case 2:
			case 3:
				l = append(l, prefix+"x")
				n++
			default:
				n++
			}
		}
	}
	return l
}

func TestCompressAsTheModel(t *testing.T) {
	r := rand.New(rand.NewSource(3))
	for range 20000 {
		names := someNames(r)
		if s, want := host.Compress(names...), modelCompress(names...); s != want {
			t.Fatalf("Compress(%q) = %q, want %q", names, s, want)
		}
	}
}

// P5.3: Sorted.

// ahead tells whether a name stands ahead of another one, as the document says it.
func ahead(a, b string) bool {
	x, y := modelNumber(a), modelNumber(b)
	if !x.ok {
		x.n = -1
	}
	if !y.ok {
		y.n = -1
	}
	switch {
	case x.prefix != y.prefix:
		return x.prefix < y.prefix
	case x.n != y.n:
		return x.n < y.n
	case x.digits != y.digits:
		return x.digits < y.digits
	}
	return a < b
}

// modelSorted puts names one by one behind those that do not stand behind them.
func modelSorted(names ...string) []string {
	var l []string
	for _, name := range names {
		at := len(l)
		for at > 0 && ahead(name, l[at-1]) {
			at--
		}
		l = slices.Insert(l, at, name)
	}
	return l
}

func TestSorted(t *testing.T) {
	for _, c := range []struct{ names, sorted string }{
		{"", ""},
		{"n", "n"},
		{"b a", "a b"},
		{"a b", "a b"},
		{"n2 n1", "n1 n2"},
		{"n10 n9 n1", "n1 n9 n10"},
		{"n10 n9 m11 m9 m", "m m9 m11 n9 n10"},
		// By prefix, byte by byte.
		{"na1 n2 n.3 n-4 nA5 n_6", "n2 n-4 n.3 nA5 n_6 na1"},
		{"a b A B _ - .", "- . A B _ a b"},
		{"\xff1 \x801 z1", "z1 \x801 \xff1"},
		{"nn1 n2", "n2 nn1"},
		{"n1 nn", "n1 nn"},
		{"na n9", "n9 na"},
		{"ö1 z9", "z9 ö1"},
		// Names without a number, ahead.
		{"n0 n", "n n0"},
		{"n1 n n0 n00", "n n0 n00 n1"},
		{"10 9 1", "1 10 9"},
		{"2 10 1000000 1 1000001", "1 1000000 1000001 10 2"},
		{"1 n", "1 n"},
		// Alike but for noughts.
		{"n001 n1 n01", "n1 n01 n001"},
		{"n01 n002 n2 n1 n001 n02", "n1 n01 n001 n2 n02 n002"},
		{"n000 n00 n0", "n0 n00 n000"},
		{"n0000001 n000001 n1", "n1 n000001 n0000001"},
		{"n010 n9 n09 n10", "n9 n09 n10 n010"},
		// Seven digits.
		{"n1000000 n999999 n2", "n2 n999999 n1000000"},
		{"n2000000 n1000001 n10 n1999999", "n10 n1000001 n1999999 n2000000"},
		// The same ones.
		{"n1 n1", "n1 n1"},
		{"n1 m n1 m n1", "m m n1 n1 n1"},
	} {
		names := words(c.names)
		if l := host.Sorted(names...); !slices.Equal(l, words(c.sorted)) {
			t.Errorf("Sorted(%q) = %q, want %q", names, l, words(c.sorted))
		}
		if l := modelSorted(names...); !slices.Equal(l, words(c.sorted)) {
			t.Errorf("the model of Sorted(%q) = %q, want %q", names, l, words(c.sorted))
		}
	}
}

func TestSortedOfNoneAndOfEmptyNames(t *testing.T) {
	if l := host.Sorted(); len(l) != 0 {
		t.Errorf("Sorted of none = %q", l)
	}
	if l := host.Sorted([]string{}...); len(l) != 0 {
		t.Errorf("Sorted of an empty list = %q", l)
	}
	if l := host.Sorted("n", "", "0", "", "-1"); !slices.Equal(l, []string{"", "", "-1", "0", "n"}) {
		t.Errorf("Sorted with empty names = %q", l)
	}
}

func TestSortedAsTheModel(t *testing.T) {
	r := rand.New(rand.NewSource(4))
	for range 10000 {
		names := someNames(r)
		r.Shuffle(len(names), func(i, k int) { names[i], names[k] = names[k], names[i] })
		if l, want := host.Sorted(names...), modelSorted(names...); !slices.Equal(l, want) {
			t.Fatalf("Sorted(%q) = %q, want %q", names, l, want)
		}
	}
}

// P5.4.

func TestWhatIsCompressedIsExpandedToIt(t *testing.T) {
	hold := func(names []string) {
		t.Helper()
		s := host.Compress(names...)
		if l, f := host.Expand(s); f != none || !slices.Equal(l, names) {
			t.Fatalf("Expand(%.300q) = %.300q, %v, want %.300q", s, l, f, names)
		}
	}
	hold(nil)
	for _, names := range []string{"n", "n1", "n1 n1", "7 8", "n1 n2 n3 n07 n08 m", "n999999 n1000000 n1000001", "n09 n10 n011", "n099999 n100000", "- . _ -1 -2 .3"} {
		hold(words(names))
	}
	hold(count("n", 0, 255))
	hold(count("n", 999900, 1000100))
	r := rand.New(rand.NewSource(5))
	for range 20000 {
		hold(someNames(r))
		if l, f := host.Expand(someText(r)); f == none {
			hold(l)
			hold(host.Sorted(l...))
		}
	}
}

// P5.5.

func TestSortedNamesAreAllOfThem(t *testing.T) {
	r := rand.New(rand.NewSource(6))
	for range 10000 {
		names := someNames(r)
		r.Shuffle(len(names), func(i, k int) { names[i], names[k] = names[k], names[i] })
		l := host.Sorted(names...)
		if !slices.Equal(slices.Sorted(slices.Values(l)), slices.Sorted(slices.Values(names))) {
			t.Fatalf("Sorted(%q) = %q", names, l)
		}
		for i := 1; i < len(l); i++ {
			if ahead(l[i], l[i-1]) {
				t.Fatalf("Sorted(%q) has %q ahead of %q", names, l[i-1], l[i])
			}
		}
		// In whatever order they were.
		slices.Reverse(names)
		if again := host.Sorted(names...); !slices.Equal(again, l) {
			t.Fatalf("Sorted(%q) = %q, want %q", names, again, l)
		}
	}
}

// R4: lists that are handed in are neither written into nor kept, and what is answered is the caller's.

func TestListsThatAreHandedInStay(t *testing.T) {
	names := words("n3 n2 n1 m n4 n5 n07 n08")
	whole := append(slices.Clone(names), "behind1", "behind2")
	kept := slices.Clone(whole)
	host.Sorted(whole[:len(names)]...)
	host.Compress(whole[:len(names)]...)
	if !slices.Equal(whole, kept) {
		t.Errorf("the list is now %q, was %q", whole, kept)
	}
}

func TestAnswersAreTheCallers(t *testing.T) {
	scrawl := func(l []string) {
		l = l[:cap(l)]
		for i := range l {
			l[i] = "scrawl"
		}
	}
	names := words("n1 n2 n3 n4")
	whole := append(slices.Clone(names), "behind")
	scrawl(host.Sorted(whole[:4]...))
	if !slices.Equal(whole, append(slices.Clone(names), "behind")) {
		t.Errorf("what Sorted answers is its caller's list: %q", whole)
	}
	first := host.Sorted(names...)
	scrawl(names)
	if !slices.Equal(first, words("n1 n2 n3 n4")) {
		t.Errorf("what Sorted answers turns with its caller's list: %q", first)
	}
	for _, s := range []string{"n[1-3,07-08],m", "n", "n[1-256]"} {
		want, _ := model(s)
		l, _ := host.Expand(s)
		again, _ := host.Expand(s)
		scrawl(l)
		if !slices.Equal(again, want) {
			t.Errorf("Expand(%q) answered %q, which turned with another one's answer", s, again)
		}
		wantNames(t, s, want)
	}
}

// R3: the same calls have the same answers.
func TestTheSameCallsHaveTheSameAnswers(t *testing.T) {
	for range 3 {
		wantNames(t, "n[1-2]", words("n1 n2"))
		wantFault(t, "n[1-257]", many(0))
		wantFault(t, "n[", end(2))
		if s := host.Compress("n1", "n2"); s != "n[1-2]" {
			t.Errorf("Compress = %q", s)
		}
	}
}
