package dep_test

import (
	"maps"
	"math"
	"math/rand"
	"regexp"
	"slices"
	"sort"
	"strconv"
	"strings"
	"testing"

	"marlinspike/api"
	"marlinspike/dep"
)

var none api.Fault

// form, end and many are the faults at a byte.
func form(at int) api.Fault { return api.Fault{Why: api.ErrForm, At: at} }
func end(at int) api.Fault  { return api.Fault{Why: api.ErrEnd, At: at} }
func many(at int) api.Fault { return api.Fault{Why: api.ErrMany, At: at} }

// item is an item of a kind and jobs.
func item(kind int, jobs ...int) dep.Item { return dep.Item{Kind: kind, Jobs: jobs} }

// all and one are dependencies of all items, and of one of them.
func all(items ...dep.Item) dep.Dep { return dep.Dep{Items: items} }
func one(items ...dep.Item) dep.Dep { return dep.Dep{Any: true, Items: items} }

// alone is the item of singleton.
var alone = item(dep.Singleton)

// kinds are those that there are, and some that there are not.
var kinds = []int{dep.After, dep.AfterOk, dep.AfterNotOk, dep.AfterAny, dep.Singleton, 0, 6, 7, -1, math.MinInt, math.MaxInt}

// states are those of jobs, and some that are none.
var states = []int{api.Pending, api.Held, api.Running, api.Completed, api.Failed, api.Cancelled, api.TimedOut, api.Never, 8, -1, math.MinInt, math.MaxInt}

// same tells whether two dependencies are alike.
func same(a, b dep.Dep) bool {
	return a.Any == b.Any && slices.EqualFunc(a.Items, b.Items, func(x, y dep.Item) bool {
		return x.Kind == y.Kind && slices.Equal(x.Jobs, y.Jobs)
	})
}

// clone is another dependency that is alike.
func clone(d dep.Dep) dep.Dep {
	c := dep.Dep{Any: d.Any, Items: slices.Clone(d.Items)}
	for i := range c.Items {
		c.Items[i].Jobs = slices.Clone(c.Items[i].Jobs)
	}
	return c
}

// wantDep holds what Parse answers against a dependency.
func wantDep(t *testing.T, s string, want dep.Dep) {
	t.Helper()
	if d, f := dep.Parse(s); f != none || !same(d, want) {
		t.Errorf("Parse(%q) = %v, %v, want %v", s, d, f, want)
	}
}

// wantFault holds what Parse answers against a fault.
func wantFault(t *testing.T, s string, want api.Fault) {
	t.Helper()
	if d, f := dep.Parse(s); f != want || !same(d, dep.Dep{}) {
		t.Errorf("Parse(%q) = %v, %v, want %v", s, d, f, want)
	}
}

// The model of Parse makes one letter of each word, and goes by a pattern of whole texts: A names jobs, S is singleton, X no word, and I a whole item.
var (
	aWord  = regexp.MustCompile(`^[a-z]+`)
	aWhole = regexp.MustCompile(`^(I(,I)*|I(\?I)*)$`)
	anItem = regexp.MustCompile(`A(:[1-9][0-9]{0,5})+|S`)
)

// letters are a text's bytes, with a letter in place of each word, and where each of them begins.
func letters(s string) (string, []int) {
	var out []byte
	var at []int
	for i := 0; i < len(s); {
		at = append(at, i)
		word := aWord.FindString(s[i:])
		switch word {
		case "":
			c := s[i]
			if 'A' <= c && c <= 'Z' {
				c = 'X'
			}
			out = append(out, c)
			i++
			continue
		case "after", "afterok", "afternotok", "afterany":
			out = append(out, 'A')
		case "singleton":
			out = append(out, 'S')
		default:
			out = append(out, 'X')
		}
		i += len(word)
	}
	return string(out), append(at, len(s))
}

// whole tells whether letters are a whole text, but for how many there are of anything.
func whole(s string) bool {
	return aWhole.MatchString(anItem.ReplaceAllString(s, "I"))
}

// canGoOn tells whether a whole text begins with letters.
func canGoOn(s string) bool {
	return slices.ContainsFunc([]string{"", "1", ":1", "A:1"}, func(rest string) bool { return whole(s + rest) })
}

// tooMany is the fault of letters that may stand there, if there is a 33rd item, or a 33rd job, just behind them.
func tooMany(s string, at []int) api.Fault {
	begins := strings.LastIndexAny(s, ",?") + 1
	switch {
	case strings.Count(s[begins:], ":") == 33:
		return many(at[begins])
	case begins == len(s) && strings.Count(s, ",")+strings.Count(s, "?") == 32:
		return many(at[begins])
	}
	return none
}

// modelFault is the first fault of a text.
func modelFault(s string) api.Fault {
	if s == "" {
		return none
	}
	l, at := letters(s)
	// What can not go on can not with more behind it.
	stop := sort.Search(len(l), func(i int) bool { return !canGoOn(l[:i+1]) })
	for i := range stop {
		if f := tooMany(l[:i+1], at); f != none {
			return f
		}
	}
	if stop < len(l) {
		return form(at[stop])
	}
	if !whole(l) {
		return end(len(s))
	}
	return none
}

// modelDep is the dependency of a text that has no fault.
func modelDep(s string) dep.Dep {
	d := dep.Dep{Any: strings.Contains(s, "?")}
	for _, part := range strings.FieldsFunc(s, func(r rune) bool { return r == ',' || r == '?' }) {
		words := strings.Split(part, ":")
		i := item(slices.Index([]string{"", "after", "afterok", "afternotok", "afterany", "singleton"}, words[0]))
		for _, digits := range words[1:] {
			n, _ := strconv.Atoi(digits)
			i.Jobs = append(i.Jobs, n)
		}
		d.Items = append(d.Items, i)
	}
	return d
}

// wantModel holds what Parse answers against the model.
func wantModel(t *testing.T, s string) {
	t.Helper()
	if f := modelFault(s); f != none {
		wantFault(t, s, f)
	} else {
		wantDep(t, s, modelDep(s))
	}
}

// times is a text so often, with another one between.
func times(s string, n int, between string) string {
	return strings.TrimSuffix(strings.Repeat(s+between, n), between)
}

// P7.1: Parse.

func TestParse(t *testing.T) {
	for s, want := range map[string]dep.Dep{
		"": {},
		// Each kind with one job, and with several.
		"after:1":                 all(item(dep.After, 1)),
		"after:1:2":               all(item(dep.After, 1, 2)),
		"afterok:7":               all(item(dep.AfterOk, 7)),
		"afterok:9:8:7":           all(item(dep.AfterOk, 9, 8, 7)),
		"afternotok:12":           all(item(dep.AfterNotOk, 12)),
		"afternotok:12:12":        all(item(dep.AfterNotOk, 12, 12)),
		"afterany:345":            all(item(dep.AfterAny, 345)),
		"afterany:345:6:78:9":     all(item(dep.AfterAny, 345, 6, 78, 9)),
		"singleton":               all(alone),
		"singleton,singleton":     all(alone, alone),
		"singleton?singleton":     one(alone, alone),
		"afterok:3:4,singleton":   all(item(dep.AfterOk, 3, 4), alone),
		"singleton,afterok:3:4":   all(alone, item(dep.AfterOk, 3, 4)),
		"afterok:3:4?singleton":   one(item(dep.AfterOk, 3, 4), alone),
		"after:1,afterok:2":       all(item(dep.After, 1), item(dep.AfterOk, 2)),
		"after:1?afterok:2":       one(item(dep.After, 1), item(dep.AfterOk, 2)),
		"after:1,after:1":         all(item(dep.After, 1), item(dep.After, 1)),
		"after:1?after:2?after:3": one(item(dep.After, 1), item(dep.After, 2), item(dep.After, 3)),
		"afterany:5,afternotok:6:7,singleton,after:8": all(
			item(dep.AfterAny, 5), item(dep.AfterNotOk, 6, 7), alone, item(dep.After, 8)),
		// Numbers of 1 to 6 digits.
		"after:9":             all(item(dep.After, 9)),
		"after:10":            all(item(dep.After, 10)),
		"after:100":           all(item(dep.After, 100)),
		"after:1000":          all(item(dep.After, 1000)),
		"after:10000":         all(item(dep.After, 10000)),
		"after:100000":        all(item(dep.After, 100000)),
		"after:123456:654321": all(item(dep.After, 123456, 654321)),
		"after:999999":        all(item(dep.After, 999999)),
	} {
		wantDep(t, s, want)
		if d, f := modelDep(s), modelFault(s); f != none || !same(d, want) {
			t.Errorf("the model of Parse(%q) = %v, %v", s, d, f)
		}
	}
}

// wantFaults hold what Parse answers, and the model, against faults.
func wantFaults(t *testing.T, faults map[string]api.Fault) {
	t.Helper()
	for s, want := range faults {
		wantFault(t, s, want)
		if f := modelFault(s); f != want {
			t.Errorf("the model of Parse(%q) has the fault %v, want %v", s, f, want)
		}
	}
}

func TestParseOfWordsThatAreNone(t *testing.T) {
	wantFaults(t, map[string]api.Fault{
		// Unknown, too short, too long: at the first byte, wherever the word ends.
		"x":                  form(0),
		"before:1":           form(0),
		"a":                  form(0),
		"afte":               form(0),
		"afte:1":             form(0),
		"afterx:1":           form(0),
		"aftero":             form(0),
		"aftero:1":           form(0),
		"afterokk:1":         form(0),
		"afternot:1":         form(0),
		"afternoto:1":        form(0),
		"afteran:1":          form(0),
		"afteranyx:1":        form(0),
		"afterafter:1":       form(0),
		"singleto":           form(0),
		"singletons":         form(0),
		"single":             form(0),
		"none":               form(0),
		"after:1,x":          form(8),
		"after:1,xafter:1":   form(8),
		"after:1?afte":       form(8),
		"singleton,singleto": form(10),
		"singleton?x:0":      form(10),
		"x:0":                form(0),
		"x,,":                form(0),
		// With capitals: a capital is no letter of a word.
		"After:1":     form(0),
		"AFTER:1":     form(0),
		"aFter:1":     form(0),
		"aftEr:1":     form(0),
		"afterOk:1":   form(5),
		"afterOK:1":   form(5),
		"afteroK:1":   form(0),
		"afterokK:1":  form(7),
		"Singleton":   form(0),
		"singletoN":   form(0),
		"singletonN":  form(9),
		"after:1,OK":  form(8),
		"after:1?A:1": form(8),
		// Missing.
		":":                  form(0),
		":1":                 form(0),
		",":                  form(0),
		"?":                  form(0),
		",after:1":           form(0),
		"?after:1":           form(0),
		"1":                  form(0),
		"0":                  form(0),
		" after:1":           form(0),
		"after:1,,after:1":   form(8),
		"after:1,?after:1":   form(8),
		"after:1??after:1":   form(8),
		"after:1?,after:1":   form(8),
		"after:1,:2":         form(8),
		"after:1,2":          form(8),
		"after:1, after:2":   form(8),
		"singleton,,":        form(10),
		"after:1,\x00":       form(8),
		"\xffafter:1":        form(0),
		"\u00e4fter:1":       form(0),
		"afterok:1\u00e4":    form(9),
		"after\u00e4:1":      form(5),
		"after:1,\u00e4":     form(8),
		"after:1?afterok:1?": end(18),
	})
}

func TestParseOfColonsAndNumbersThatMayNotBe(t *testing.T) {
	wantFaults(t, map[string]api.Fault{
		// A colon that is missing, and one that may not be.
		"after,":           form(5),
		"after?":           form(5),
		"after1":           form(5),
		"after 1":          form(5),
		"after;1":          form(5),
		"after9:1":         form(5),
		"afterok,after:1":  form(7),
		"afternotok?":      form(10),
		"afterany=1":       form(8),
		"singleton:":       form(9),
		"singleton:1":      form(9),
		"singleton1":       form(9),
		"singleton ":       form(9),
		"singleton\n":      form(9),
		"after:1,afterok,": form(15),
		// No digit behind it.
		"after::":         form(6),
		"after::1":        form(6),
		"after:,":         form(6),
		"after:?":         form(6),
		"after:x":         form(6),
		"after:after":     form(6),
		"after:-1":        form(6),
		"after:+1":        form(6),
		"after: 1":        form(6),
		"after:/":         form(6),
		"after:1::2":      form(8),
		"after:1:,":       form(8),
		"after:1:?":       form(8),
		"after:1:x":       form(8),
		"after:1:/":       form(8),
		"after:\u0663":    form(6),
		"after:1,after:,": form(14),
		// Numbers with a nought ahead.
		"after:0":         form(6),
		"after:00":        form(6),
		"after:01":        form(6),
		"after:000001":    form(6),
		"after:0000001":   form(6),
		"after:0:1":       form(6),
		"after:0,after:1": form(6),
		"after:1:0":       form(8),
		"after:1:02":      form(8),
		"after:1,after:0": form(14),
		// Seven digits.
		"after:1234567":        form(12),
		"after:1000000":        form(12),
		"after:12345678":       form(12),
		"after:123456:7654321": form(19),
		"after:1234560":        form(12),
		"after:9999999,x":      form(12),
		"after:1:1234567:1":    form(14),
		// Something else behind a number.
		"after:1x":        form(7),
		"after:1after:2":  form(7),
		"after:1 ":        form(7),
		"after:1;after:2": form(7),
		"after:1.5":       form(7),
		"after:12-13":     form(8),
		"after:123456x":   form(12),
		"after:123456/":   form(12),
		"after:1\x00":     form(7),
		"after:1\xb2":     form(7),
		"after:1X":        form(7),
		// Both commas and question marks.
		"after:1,after:2?after:3":           form(15),
		"after:1?after:2,after:3":           form(15),
		"singleton,singleton?":              form(19),
		"singleton?singleton,":              form(19),
		"singleton,singleton,singleton?x":   form(29),
		"singleton?singleton?singleton,x":   form(29),
		"after:1,singleton,after:2?after:0": form(25),
	})
}

func TestParseOfTextsThatEndTooEarly(t *testing.T) {
	wantFaults(t, map[string]api.Fault{
		"after":          end(5),
		"afterok":        end(7),
		"afternotok":     end(10),
		"afterany":       end(8),
		"after:":         end(6),
		"afterok:":       end(8),
		"after:1:":       end(8),
		"after:123456:":  end(13),
		"after:1,":       end(8),
		"after:1?":       end(8),
		"singleton,":     end(10),
		"singleton?":     end(10),
		"after:1,after":  end(13),
		"after:1,after:": end(14),
		"after:1?after:": end(14),
		// A word that ends too early is none.
		"after:1,afte":     form(8),
		"after:1,singleto": form(8),
	})
	for _, s := range []string{
		"after:1", "afterok:3:4,singleton", "afternotok:123456?afterany:7:8:9?singleton", "singleton,singleton,after:10",
		times("singleton", 32, ",") + ",", times("after:1", 33, "?"), "afterany" + strings.Repeat(":12", 33),
	} {
		for size := range len(s) + 1 {
			wantModel(t, s[:size])
		}
	}
}

func TestParseOf32Items(t *testing.T) {
	for _, text := range []string{"singleton", "after:1", "afternotok:123456:7"} {
		for _, between := range []string{",", "?"} {
			for _, n := range []int{1, 2, 31, 32} {
				s := times(text, n, between)
				d, f := dep.Parse(s)
				if f != none || len(d.Items) != n || !same(d, modelDep(s)) || d.Any != (n > 1 && between == "?") {
					t.Errorf("Parse(%q) = %v, %v", s, d, f)
				}
			}
			s := times(text, 32, between)
			wantModel(t, s)
			// Whatever stands where the 33rd one would, or nothing.
			for _, rest := range []string{"", text, "x", "X", ",", "?", ":", "0", "after", "after:0", "\x00", "\xff", times(text, 32, between), strings.Repeat(between, 9)} {
				wantFaults(t, map[string]api.Fault{s + between + rest: many(len(s) + 1)})
			}
			// Faults that stand ahead of it.
			wantFaults(t, map[string]api.Fault{
				"x" + s + between:       form(0),
				"after:0" + between + s: form(6),
				times(text, 31, between) + between + "x" + between: form(32*len(text) + 31 - len(text)),
				times(text, 31, between) + between + between:       form(32*len(text) + 31 - len(text)),
				times(text, 31, between) + between:                 end(32*len(text) + 31 - len(text)),
				s + " " + between:                                  form(len(s)),
				s + "X":                                            form(len(s)),
			})
		}
		// The other one of comma and question mark may not stand behind the 32nd item.
		wantFaults(t, map[string]api.Fault{
			times(text, 32, ",") + "?":              form(33*len(text) + 31 - len(text)),
			times(text, 32, "?") + ",":              form(33*len(text) + 31 - len(text)),
			times(text, 32, ",") + "?" + text:       form(33*len(text) + 31 - len(text)),
			times(text, 31, ",") + "?" + text + ",": form(31*len(text) + 30),
		})
	}
	if _, f := dep.Parse(strings.Repeat("singleton,", 1<<17)); f != many(320) {
		t.Errorf("Parse of very many items has the fault %v", f)
	}
}

func TestParseOf32Jobs(t *testing.T) {
	for _, word := range []string{"after", "afterok", "afternotok", "afterany"} {
		for _, job := range []string{":1", ":123456"} {
			for _, n := range []int{1, 2, 31, 32} {
				s := word + strings.Repeat(job, n)
				d, f := dep.Parse(s)
				if f != none || len(d.Items) != 1 || len(d.Items[0].Jobs) != n || !same(d, modelDep(s)) {
					t.Errorf("Parse(%q) = %v, %v", s, d, f)
				}
			}
			full := word + strings.Repeat(job, 32)
			for _, ahead := range []string{"", "singleton,", "after:1?", full + ",", full + "?", times("after:1", 31, ",") + ","} {
				wantModel(t, ahead+full)
				// Whatever stands behind the colon.
				for _, rest := range []string{"", "1", "33", "0", "x", ":", ",", "?", "1234567", job[1:] + job, "\xff"} {
					wantFaults(t, map[string]api.Fault{ahead + full + ":" + rest: many(len(ahead))})
				}
				// What else may not stand behind the 32nd job is told of where it is.
				wantFaults(t, map[string]api.Fault{
					ahead + full + ";":                form(len(ahead + full)),
					ahead + full + "x:":               form(len(ahead + full)),
					ahead + full + " :1":              form(len(ahead + full)),
					ahead + full[:len(full)-1] + "/:": form(len(ahead+full) - 1),
				})
			}
			// Faults that stand ahead of it.
			wantFaults(t, map[string]api.Fault{
				"x," + full + ":":                            form(0),
				word + ":0" + strings.Repeat(job, 32):        form(len(word) + 1),
				word + strings.Repeat(job, 31) + ":0:1":      form(len(word) + 31*len(job) + 1),
				word + strings.Repeat(job, 31) + "::1":       form(len(word) + 31*len(job) + 1),
				word + strings.Repeat(job, 31) + ":":         end(len(word) + 31*len(job) + 1),
				word + strings.Repeat(job, 31) + ":1234567:": form(len(word) + 31*len(job) + 7),
				"after:1?singleton," + full + ":":            form(17),
			})
		}
	}
	// As many jobs as there can be.
	full := "afterany" + strings.Repeat(":999999", 32)
	d, f := dep.Parse(times(full, 32, "?"))
	if f != none || len(d.Items) != 32 || len(d.Items[31].Jobs) != 32 || d.Items[31].Jobs[31] != 999999 {
		t.Errorf("Parse of 32 items with 32 jobs each = %v, %v", d, f)
	}
	// The 33rd item goes ahead of its own jobs, which are not read.
	wantFault(t, times(full, 32, "?")+"?"+full+":1", many(32*len(full)+32))
	if _, f := dep.Parse("after" + strings.Repeat(":1", 1<<20)); f != many(0) {
		t.Errorf("Parse of very many jobs has the fault %v", f)
	}
}

func TestParseOfEachByteAtEachPlace(t *testing.T) {
	for _, s := range []string{"after:1", "singleton", "afterok:10:2,singleton", "singleton?afternotok:123456?afterany:9", "after:1,after:2,"} {
		for at := range len(s) + 1 {
			for b := range 256 {
				c := string([]byte{byte(b)})
				wantModel(t, s[:at]+c+s[at:])
				if at < len(s) {
					wantModel(t, s[:at]+c+s[at+1:])
				}
			}
			if at < len(s) {
				wantModel(t, s[:at]+s[at+1:])
			}
		}
	}
	for b := range 256 {
		wantModel(t, string([]byte{byte(b)}))
	}
}

// someText is a text that is often one of a dependency, but for one or two places.
func someText(r *rand.Rand) string {
	between := []string{",", "?"}[r.Intn(2)]
	var parts []string
	for range 1 + r.Intn(5)*r.Intn(9) {
		word := []string{"after", "afterok", "afternotok", "afterany", "singleton"}[r.Intn(5)]
		for i := 0; word != "singleton" && i == 0 || r.Intn(40+30*r.Intn(2)) > 39; i++ {
			for range 1 + r.Intn(3)*r.Intn(17) {
				word += ":" + strconv.Itoa(1+r.Intn(999999)>>r.Intn(20))
			}
		}
		parts = append(parts, word)
	}
	s := strings.Join(parts, between)
	for range r.Intn(3) {
		at := r.Intn(len(s) + 1)
		put := []string{",", "?", ":", "0", "1", "9", "after", "ok", "singleton", "x", "O", " ", ""}[r.Intn(13)]
		s = s[:at] + put + s[min(len(s), at+r.Intn(3)):]
	}
	if r.Intn(4) == 0 {
		s = s[:r.Intn(len(s)+1)]
	}
	return s
}

func TestParseAsTheModel(t *testing.T) {
	r := rand.New(rand.NewSource(1))
	seen := map[api.Errno]int{}
	for range 5000 {
		s := someText(r)
		wantModel(t, s)
		seen[modelFault(s).Why]++
	}
	for _, why := range []api.Errno{api.OK, api.ErrForm, api.ErrEnd, api.ErrMany} {
		if seen[why] < 20 {
			t.Errorf("of %v there are %d", why, seen[why])
		}
	}
}

// P7.1: Format.

func TestFormat(t *testing.T) {
	for _, c := range []struct {
		d dep.Dep
		s string
	}{
		{dep.Dep{}, ""},
		{dep.Dep{Any: true}, ""},
		{dep.Dep{Items: []dep.Item{}}, ""},
		{all(item(dep.After, 1)), "after:1"},
		{all(item(dep.AfterOk, 2, 3)), "afterok:2:3"},
		{all(item(dep.AfterNotOk, 4, 4, 4)), "afternotok:4:4:4"},
		{all(item(dep.AfterAny, 6, 5)), "afterany:6:5"},
		{all(alone), "singleton"},
		{one(alone), "singleton"},
		{one(item(dep.After, 1)), "after:1"},
		{all(item(dep.AfterOk, 3, 4), alone), "afterok:3:4,singleton"},
		{one(item(dep.AfterOk, 3, 4), alone), "afterok:3:4?singleton"},
		{all(alone, alone, item(dep.After, 999999)), "singleton,singleton,after:999999"},
		{one(item(dep.After, 1), item(dep.AfterNotOk, 1), item(dep.AfterAny, 1)), "after:1?afternotok:1?afterany:1"},
		// Unknown kinds, with jobs and without.
		{all(item(0)), "?"},
		{all(dep.Item{}), "?"},
		{all(item(0, 1, 2)), "?"},
		{all(item(6, 1)), "?"},
		{all(item(-1, 1)), "?"},
		{all(item(math.MinInt), item(math.MaxInt, 7)), "?,?"},
		{one(item(6, 3), item(7)), "???"},
		{all(item(dep.After, 1), item(9, 1), alone), "after:1,?,singleton"},
		// Jobs at 0, below it, and above those of a text.
		{all(item(dep.After, 0)), "after:0"},
		{all(item(dep.After, -1)), "after:-0"},
		{all(item(dep.AfterOk, -7, 0, 7, math.MinInt)), "afterok:-0:0:7:-0"},
		{all(item(dep.AfterAny, 1000000, math.MaxInt)), "afterany:1000000:9223372036854775807"},
		{one(item(dep.AfterNotOk, -999999), item(dep.AfterNotOk, 999999)), "afternotok:-0?afternotok:999999"},
		// Items without jobs, and a singleton with some.
		{all(item(dep.After)), "after"},
		{all(item(dep.AfterOk), item(dep.AfterNotOk), item(dep.AfterAny)), "afterok,afternotok,afterany"},
		{one(dep.Item{Kind: dep.After, Jobs: []int{}}, item(dep.After, 1)), "after?after:1"},
		{all(item(dep.Singleton, 1, 2)), "singleton"},
		// More than a text may have.
		{dep.Dep{Items: slices.Repeat([]dep.Item{alone}, 40)}, times("singleton", 40, ",")},
		{all(item(dep.After, slices.Repeat([]int{12}, 40)...)), "after" + strings.Repeat(":12", 40)},
	} {
		if s := dep.Format(c.d); s != c.s {
			t.Errorf("Format(%v) = %q, want %q", c.d, s, c.s)
		}
	}
}

func TestKindsCount(t *testing.T) {
	if l := []int{dep.After, dep.AfterOk, dep.AfterNotOk, dep.AfterAny, dep.Singleton}; !slices.Equal(l, []int{1, 2, 3, 4, 5}) {
		t.Errorf("the kinds are %v", l)
	}
	if l := []int{dep.Waits, dep.Holds, dep.Never}; !slices.Equal(l, []int{0, 1, 2}) {
		t.Errorf("what a dependency is at is %v", l)
	}
}

// P7.1: Ended.

func TestEnded(t *testing.T) {
	ends := []int{api.Completed, api.Failed, api.Cancelled, api.TimedOut}
	for _, state := range states {
		if got := dep.Ended(state); got != slices.Contains(ends, state) {
			t.Errorf("Ended(%d) = %v", state, got)
		}
	}
}

// P7.2: One.

// modelOne is what an item is at, by a row for each kind: w for Waits, h for Holds, n for Never, a letter for each state.
func modelOne(kind, state int) int {
	row := "wwwwwwww"
	switch kind {
	case 1:
		row = "wwhhhhhn"
	case 2:
		row = "wwwhnnnn"
	case 3:
		row = "wwwnhnhn"
	case 4:
		row = "wwwhhhhn"
	}
	if state < 0 || state >= len(row) {
		return dep.Waits
	}
	return strings.IndexByte("whn", row[state])
}

func TestOne(t *testing.T) {
	for _, kind := range kinds {
		for _, state := range states {
			if got := dep.One(kind, state); got != modelOne(kind, state) {
				t.Errorf("One(%d, %d) = %d, want %d", kind, state, got, modelOne(kind, state))
			}
		}
	}
}

// P7.2: Ask.

func TestAsk(t *testing.T) {
	// Job 1 waits, 2 runs, 3 is completed, 4 failed, 5 is cancelled, 6 timed out, 7 never runs, 8 is held; 9 is not there.
	state := map[int]int{1: api.Pending, 2: api.Running, 3: api.Completed, 4: api.Failed, 5: api.Cancelled, 6: api.TimedOut, 7: api.Never, 8: api.Held}
	for _, c := range []struct {
		s        string
		all, one int
	}{
		// One item.
		{"after:1", dep.Waits, dep.Waits},
		{"after:2", dep.Holds, dep.Holds},
		{"after:7", dep.Never, dep.Never},
		{"after:9", dep.Never, dep.Never},
		{"afterok:3", dep.Holds, dep.Holds},
		{"afterok:4", dep.Never, dep.Never},
		{"afterok:8", dep.Waits, dep.Waits},
		{"afterok:9", dep.Never, dep.Never},
		{"afternotok:3", dep.Never, dep.Never},
		{"afternotok:6", dep.Holds, dep.Holds},
		{"afternotok:9", dep.Never, dep.Never},
		{"afterany:2", dep.Waits, dep.Waits},
		{"afterany:5", dep.Holds, dep.Holds},
		{"afterany:999999", dep.Never, dep.Never},
		// One item of several jobs: all of them, in both ways.
		{"after:2:3:4:5:6", dep.Holds, dep.Holds},
		{"after:2:1", dep.Waits, dep.Waits},
		{"after:1:2:7", dep.Never, dep.Never},
		{"after:7:2", dep.Never, dep.Never},
		{"afterok:3:3", dep.Holds, dep.Holds},
		{"afterok:3:4", dep.Never, dep.Never},
		{"afterok:1:4", dep.Never, dep.Never},
		{"afterok:4:1", dep.Never, dep.Never},
		{"afterok:3:1", dep.Waits, dep.Waits},
		{"afterok:3:9", dep.Never, dep.Never},
		{"afternotok:4:6", dep.Holds, dep.Holds},
		{"afternotok:4:6:8", dep.Waits, dep.Waits},
		{"afterany:3:4:5:6", dep.Holds, dep.Holds},
		{"afterany:3:4:5:6:2", dep.Waits, dep.Waits},
		// Several items.
		{"after:2,afterok:3", dep.Holds, dep.Holds},
		{"after:2,afterok:1", dep.Waits, dep.Holds},
		{"afterok:1,after:2", dep.Waits, dep.Holds},
		{"after:2,afterok:4", dep.Never, dep.Holds},
		{"afterok:4,after:2", dep.Never, dep.Holds},
		{"after:1,afterok:4", dep.Never, dep.Waits},
		{"afterok:4,after:1", dep.Never, dep.Waits},
		{"afterok:4,afternotok:3", dep.Never, dep.Never},
		{"afterok:9,afternotok:9,after:9,afterany:9", dep.Never, dep.Never},
		{"afterok:1,afterok:2,afterok:8", dep.Waits, dep.Waits},
		{"afterok:1,afterok:4,afterok:3", dep.Never, dep.Holds},
		{"afterok:3,afterok:1,afterok:4", dep.Never, dep.Holds},
	} {
		d, f := dep.Parse(c.s)
		if f != none {
			t.Fatalf("Parse(%q) has the fault %v", c.s, f)
		}
		// singleton counts for those alone that have it.
		for _, alone := range []bool{false, true} {
			d.Any = false
			if got := dep.Ask(d, state, alone); got != c.all {
				t.Errorf("Ask(%q, all, %v) = %d, want %d", c.s, alone, got, c.all)
			}
			d.Any = true
			if got := dep.Ask(d, state, alone); got != c.one {
				t.Errorf("Ask(%q, one, %v) = %d, want %d", c.s, alone, got, c.one)
			}
		}
	}
}

func TestAskOfNone(t *testing.T) {
	for _, alone := range []bool{false, true} {
		for _, state := range []map[int]int{nil, {}, {1: api.Failed}} {
			if got := dep.Ask(dep.Dep{}, state, alone); got != dep.Holds {
				t.Errorf("Ask of none = %d", got)
			}
			if got := dep.Ask(dep.Dep{Items: []dep.Item{}}, state, alone); got != dep.Holds {
				t.Errorf("Ask of an empty list = %d", got)
			}
			// None holds, and all of none never can.
			if got := dep.Ask(dep.Dep{Any: true}, state, alone); got != dep.Never {
				t.Errorf("Ask of one of none = %d", got)
			}
			// An item without jobs holds for all of them.
			for _, kind := range []int{dep.After, dep.AfterOk, dep.AfterNotOk, dep.AfterAny, 0, 6} {
				for _, d := range []dep.Dep{all(item(kind)), one(item(kind)), all(item(kind), item(kind)), one(item(kind), item(dep.AfterOk, 1))} {
					if got := dep.Ask(d, state, alone); got != dep.Holds {
						t.Errorf("Ask(%v) = %d", d, got)
					}
				}
			}
		}
	}
}

func TestAskOfSingleton(t *testing.T) {
	state := map[int]int{1: api.Completed, 2: api.Pending}
	ok, waits, never := item(dep.AfterOk, 1), item(dep.AfterOk, 2), item(dep.AfterNotOk, 1)
	for _, c := range []struct {
		d             dep.Dep
		alone, others int
	}{
		{all(alone), dep.Holds, dep.Waits},
		{one(alone), dep.Holds, dep.Waits},
		{all(alone, alone), dep.Holds, dep.Waits},
		{all(alone, ok), dep.Holds, dep.Waits},
		{all(ok, alone), dep.Holds, dep.Waits},
		{one(alone, ok), dep.Holds, dep.Holds},
		{one(ok, alone), dep.Holds, dep.Holds},
		{all(alone, waits), dep.Waits, dep.Waits},
		{one(alone, waits), dep.Holds, dep.Waits},
		{one(waits, alone), dep.Holds, dep.Waits},
		{all(alone, never), dep.Never, dep.Never},
		{all(never, alone), dep.Never, dep.Never},
		{one(alone, never), dep.Holds, dep.Waits},
		{one(never, alone), dep.Holds, dep.Waits},
		{one(never, alone, never), dep.Holds, dep.Waits},
		// Jobs that it has do not count.
		{all(item(dep.Singleton, 1)), dep.Holds, dep.Waits},
		{all(item(dep.Singleton, 2, 9)), dep.Holds, dep.Waits},
		{one(item(dep.Singleton, 9)), dep.Holds, dep.Waits},
	} {
		if got := dep.Ask(c.d, state, true); got != c.alone {
			t.Errorf("Ask(%v, alone) = %d, want %d", c.d, got, c.alone)
		}
		if got := dep.Ask(c.d, state, false); got != c.others {
			t.Errorf("Ask(%v, not alone) = %d, want %d", c.d, got, c.others)
		}
	}
}

func TestAskOfUnknownKindsAndStates(t *testing.T) {
	state := map[int]int{1: api.Completed, 2: 8, 3: -1, 0: api.Completed, -5: api.Failed}
	for _, c := range []struct {
		d    dep.Dep
		want int
	}{
		{all(item(0, 1)), dep.Waits},
		{all(item(6, 9)), dep.Waits},
		{one(item(-1, 1)), dep.Waits},
		{all(item(6, 1), item(dep.AfterOk, 1)), dep.Waits},
		{one(item(6, 1), item(dep.AfterOk, 1)), dep.Holds},
		{all(item(6, 1), item(dep.AfterNotOk, 1)), dep.Never},
		{one(item(6, 9), item(dep.AfterNotOk, 1)), dep.Waits},
		{all(item(dep.After, 2)), dep.Waits},
		{all(item(dep.AfterAny, 3)), dep.Waits},
		// Numbers that no text tells are asked like others.
		{all(item(dep.AfterOk, 0)), dep.Holds},
		{all(item(dep.AfterNotOk, -5)), dep.Holds},
		{all(item(dep.AfterOk, -5)), dep.Never},
		{all(item(dep.AfterOk, math.MaxInt)), dep.Never},
	} {
		if got := dep.Ask(c.d, state, true); got != c.want {
			t.Errorf("Ask(%v) = %d, want %d", c.d, got, c.want)
		}
	}
}

// modelAsk is what a dependency is at, by what the chapter says of it.
func modelAsk(d dep.Dep, state map[int]int, alone bool) int {
	is := func(i dep.Item, want int) bool {
		if i.Kind == dep.Singleton {
			return want == dep.Holds && alone
		}
		fit := 0
		for _, job := range i.Jobs {
			now, ok := state[job]
			if modelOne(i.Kind, now) == want && ok || !ok && modelOne(i.Kind, api.Never) == want {
				fit++
			}
		}
		if want == dep.Never {
			return fit > 0
		}
		return fit == len(i.Jobs)
	}
	count := func(want int) int {
		n := 0
		for _, i := range d.Items {
			if is(i, want) {
				n++
			}
		}
		return n
	}
	switch never, holds := count(dep.Never), count(dep.Holds); {
	case !d.Any && never > 0, d.Any && holds == 0 && never == len(d.Items):
		return dep.Never
	case !d.Any && holds == len(d.Items), d.Any && holds > 0:
		return dep.Holds
	}
	return dep.Waits
}

// someDep is a dependency of jobs from 1 to most, with few items.
func someDep(r *rand.Rand, most int) dep.Dep {
	d := dep.Dep{Any: r.Intn(2) == 0}
	for range r.Intn(4) {
		i := item(r.Intn(7))
		for range r.Intn(4) {
			i.Jobs = append(i.Jobs, 1+r.Intn(most))
		}
		d.Items = append(d.Items, i)
	}
	return d
}

// someState has states of some jobs from 1 to most.
func someState(r *rand.Rand, most int) map[int]int {
	state := map[int]int{}
	for job := 1; job <= most; job++ {
		if r.Intn(8) > 0 {
			state[job] = r.Intn(9)
		}
	}
	return state
}

func TestAskAsTheModel(t *testing.T) {
	r := rand.New(rand.NewSource(2))
	seen := map[int]int{}
	for range 100000 {
		d, state, alone := someDep(r, 5), someState(r, 5), r.Intn(2) == 0
		got, want := dep.Ask(d, state, alone), modelAsk(d, state, alone)
		if got != want {
			t.Fatalf("Ask(%v, %v, %v) = %d, want %d", d, state, alone, got, want)
		}
		seen[got]++
	}
	if len(seen) != 3 || seen[dep.Waits] < 5000 || seen[dep.Holds] < 5000 || seen[dep.Never] < 5000 {
		t.Errorf("the answers were %v", seen)
	}
}

// P7.2: Jobs.

func TestJobs(t *testing.T) {
	for _, c := range []struct {
		d    dep.Dep
		jobs []int
	}{
		{dep.Dep{}, nil},
		{dep.Dep{Any: true}, nil},
		{all(alone), nil},
		{all(item(dep.After)), nil},
		{all(item(dep.After, 7)), []int{7}},
		{all(item(dep.AfterOk, 3, 4), alone), []int{3, 4}},
		{all(item(dep.AfterOk, 4, 3)), []int{3, 4}},
		{all(item(dep.AfterOk, 4, 4, 4)), []int{4}},
		{all(item(dep.After, 10, 9, 100), item(dep.AfterAny, 11, 9)), []int{9, 10, 11, 100}},
		{one(item(dep.AfterNotOk, 5), alone, item(dep.After, 1, 5), item(dep.AfterOk, 3)), []int{1, 3, 5}},
		{one(item(dep.After, 2), item(dep.After, 1), item(dep.After, 2)), []int{1, 2}},
		// All that it names, whatever the kind and the number.
		{all(item(0, 3), item(9, 2), item(dep.Singleton, 1)), []int{1, 2, 3}},
		{all(item(dep.After, 0, -1, math.MaxInt, math.MinInt, 0)), []int{math.MinInt, -1, 0, math.MaxInt}},
	} {
		if got := dep.Jobs(c.d); !slices.Equal(got, c.jobs) {
			t.Errorf("Jobs(%v) = %v, want %v", c.d, got, c.jobs)
		}
	}
}

func TestJobsAreAllOnce(t *testing.T) {
	r := rand.New(rand.NewSource(3))
	for range 10000 {
		d := someDep(r, 9)
		named := map[int]int{}
		for _, i := range d.Items {
			for _, job := range i.Jobs {
				named[job]++
			}
		}
		if got := dep.Jobs(d); !slices.Equal(got, slices.Sorted(maps.Keys(named))) {
			t.Fatalf("Jobs(%v) = %v", d, got)
		}
	}
}

// P7.3: Loop.

// graph is a map of dependencies, of texts.
func graph(t *testing.T, texts map[int]string) map[int]dep.Dep {
	t.Helper()
	deps := map[int]dep.Dep{}
	for job, s := range texts {
		d, f := dep.Parse(s)
		if f != none {
			t.Fatalf("Parse(%q) has the fault %v", s, f)
		}
		deps[job] = d
	}
	return deps
}

func TestLoop(t *testing.T) {
	for _, c := range []struct {
		name  string
		texts map[int]string
		loop  []int
	}{
		{"nothing is known", nil, nil},
		{"waits for nothing", map[int]string{1: ""}, nil},
		{"waits for itself", map[int]string{1: "after:1"}, []int{1}},
		{"waits for itself too", map[int]string{1: "afterok:2,singleton,afterany:3:1:4"}, []int{1}},
		{"for itself or others", map[int]string{1: "afterok:2?afterany:1"}, []int{1}},
		{"waits alone", map[int]string{1: "singleton"}, nil},
		{"over one", map[int]string{1: "after:2", 2: "afterok:1"}, []int{1, 2}},
		{"over one that knows nothing of it", map[int]string{1: "after:2", 2: "afterok:3"}, nil},
		{"over several", map[int]string{1: "after:2", 2: "afterok:3", 3: "afternotok:4", 4: "afterany:1"}, []int{1, 2, 3, 4}},
		{"over some that nothing is known of", map[int]string{1: "after:2", 2: "after:3", 4: "after:1"}, nil},
		{"beside some that nothing is known of", map[int]string{1: "after:9:8,after:2", 2: "after:7:1:6"}, []int{1, 2}},
		{"into a loop that it is not in", map[int]string{1: "after:2", 2: "after:3", 3: "after:2"}, []int{2, 3}},
		{"into one that waits for itself", map[int]string{1: "after:2", 2: "after:2"}, []int{2}},
		{"beside a loop", map[int]string{1: "after:4", 2: "after:3", 3: "after:2", 4: ""}, []int{2, 3}},
		{"in a loop, beside another one", map[int]string{1: "after:2:4", 2: "after:3", 3: "after:2", 4: "after:5", 5: "after:1"}, []int{1, 2, 3, 4, 5}},
		{"behind one", map[int]string{1: "after:2:3", 2: "after:3", 3: "", 4: "after:4"}, []int{4}},
		{"two ways, no loop", map[int]string{1: "after:2:3", 2: "after:4", 3: "after:4", 4: "after:5"}, nil},
		{"two ways, one of them back", map[int]string{1: "after:2,after:3", 2: "after:4", 3: "after:4:1", 4: ""}, []int{1, 3}},
		{"the first way, back", map[int]string{1: "after:2:3", 2: "after:1", 3: ""}, []int{1, 2}},
		{"a greatest number", map[int]string{999999: "after:1", 1: "after:999999"}, []int{1, 999999}},
	} {
		deps := graph(t, c.texts)
		for _, from := range []int{math.MinInt, -1, 0, 1, 2, 3, 4, 5, 6, 7, 8, 9, 999999, math.MaxInt} {
			if got, want := dep.Loop(deps, from), slices.Contains(c.loop, from); got != want {
				t.Errorf("%s: Loop from %d = %v", c.name, from, got)
			}
		}
	}
}

func TestLoopOfWhatNoTextTells(t *testing.T) {
	for _, c := range []struct {
		deps map[int]dep.Dep
		from int
		want bool
	}{
		{nil, 0, false},
		{map[int]dep.Dep{}, 1, false},
		{map[int]dep.Dep{0: all(item(dep.After, 0))}, 0, true},
		{map[int]dep.Dep{-1: all(item(dep.After, -2)), -2: one(item(dep.AfterOk, -1))}, -1, true},
		{map[int]dep.Dep{math.MaxInt: all(item(dep.After, math.MinInt)), math.MinInt: all(item(dep.After, math.MaxInt))}, math.MaxInt, true},
		{map[int]dep.Dep{1: all(item(dep.After))}, 1, false},
		{map[int]dep.Dep{1: {Any: true}}, 1, false},
		// Items of any kind have their jobs.
		{map[int]dep.Dep{1: all(item(9, 1))}, 1, true},
		{map[int]dep.Dep{1: all(item(dep.Singleton, 2)), 2: all(item(0, 1))}, 1, true},
	} {
		if got := dep.Loop(c.deps, c.from); got != c.want {
			t.Errorf("Loop(%v, %d) = %v", c.deps, c.from, got)
		}
	}
}

// modelLoop tells of each job whether it is come to again, by all ways of one job more at a time.
func modelLoop(deps map[int]dep.Dep, most int) []bool {
	way := make([][]bool, most+1)
	for from := range way {
		way[from] = make([]bool, most+1)
		for _, i := range deps[from].Items {
			for _, job := range i.Jobs {
				way[from][job] = true
			}
		}
	}
	for over := range way {
		for from := range way {
			for to := range way {
				way[from][to] = way[from][to] || way[from][over] && way[over][to]
			}
		}
	}
	loop := make([]bool, most+1)
	for job := range way {
		loop[job] = way[job][job]
	}
	return loop
}

func TestLoopAsTheModel(t *testing.T) {
	r := rand.New(rand.NewSource(4))
	seen := map[bool]int{}
	for range 5000 {
		deps := map[int]dep.Dep{}
		for job := 1; job <= 9; job++ {
			if r.Intn(3) > 0 {
				deps[job] = someDep(r, 9)
			}
			if r.Intn(3) > 0 {
				deps[job] = all(item(dep.After, 1+r.Intn(9)))
			}
		}
		loop := modelLoop(deps, 9)
		for job, want := range loop {
			if got := dep.Loop(deps, job); got != want {
				t.Fatalf("Loop(%v, %d) = %v", deps, job, got)
			}
			seen[want]++
		}
	}
	if seen[true] < 1000 || seen[false] < 1000 {
		t.Errorf("the answers were %v", seen)
	}
}

func TestLoopOfVeryManyJobs(t *testing.T) {
	const most = 100000
	deps := map[int]dep.Dep{}
	for job := 1; job < most; job++ {
		// Two ways from each one: as many ways in all as no one could go.
		deps[job] = all(item(dep.After, job+1, min(job+2, most)))
	}
	if dep.Loop(deps, 1) {
		t.Error("a long way that does not come back is a loop")
	}
	deps[most] = all(item(dep.After, 2))
	if dep.Loop(deps, 1) {
		t.Error("a long way into a loop is a loop")
	}
	if !dep.Loop(deps, 2) || !dep.Loop(deps, most) {
		t.Error("a long loop is none")
	}
}

// P7.4.

func TestWhatIsFormattedIsParsed(t *testing.T) {
	r := rand.New(rand.NewSource(5))
	held := 0
	for range 5000 {
		s := someText(r)
		d, f := dep.Parse(s)
		if f != none {
			continue
		}
		held++
		if got := dep.Format(d); got != s {
			t.Fatalf("Format of Parse(%q) = %q", s, got)
		}
	}
	if held < 500 {
		t.Errorf("there were %d texts that may be", held)
	}
	for range 5000 {
		d := dep.Dep{Any: r.Intn(2) == 0}
		for range r.Intn(33) {
			i := item(1 + r.Intn(5))
			for n := 1 + r.Intn(32); i.Kind != dep.Singleton && n > 0; n-- {
				i.Jobs = append(i.Jobs, 1+r.Intn(999999)>>r.Intn(20))
			}
			d.Items = append(d.Items, i)
		}
		if len(d.Items) < 2 {
			// A text of one item, or of none, has nothing between.
			d.Any = false
		}
		s := dep.Format(d)
		if got, f := dep.Parse(s); f != none || !same(got, d) {
			t.Fatalf("Parse(%q) = %v, %v, want %v", s, got, f, d)
		}
	}
	// One of one, and one of none, lose no more than that.
	for _, d := range []dep.Dep{one(), one(alone), one(item(dep.AfterOk, 1, 2))} {
		got, f := dep.Parse(dep.Format(d))
		if d.Any = false; f != none || !same(got, d) {
			t.Errorf("Parse of Format(%v) = %v, %v", d, got, f)
		}
	}
}

// P7.5.

// turns are the states that a job comes to from each one, if it is not begun again.
func turns(state int) []int {
	switch state {
	case api.Pending:
		return []int{api.Held, api.Running, api.Cancelled, api.Never}
	case api.Held:
		return []int{api.Pending, api.Cancelled, api.Never}
	case api.Running:
		return []int{api.Completed, api.Failed, api.Cancelled, api.TimedOut}
	}
	return nil
}

func TestWhatHoldsOrNeverCanStays(t *testing.T) {
	r := rand.New(rand.NewSource(6))
	settled := map[int]int{}
	for range 20000 {
		d, state, alone := someDep(r, 4), someState(r, 4), r.Intn(2) == 0
		was := dep.Ask(d, state, alone)
		if was == dep.Waits {
			continue
		}
		for range 8 {
			job := 1 + r.Intn(4)
			now, ok := state[job]
			if to := turns(now); ok && len(to) > 0 {
				state[job] = to[r.Intn(len(to))]
				settled[was]++
			}
			// Those ahead end, and no other one comes ahead.
			alone = alone || r.Intn(3) == 0
			if got := dep.Ask(d, state, alone); got != was {
				t.Fatalf("Ask(%v, %v, %v) = %d, was %d", d, state, alone, got, was)
			}
		}
	}
	if settled[dep.Holds] < 1000 || settled[dep.Never] < 1000 {
		t.Errorf("there turned %v", settled)
	}
	for kind := dep.After; kind <= dep.AfterAny; kind++ {
		for _, state := range states {
			for _, next := range turns(state) {
				if was, got := dep.One(kind, state), dep.One(kind, next); was != dep.Waits && got != was {
					t.Errorf("One(%d, %d) = %d, and then %d", kind, state, was, got)
				}
			}
		}
	}
}

// P7.6.

func TestOrderDoesNotCount(t *testing.T) {
	r := rand.New(rand.NewSource(7))
	for range 20000 {
		d, state, alone := someDep(r, 5), someState(r, 5), r.Intn(2) == 0
		deps := map[int]dep.Dep{1: d, 2: someDep(r, 5), 3: someDep(r, 5)}
		ask, jobs, loop := dep.Ask(d, state, alone), dep.Jobs(d), dep.Loop(deps, 1)
		mixed := clone(d)
		r.Shuffle(len(mixed.Items), func(i, k int) { mixed.Items[i], mixed.Items[k] = mixed.Items[k], mixed.Items[i] })
		for _, i := range mixed.Items {
			r.Shuffle(len(i.Jobs), func(a, b int) { i.Jobs[a], i.Jobs[b] = i.Jobs[b], i.Jobs[a] })
		}
		if got := dep.Ask(mixed, state, alone); got != ask {
			t.Fatalf("Ask(%v) = %d, of %v %d", d, ask, mixed, got)
		}
		if got := dep.Jobs(mixed); !slices.Equal(got, jobs) {
			t.Fatalf("Jobs(%v) = %v, of %v %v", d, jobs, mixed, got)
		}
		deps[1] = mixed
		if got := dep.Loop(deps, 1); got != loop {
			t.Fatalf("Loop with %v = %v, with %v %v", d, loop, mixed, got)
		}
	}
}

// R4: what is handed in is neither written into nor kept, and what is answered is the caller's.

func TestWhatIsHandedInStays(t *testing.T) {
	// There is room behind all lists, which must stay as it is, too.
	jobs := []int{9, 3, 9, 1, 5, 77, 78}
	items := []dep.Item{item(dep.AfterOk, jobs[:5]...), item(dep.After, jobs[1:3]...), item(8, 2), alone, item(-9, -9)}
	d := dep.Dep{Items: items[:4]}
	d.Items[0].Jobs = jobs[:5]
	d.Items[1].Jobs = jobs[1:3]
	state := map[int]int{9: api.Completed, 3: api.Running, 1: api.Completed}
	deps := map[int]dep.Dep{1: d, 5: all(item(dep.After, 4, 1)), 9: all(item(dep.After, 7))}
	was := clone(dep.Dep{Items: items})
	wasState := maps.Clone(state)
	wasJobs := slices.Clone(jobs)
	for _, anyOf := range []bool{false, true} {
		d.Any = anyOf
		deps[1] = d
		dep.Format(d)
		dep.Ask(d, state, true)
		dep.Ask(d, state, false)
		dep.Jobs(d)
		dep.Loop(deps, 1)
		dep.Loop(deps, 2)
		dep.Loop(deps, 5)
	}
	if !same(dep.Dep{Items: items}, was) || !slices.Equal(jobs, wasJobs) {
		t.Errorf("the dependency is now %v of %v, was %v of %v", items, jobs, was.Items, wasJobs)
	}
	if !maps.Equal(state, wasState) {
		t.Errorf("the states are now %v, were %v", state, wasState)
	}
	if len(deps) != 3 || !same(deps[5], all(item(dep.After, 4, 1))) || !same(deps[9], all(item(dep.After, 7))) {
		t.Errorf("the dependencies are now %v", deps)
	}
}

// scrawl writes over a list, and over all the room behind it.
func scrawl(l []int) {
	l = l[:cap(l)]
	for i := range l {
		l[i] = -77
	}
}

func TestAnswersAreTheCallers(t *testing.T) {
	// Of Jobs: of one list and of several, in order and not.
	for _, d := range []dep.Dep{all(item(dep.After, 1, 2, 3)), all(item(dep.After, 1)), all(item(dep.After, 1, 2), item(dep.AfterOk, 3)), all(item(dep.After, 3, 1, 3))} {
		was := clone(d)
		first, again := dep.Jobs(d), dep.Jobs(d)
		want := slices.Clone(first)
		scrawl(first)
		if !same(d, was) {
			t.Errorf("what Jobs answers is its caller's list: %v, was %v", d, was)
		}
		for _, i := range d.Items {
			scrawl(i.Jobs)
		}
		if !slices.Equal(again, want) {
			t.Errorf("what Jobs answers turns with its caller's list: %v, was %v", again, want)
		}
	}
	// Of Parse: no two lists of an answer, and no two answers, share anything.
	for _, s := range []string{"after:1", "after:1:2:3,afterok:4,afterany:5:6:7:8:9", times("after:1:2", 32, "?")} {
		d, _ := dep.Parse(s)
		want := clone(d)
		for at := range d.Items {
			d, _ := dep.Parse(s)
			again, _ := dep.Parse(s)
			scrawl(d.Items[at].Jobs)
			for i := range d.Items {
				if i != at && !slices.Equal(d.Items[i].Jobs, want.Items[i].Jobs) {
					t.Errorf("Parse(%q): item %d turned with item %d", s, i, at)
				}
			}
			for i := range cap(d.Items) {
				d.Items[:cap(d.Items)][i] = item(-77, -77)
			}
			if !same(again, want) {
				t.Errorf("Parse(%q) = %v turned with another one's answer", s, again)
			}
			wantDep(t, s, want)
		}
	}
}

// R3: the same calls have the same answers.
func TestTheSameCallsHaveTheSameAnswers(t *testing.T) {
	deps := graph(t, map[int]string{1: "after:2:3:4", 2: "after:5", 3: "after:1", 4: "after:4"})
	for range 3 {
		wantDep(t, "after:1?singleton", one(item(dep.After, 1), alone))
		wantFault(t, "after:1,", end(8))
		wantFault(t, "after:0", form(6))
		if !dep.Loop(deps, 1) || dep.Loop(deps, 2) || !dep.Loop(deps, 4) {
			t.Error("Loop turned")
		}
		if got := dep.Ask(deps[1], map[int]int{2: api.Running, 3: api.Failed}, false); got != dep.Never {
			t.Errorf("Ask = %d", got)
		}
	}
}
