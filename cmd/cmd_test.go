package cmd_test

import (
	"math"
	"math/rand"
	"reflect"
	"regexp"
	"slices"
	"strconv"
	"strings"
	"testing"

	"marlinspike/api"
	"marlinspike/array"
	"marlinspike/cmd"
	"marlinspike/dep"
	"marlinspike/host"
	"marlinspike/vec"
)

const (
	// name16 and name17 are names as long as one may be, and one byte longer.
	name16 = "abcdefgh-_012345"
	name17 = name16 + "6"
	// nameBytes are those that may stand in a name.
	nameBytes = "abcdefghijklmnopqrstuvwxyz0123456789-_"
	// mostBytes is how many bytes a text has at most.
	mostBytes = 4096
	// base is the shortest submit.
	base = "submit user=u part=p"
)

// Words by their kinds.
var (
	firstWords = []string{"submit", "cancel", "hold", "release", "requeue", "drain", "resume", "queue", "nodes", "usage"}
	keys       = []string{"user", "part", "nodes", "time", "req", "qos", "name", "dep", "array", "run"}
)

// submit is what base tells, turned.
func submit(turns ...func(c *cmd.Command)) cmd.Command {
	c := cmd.Command{Kind: cmd.Submit, User: "u", Part: "p", Nodes: 1}
	for _, turn := range turns {
		turn(&c)
	}
	return c
}

// ofJob and ofHost are commands about a job, and about nodes.
func ofJob(kind, job int) cmd.Command          { return cmd.Command{Kind: kind, Job: job} }
func ofHost(kind int, list string) cmd.Command { return cmd.Command{Kind: kind, Host: list} }

// full is a submit with all options.
func full() cmd.Command {
	return cmd.Command{
		Kind: cmd.Submit, User: "ann", Part: "p-1", Qos: "high", Name: "_job",
		Nodes: 2, Time: 60, Run: 50,
		Req: api.Vec{Cpu: 4, Mem: 16, Gpu: 1},
		Dep: dep.Dep{Any: true, Items: []dep.Item{
			{Kind: dep.AfterOk, Jobs: []int{3, 4}},
			{Kind: dep.Singleton},
			{Kind: dep.After, Jobs: []int{999999}},
		}},
		Array: array.Array{Indexes: []int{0, 2, 4, 6, 9}, Limit: 2},
	}
}

// fullText is its text.
const fullText = "submit user=ann part=p-1 nodes=2 time=60 req=cpu=4,mem=16,gpu=1 qos=high name=_job dep=afterok:3:4?singleton?after:999999 array=0-6:2,9%2 run=50"

// clone is another command that is alike, and shares nothing with it.
func clone(c cmd.Command) cmd.Command {
	c.Dep.Items = slices.Clone(c.Dep.Items)
	for i, item := range c.Dep.Items {
		c.Dep.Items[i].Jobs = slices.Clone(item.Jobs)
	}
	c.Array.Indexes = slices.Clone(c.Array.Indexes)
	return c
}

// plain is a command whose empty lists are nil.
func plain(c cmd.Command) cmd.Command {
	c = clone(c)
	if len(c.Dep.Items) == 0 {
		c.Dep.Items = nil
	}
	for i, item := range c.Dep.Items {
		if len(item.Jobs) == 0 {
			c.Dep.Items[i].Jobs = nil
		}
	}
	if len(c.Array.Indexes) == 0 {
		c.Array.Indexes = nil
	}
	return c
}

// alike tells whether two commands are.
func alike(a, b cmd.Command) bool { return reflect.DeepEqual(plain(a), plain(b)) }

// short is a text, or where it is long its ends.
func short(s string) string {
	if len(s) > 400 {
		return s[:200] + " .. " + s[len(s)-200:]
	}
	return s
}

// wantCommand holds what Parse answers, and the model, against a command.
func wantCommand(t *testing.T, s string, want cmd.Command) {
	t.Helper()
	if c, err := cmd.Parse(s); err != api.OK || !alike(c, want) {
		t.Errorf("Parse(%q) = %+v, %v, want %+v", short(s), c, err, want)
	}
	if c, err := modelParse(s); err != api.OK || !alike(c, want) {
		t.Errorf("the model of Parse(%q) = %+v, %v, want %+v", short(s), c, err, want)
	}
}

// wantError holds what Parse answers of texts, and the model, against an error.
func wantError(t *testing.T, want api.Errno, texts ...string) {
	t.Helper()
	for _, s := range texts {
		if c, err := cmd.Parse(s); err != want || !alike(c, cmd.Command{}) {
			t.Errorf("Parse(%q) = %+v, %v, want %v", short(s), c, err, want)
		}
		if _, err := modelParse(s); err != want {
			t.Errorf("the model of Parse(%q) has the error %v, want %v", short(s), err, want)
		}
	}
}

// The model of Parse goes by patterns of the whole text, once one blank stands between words.
var (
	aWord    = regexp.MustCompile(`[^ \t]+`)
	aSubmit  = regexp.MustCompile(`^submit( |$)`)
	aJob     = regexp.MustCompile(`^(cancel|hold|release|requeue) ([1-9][0-9]{0,5})$`)
	aHost    = regexp.MustCompile(`^(drain|resume) ([^ ]+)$`)
	aList    = regexp.MustCompile(`^(queue|nodes|usage)$`)
	aName    = regexp.MustCompile(`^[a-z0-9_-]{1,16}$`)
	aNumber  = regexp.MustCompile(`^[0-9]{1,7}$`)
	anOption = regexp.MustCompile(`(?s)^([a-z]+)=(.*)$`)
)

// modelParse is what Parse answers.
func modelParse(s string) (cmd.Command, api.Errno) {
	if len(s) > mostBytes {
		return cmd.Command{}, api.ErrMany
	}
	words := aWord.FindAllString(s, -1)
	if words == nil {
		return cmd.Command{}, api.ErrNone
	}
	line := strings.Join(words, " ")
	kind := slices.Index(firstWords, words[0]) + 1
	if aSubmit.MatchString(line) {
		return modelSubmit(words[1:])
	}
	if m := aJob.FindStringSubmatch(line); m != nil {
		job, _ := strconv.Atoi(m[2])
		return ofJob(kind, job), api.OK
	}
	if m := aHost.FindStringSubmatch(line); m != nil && isList(m[2]) {
		return ofHost(kind, m[2]), api.OK
	}
	if aList.MatchString(line) {
		return cmd.Command{Kind: kind}, api.OK
	}
	return cmd.Command{}, api.ErrForm
}

// isList tells whether a text is a list of nodes.
func isList(s string) bool {
	_, fault := host.Expand(s)
	return s != "" && fault.Why == api.OK
}

// modelSubmit is what options tell.
func modelSubmit(words []string) (cmd.Command, api.Errno) {
	values := map[string][]string{}
	for _, w := range words {
		m := anOption.FindStringSubmatch(w)
		if m == nil {
			return cmd.Command{}, api.ErrForm
		}
		values[m[1]] = append(values[m[1]], m[2])
	}
	c := cmd.Command{Kind: cmd.Submit, Nodes: 1}
	for key, l := range values {
		if len(l) > 1 || !set(&c, key, l[0]) {
			return cmd.Command{}, api.ErrForm
		}
	}
	if values["user"] == nil || values["part"] == nil {
		return cmd.Command{}, api.ErrForm
	}
	return c, api.OK
}

// set puts what an option's value tells into a command, and tells whether there is such an option, and the value may be.
func set(c *cmd.Command, key, value string) bool {
	n, _ := strconv.Atoi(value)
	switch key {
	case "user":
		c.User = value
	case "part":
		c.Part = value
	case "qos":
		c.Qos = value
	case "name":
		c.Name = value
	case "nodes":
		c.Nodes = n
		return aNumber.MatchString(value) && n >= 1 && n <= 256
	case "time":
		c.Time = n
		return aNumber.MatchString(value)
	case "run":
		c.Run = n
		return aNumber.MatchString(value)
	case "req":
		v, err := vec.Parse(value)
		c.Req = v
		return err == api.OK
	case "dep":
		d, fault := dep.Parse(value)
		c.Dep = d
		return fault.Why == api.OK
	case "array":
		a, fault := array.Parse(value)
		c.Array = a
		return fault.Why == api.OK
	default:
		return false
	}
	return aName.MatchString(value)
}

// values are some that an option may have, and some that it may not.
type values struct{ may, mayNot []string }

// valuesOf are those of an option.
func valuesOf(key string) values {
	switch key {
	case "nodes":
		return values{
			[]string{"1", "2", "9", "10", "255", "256", "01", "007", "0000001", "0000256"},
			[]string{"", "0", "00", "0000000", "257", "0000257", "1000", "9999999", "10000000", "00000001", "00000256",
				"-1", "+1", "1-2", "1,2", "a", "1a", "a1", "0x1", "1.0", "1_0", "=1", "1=", "none", "٣", "18446744073709551617"},
		}
	case "time", "run":
		return values{
			[]string{"0", "1", "60", "257", "1000001", "9999999", "00", "007", "0000000", "0000001"},
			[]string{"", "10000000", "99999999", "00000000", "00000001", "-1", "-0", "+1", "1-2", "1,2", "a", "1a", "a1",
				"0x1", "1.0", "1_0", "=1", "1=", "none", "٣", "18446744073709551616"},
		}
	case "req":
		return values{
			[]string{"none", "cpu=1", "mem=2", "gpu=3", "cpu=4,gpu=2", "cpu=1,mem=2,gpu=3", "cpu=1073741824"},
			[]string{"", "cpu", "cpu=", "cpu=0", "cpu=01", "cpu=-1", "cpu=+1", "mem=1,cpu=1", "cpu=1,", ",cpu=1", "cpu=1,cpu=2",
				"cpu=1073741825", "none,cpu=1", "nones", "=cpu=1", "cpu=1=", "1", "CPU=1", "disk=1"},
		}
	case "dep":
		return values{
			[]string{"", "singleton", "after:1", "afterok:3:4,singleton", "afternotok:7?afterany:999999", "singleton,singleton"},
			[]string{"none", "after", "after:", "after:0", "after:01", "after:1000000", "after:1,", ",after:1", "after:1,singleton?after:2",
				"singleton:1", "before:1", "After:1", "1", "=after:1", "after=1", "?"},
		}
	case "array":
		return values{
			[]string{"0", "7", "1-3", "0-6:2,9%2", "9,0-6:2", "999999", "0-255", "3%999999", "007-009"},
			[]string{"", "3-1", "1-3:0", "1:2", "1%0", "1,1", "0-256", "1000000", "0000000", "a", "1,", ",1", "%2", "1-", "-1", "1%", "none", "=1", "1="},
		}
	}
	return values{
		[]string{"a", "z", "0", "9", "-", "_", "ann", "none", "submit", "0000000000000000", name16},
		[]string{"", name17, name16 + name16, "A", "Ann", "a.b", "a=b", "=", "=a", "a=", "a,b", "a:b", "a/b", "é", "a\x00", "a\n", "\x80", "\"a\""},
	}
}

// without are options that make a submit with another one.
func without(key string) string {
	s := "submit"
	for _, k := range []string{"user", "part"} {
		if k != key {
			s += " " + k + "=" + k[:1]
		}
	}
	return s
}

// P10.1: Parse.

func TestParse(t *testing.T) {
	c := submit()
	wantCommand(t, base, c)
	c = cmd.Command{Kind: cmd.Submit, User: "ann", Part: "p", Nodes: 2, Time: 60}
	wantCommand(t, "submit user=ann part=p nodes=2 time=60", c)
	wantCommand(t, fullText, full())
	wantCommand(t, "cancel 1", ofJob(cmd.Cancel, 1))
	wantCommand(t, "hold 20", ofJob(cmd.Hold, 20))
	wantCommand(t, "release 345", ofJob(cmd.Release, 345))
	wantCommand(t, "requeue 999999", ofJob(cmd.Requeue, 999999))
	wantCommand(t, "drain n[1-3,07-08],m", ofHost(cmd.Drain, "n[1-3,07-08],m"))
	wantCommand(t, "resume n1", ofHost(cmd.Resume, "n1"))
	wantCommand(t, "queue", cmd.Command{Kind: cmd.Queue})
	wantCommand(t, "nodes", cmd.Command{Kind: cmd.List})
	wantCommand(t, "usage", cmd.Command{Kind: cmd.Usage})
}

func TestKinds(t *testing.T) {
	kinds := []int{cmd.Submit, cmd.Cancel, cmd.Hold, cmd.Release, cmd.Requeue, cmd.Drain, cmd.Resume, cmd.Queue, cmd.List, cmd.Usage}
	for i, kind := range kinds {
		if kind != i+1 {
			t.Errorf("the kind of %s is %d, want %d", firstWords[i], kind, i+1)
		}
	}
}

func TestParseWithoutAWord(t *testing.T) {
	wantError(t, api.ErrNone, "", " ", "\t", "  ", "\t\t", " \t", "\t \t ", strings.Repeat(" ", mostBytes), strings.Repeat("\t ", mostBytes/2))
	// Any other byte is a word.
	for b := range 256 {
		if b != ' ' && b != '\t' {
			wantError(t, api.ErrForm, string([]byte{byte(b)}), string([]byte{' ', byte(b), '\t'}))
		}
	}
}

func TestParseOfBlanks(t *testing.T) {
	whole := map[string]cmd.Command{
		fullText:        full(),
		base:            submit(),
		"cancel 7":      ofJob(cmd.Cancel, 7),
		"resume n[1-3]": ofHost(cmd.Resume, "n[1-3]"),
		"queue":         {Kind: cmd.Queue},
	}
	for s, want := range whole {
		for _, blank := range []string{" ", "\t", "  ", " \t", "\t ", "\t\t\t", strings.Repeat(" ", 99)} {
			between := strings.ReplaceAll(s, " ", blank)
			wantCommand(t, between, want)
			wantCommand(t, blank+s, want)
			wantCommand(t, s+blank, want)
			wantCommand(t, blank+between+blank, want)
		}
		// No other byte is a blank.
		for _, other := range []string{"\n", "\r", "\v", "\f", "\x00", "\u0085", "\u00a0", "\u2003", "\u2028", "\ufeff", "\x85", "\xa0", ",", ";"} {
			wantError(t, api.ErrForm, other+s, s+other, other+" "+s, s+" "+other)
			if strings.Contains(s, " ") {
				wantError(t, api.ErrForm, strings.Replace(s, " ", other, 1), strings.ReplaceAll(s, " ", other))
			}
		}
	}
	// Nor does one stand inside a word.
	wantError(t, api.ErrForm, "sub mit user=u part=p", "submit user= u part=p", "submit user =u part=p", "submit user=u part=p nodes= 2",
		"submit user=u part=p req=cpu=1, mem=2", "can cel 7", "cancel 7 7", "drain n1, n2", "drain n[1 -2]", "que\tue")
}

func TestParseOfLongTexts(t *testing.T) {
	for _, s := range []string{base, fullText, "cancel 7", "drain n[1-3]", "queue"} {
		want, _ := cmd.Parse(s)
		room := strings.Repeat(" ", mostBytes-len(s))
		wantCommand(t, room+s, want)
		wantCommand(t, s+room, want)
		wantCommand(t, strings.Replace(s, " ", " "+room, 1), want)
		wantError(t, api.ErrMany, " "+room+s, s+room+"\t", room+s+"\n")
	}
	// A list of one name.
	list := strings.Repeat("n", mostBytes-len("drain "))
	wantCommand(t, "drain "+list, ofHost(cmd.Drain, list))
	wantError(t, api.ErrMany, "drain "+list+"n", "drain  "+list)
	// Whatever the text is.
	wantError(t, api.ErrForm, strings.Repeat("x", mostBytes), strings.Repeat("x ", mostBytes/2))
	wantError(t, api.ErrMany, strings.Repeat("x", mostBytes+1), strings.Repeat(" ", mostBytes+1), strings.Repeat("\x00", 1<<20), strings.Repeat(base+" ", 1000))
}

func TestParseOfFirstWords(t *testing.T) {
	// What stands behind a first word that there is.
	behind := []string{"", " user=u part=p", " 7", " n7"}
	for i, first := range firstWords {
		for j, rest := range behind {
			kind := i + 1
			var want cmd.Command
			switch {
			case kind == cmd.Submit && j == 1:
				want = submit()
			case cmd.Cancel <= kind && kind <= cmd.Requeue && j == 2:
				want = ofJob(kind, 7)
			case (kind == cmd.Drain || kind == cmd.Resume) && j == 2:
				want = ofHost(kind, "7")
			case (kind == cmd.Drain || kind == cmd.Resume) && j == 3:
				want = ofHost(kind, "n7")
			case kind >= cmd.Queue && j == 0:
				want = cmd.Command{Kind: kind}
			default:
				wantError(t, api.ErrForm, first+rest)
				continue
			}
			wantCommand(t, first+rest, want)
		}
	}
	for _, first := range firstWords {
		for _, other := range []string{
			strings.ToUpper(first), strings.ToUpper(first[:1]) + first[1:], first[:len(first)-1], first[1:], first + "s", first + first,
			first + ":", first + "=", "-" + first, "\"" + first + "\"", first + "\x00", first + ",",
		} {
			for _, rest := range behind {
				wantError(t, api.ErrForm, other+rest)
			}
		}
	}
	for _, other := range []string{"list", "node", "job", "jobs", "part", "qos", "set", "start", "quit", "help", "user=u", "part=p", "7", "0", "1", "8", "n7", "=", "#"} {
		for _, rest := range behind {
			wantError(t, api.ErrForm, other+rest)
		}
	}
}

func TestParseOfTooFewOrTooManyWords(t *testing.T) {
	for i, first := range firstWords {
		switch kind := i + 1; {
		case kind == cmd.Submit:
			wantError(t, api.ErrForm, first, base+" x", base+" submit", base+" 7", base+" user", base+" =", "submit "+base, base+" "+base)
		case kind <= cmd.Requeue:
			wantError(t, api.ErrForm, first, first+" 7 8", first+" 7 7", first+" 7 x", first+" 7 "+first, first+" "+first+" 7", first+" 7,8", first+" user=u")
		case kind <= cmd.Resume:
			wantError(t, api.ErrForm, first, first+" n1 n2", first+" n1 n1", first+" n1 7", first+" n[1-2] x", first+" n1 n2 n3", first+" n1 ,n2")
		default:
			wantError(t, api.ErrForm, first+" 7", first+" n1", first+" "+first, first+" x", first+" user=u", first+" 7 8", first+" user=u part=p")
		}
	}
}

func TestParseWithoutUserOrPart(t *testing.T) {
	wantError(t, api.ErrForm,
		"submit", "submit user=u", "submit part=p", "submit nodes=1", "submit name=u qos=p", "submit nodes=1 time=1 run=1",
		"submit user=u name=p", "submit part=p name=u", "submit user=u part", "submit user part=p", "submit user=u user=p", "submit part=u part=p",
		"submit user=u Part=p", "submit user=u parts=p", "submit u p")
	wantError(t, api.ErrForm, strings.Replace(fullText, "user=ann ", "", 1), strings.Replace(fullText, "part=p-1 ", "", 1))
	wantCommand(t, "submit part=p user=u", submit())
}

func TestParseOfAnOption(t *testing.T) {
	for _, key := range keys {
		for _, value := range valuesOf(key).may {
			// Behind and ahead of the others.
			want := submit()
			set(&want, key, value)
			option := key + "=" + value
			wantCommand(t, without(key)+" "+option, want)
			wantCommand(t, strings.Replace(without(key), "submit", "submit "+option, 1), want)
		}
		for _, value := range valuesOf(key).mayNot {
			option := key + "=" + value
			wantError(t, api.ErrForm, without(key)+" "+option, strings.Replace(without(key), "submit", "submit "+option, 1))
		}
		// Without a value, and a sign.
		wantError(t, api.ErrForm, without(key)+" "+key, without(key)+" "+key+" time=7", without(key)+" "+key+":7", without(key)+" "+key+"7")
	}
}

func TestParseOfAnOptionTwice(t *testing.T) {
	for _, key := range keys {
		may := valuesOf(key).may
		for _, first := range may {
			for _, second := range may {
				wantError(t, api.ErrForm, without(key)+" "+key+"="+first+" "+key+"="+second)
			}
			wantError(t, api.ErrForm,
				"submit "+key+"="+first+strings.TrimPrefix(without(key), "submit")+" "+key+"="+first,
				without(key)+" "+key+"="+first+" "+key+"="+first+" "+key+"="+first,
				without(key)+" "+key+"="+first+" "+key+"="+valuesOf(key).mayNot[0])
		}
		wantError(t, api.ErrForm, fullText+" "+key+"="+may[0])
	}
}

func TestParseOfNoOption(t *testing.T) {
	for _, key := range []string{
		"", "users", "use", "User", "USER", "uuser", "node", "limit", "kind", "job", "host", "list", "submit", "prio", "max", "after", "cpu", "mem", "%", "1", "user ", "dep:", "\x00user", "nodes-",
	} {
		for _, value := range []string{"", "a", "1", "p=q", "none"} {
			wantError(t, api.ErrForm, base+" "+key+"="+value, "submit "+key+"="+value+" user=u part=p")
		}
	}
	wantError(t, api.ErrForm, base+" =", base+" ==", base+" =user=u", base+" user", base+" 1", base+" -", base+" cpu=1,mem=2", base+" afterok:3", base+" 1-3")
}

func TestParseOfNames(t *testing.T) {
	for _, key := range []string{"user", "part", "qos", "name"} {
		s := without(key) + " " + key + "="
		for b := range 256 {
			c := string([]byte{byte(b)})
			if c == " " || c == "\t" {
				continue
			}
			for _, name := range []string{c, c + "a", "a" + c, "a" + c + "a", c + name16[1:], name16[1:] + c} {
				if !strings.Contains(nameBytes, c) {
					wantError(t, api.ErrForm, s+name)
					continue
				}
				want := submit()
				set(&want, key, name)
				wantCommand(t, s+name, want)
			}
		}
		for size := range 40 {
			name := strings.Repeat("a", size)
			if size < 1 || size > 16 {
				wantError(t, api.ErrForm, s+name)
				continue
			}
			want := submit()
			set(&want, key, name)
			wantCommand(t, s+name, want)
		}
	}
}

func TestParseOfNumbers(t *testing.T) {
	at := map[string]func(c *cmd.Command) *int{
		"nodes": func(c *cmd.Command) *int { return &c.Nodes },
		"time":  func(c *cmd.Command) *int { return &c.Time },
		"run":   func(c *cmd.Command) *int { return &c.Run },
	}
	for key, field := range at {
		least, most := 0, 9999999
		if key == "nodes" {
			least, most = 1, 256
		}
		for _, n := range []int{0, 1, 2, 7, 9, 10, 99, 100, 255, 256, 257, 258, 999, 1000, 65536, 999999, 1000000, 1000001, 9999998, 9999999, 10000000, 12345678} {
			for size := range 10 {
				digits := strings.Repeat("0", max(size-len(strconv.Itoa(n)), 0)) + strconv.Itoa(n)
				s := base + " " + key + "=" + digits
				if len(digits) > 7 || n < least || n > most {
					wantError(t, api.ErrForm, s)
					continue
				}
				want := submit()
				*field(&want) = n
				wantCommand(t, s, want)
			}
		}
	}
}

func TestParseOfJobs(t *testing.T) {
	for kind := cmd.Cancel; kind <= cmd.Requeue; kind++ {
		first := firstWords[kind-1] + " "
		for _, job := range []int{1, 2, 9, 10, 11, 99, 100, 1024, 9999, 10000, 99999, 100000, 123456, 999998, 999999} {
			wantCommand(t, first+strconv.Itoa(job), ofJob(kind, job))
			wantError(t, api.ErrForm, first+"0"+strconv.Itoa(job), first+"00"+strconv.Itoa(job), first+"-"+strconv.Itoa(job), first+"+"+strconv.Itoa(job))
		}
		wantError(t, api.ErrForm, first+"0", first+"00", first+"000000", first+"0000000", first+"01", first+"000001", first+"1000000", first+"9999999", first+"10000000",
			first+"18446744073709551617", first+"x", first+"1x", first+"x1", first+"-", first+"-1", first+"1-2", first+"1,2", first+"1.0", first+"0x1", first+"job=1", first+"=1", first+"n1", first+"٣", first+"1_0")
	}
}

func TestParseOfLists(t *testing.T) {
	for _, kind := range []int{cmd.Drain, cmd.Resume} {
		first := firstWords[kind-1] + " "
		for _, list := range []string{
			"n", "n1", "N.a-b_1", "7", "-", "_", ".", "n[1]", "n[1-3]", "n[0-255]", "n[1-3,07-08],m", "a,b,c", "a,a", "n[1,1]", "drain", "queue", "n[000000-000255]",
			strings.Repeat("n", 300), strings.Repeat("n,", 255) + "n",
		} {
			wantCommand(t, first+list, ofHost(kind, list))
		}
		wantError(t, api.ErrForm, first+",", first+"n,", first+",n", first+"n,,m", first+"n[", first+"n[]", first+"n]", first+"[1]", first+"n[1", first+"n[1-]", first+"n[2-1]",
			first+"n[1]m", first+"n[1][2]", first+"n[1-3:2]", first+"n[0000001]", first+"n[a]", first+"n=1", first+"user=u", first+"n*", first+"n/1", first+"é", first+"n\x00", first+"n\n", first+"%",
			// More than 256 names.
			first+"n[0-256]", first+"n[0-255],m", first+strings.Repeat("n,", 256)+"n", first+"n[0-999999]")
	}
}

func TestParseOfWhatIsThereWithout(t *testing.T) {
	for _, option := range []string{"nodes=1", "nodes=0000001", "time=0", "time=0000000", "req=none", "dep=", "run=0", "run=0000000"} {
		wantCommand(t, base+" "+option, submit())
		wantCommand(t, "submit "+option+" part=p user=u", submit())
	}
	wantCommand(t, base+" nodes=1 time=0 req=none dep= run=0", submit())
	// Of names and arrays there is no such value.
	wantError(t, api.ErrForm, base+" qos=", base+" name=", base+" array=")
	wantCommand(t, base+" qos=none name=none", submit(func(c *cmd.Command) { c.Qos, c.Name = "none", "none" }))
	wantCommand(t, base+" array=0", submit(func(c *cmd.Command) { c.Array.Indexes = []int{0} }))
}

// P10.4: the order of options does not count.

func TestOrderOfOptions(t *testing.T) {
	options := strings.Split(fullText, " ")[1:]
	for i := range options {
		for j := range options {
			turned := slices.Clone(options)
			turned[i], turned[j] = turned[j], turned[i]
			wantCommand(t, "submit "+strings.Join(turned, " "), full())
		}
	}
	slices.Reverse(options)
	wantCommand(t, "submit "+strings.Join(options, " "), full())
	r := rand.New(rand.NewSource(1))
	for range 3000 {
		c := randomSubmit(r)
		options := strings.Split(modelFormat(c), " ")[1:]
		r.Shuffle(len(options), func(i, j int) { options[i], options[j] = options[j], options[i] })
		wantCommand(t, "submit "+strings.Join(options, " "), c)
	}
}

// R1, R3: Parse of anything at all.

func TestParseAgainstItsModel(t *testing.T) {
	r := rand.New(rand.NewSource(2))
	pieces := []string{" ", " ", " ", "\t", "=", "=", ",", ":", "?", "%", "-", "[", "]", "0", "1", "7", "9", "00", "256", "257", "a", "n", "z", "A", "\n", "\x00", "\xff", "é",
		name16, "none", "cpu=1", "after:1", "singleton", "1-3", "n[1-3]", "user=u", "part=p", "nodes=2", "time=3", "req=mem=1", "qos=q", "name=n", "dep=after:1", "array=1-3", "run=4"}
	pieces = append(append(pieces, firstWords...), keys...)
	pick := func() string { return pieces[r.Intn(len(pieces))] }
	starts := []string{base, base, fullText, "cancel 7", "drain n[1-3],m", "queue", ""}
	right := 0
	for range 60000 {
		s := starts[r.Intn(len(starts))]
		for range r.Intn(4) {
			at, to := r.Intn(len(s)+1), r.Intn(len(s)+1)
			switch r.Intn(4) {
			case 0:
				s = s[:at] + pick() + s[at:]
			case 1:
				s = s[:at] + s[min(at+1, len(s)):]
			case 2:
				s = s[:at] + pick() + s[min(at+1, len(s)):]
			case 3:
				s = s + " " + s[min(at, to):max(at, to)]
			}
		}
		want, wantErr := modelParse(s)
		got, err := cmd.Parse(s)
		if err != wantErr || !alike(got, want) {
			t.Fatalf("Parse(%q) = %+v, %v, want %+v, %v", s, got, err, want, wantErr)
		}
		if err == api.OK {
			right++
		}
	}
	if right < 5000 {
		t.Errorf("of the texts only %d are commands", right)
	}
}

// R4: what was answered is the caller's.

func TestParseMayBeWrittenOver(t *testing.T) {
	texts := []string{fullText, base + " dep=after:1:2:3,afterok:4:5,afterany:6 array=1-9,20"}
	for _, s := range texts {
		want, _ := cmd.Parse(s)
		keep := clone(want)
		got, _ := cmd.Parse(s)
		writeOver(&got)
		again, err := cmd.Parse(s)
		if err != api.OK || !alike(again, keep) || !alike(want, keep) {
			t.Errorf("Parse(%q) = %+v, %v, and before %+v, want %+v", s, again, err, want, keep)
		}
	}
	// No two lists of one answer share any.
	c, _ := cmd.Parse(texts[1])
	keep := clone(c)
	for i := range c.Dep.Items {
		_ = append(c.Dep.Items[i].Jobs, -1, -1, -1, -1)
	}
	_ = append(c.Array.Indexes, -1, -1, -1, -1)
	if !alike(c, keep) {
		t.Errorf("what is written behind the lists of %+v made it %+v", keep, c)
	}
}

// writeOver writes into all lists of a command, and behind them.
func writeOver(c *cmd.Command) {
	for i := range c.Dep.Items {
		for j := range c.Dep.Items[i].Jobs {
			c.Dep.Items[i].Jobs[j] = math.MinInt
		}
		clear(c.Dep.Items[i].Jobs[len(c.Dep.Items[i].Jobs):cap(c.Dep.Items[i].Jobs)])
		c.Dep.Items[i] = dep.Item{Kind: -1}
	}
	for i := range c.Array.Indexes {
		c.Array.Indexes[i] = math.MinInt
	}
	clear(c.Array.Indexes[len(c.Array.Indexes):cap(c.Array.Indexes)])
}
