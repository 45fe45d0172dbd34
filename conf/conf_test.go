package conf_test

import (
	"maps"
	"math/rand"
	"regexp"
	"slices"
	"strconv"
	"strings"
	"testing"

	"marlinspike/api"
	"marlinspike/bits"
	"marlinspike/conf"
	"marlinspike/host"
	"marlinspike/vec"
)

const (
	// most is the greatest time, and the greatest of most values.
	most = 1000000
	// name16 and name17 are names as long as one may be, and one byte longer; node32 and node33 so of nodes.
	name16 = "abcdefgh-_012345"
	name17 = name16 + "6"
	node32 = "N.abcdefghijklmnopqrstuvwxyz-_01"
	node33 = node32 + "2"
	// base is a config of five lines.
	base = "node n[0-3] cpu=4\npart p n[0-3]\npart q n[1,3] max=2 time=30 prio=5\nqos a prio=7 max=9\nset boot 12\n"
)

var noFault api.Fault

// form, none, there, many and limit are the faults at a line.
func form(at int) api.Fault  { return api.Fault{Why: api.ErrForm, At: at} }
func none(at int) api.Fault  { return api.Fault{Why: api.ErrNone, At: at} }
func there(at int) api.Fault { return api.Fault{Why: api.ErrThere, At: at} }
func many(at int) api.Fault  { return api.Fault{Why: api.ErrMany, At: at} }
func limit(at int) api.Fault { return api.Fault{Why: api.ErrLimit, At: at} }

// bound is what a number may be, and what it is if no text tells it.
type bound struct{ least, most, untold int }

// The bounds of what is set, and of options, by their keys.
var (
	setBounds = map[string]bound{
		"suspend": {0, 1000000, 100},
		"boot":    {1, 1000000, 10},
		"stop":    {1, 1000000, 5},
		"half":    {1, 1000000, 1000},
		"min":     {0, 1000000, 0},
		"cap":     {1, 256, 256},
		"rate":    {1, 1000000, 16},
		"retry":   {0, 1000000, 3},
	}
	partBounds = map[string]bound{
		"max":  {1, 256, 256},
		"time": {1, 1000000, 1000000},
		"prio": {0, 1000, 0},
	}
	qosBounds = map[string]bound{
		"prio": {0, 1000, 0},
		"max":  {1, 1024, 1024},
	}
)

// value is where a config keeps what is set by a key.
func value(c *conf.Config, key string) *int {
	switch key {
	case "suspend":
		return &c.Suspend
	case "boot":
		return &c.Boot
	case "stop":
		return &c.Stop
	case "half":
		return &c.Half
	case "min":
		return &c.Min
	case "cap":
		return &c.Cap
	case "rate":
		return &c.Rate
	case "retry":
		return &c.Retry
	}
	panic(key)
}

// untold is a config of so many nodes n0, n1 and so on, each of one cpu, and of what no text tells else.
func untold(nodes int) conf.Config {
	var c conf.Config
	for i := range nodes {
		c.Names = append(c.Names, "n"+strconv.Itoa(i))
		c.Vecs = append(c.Vecs, api.Vec{Cpu: 1})
	}
	c.Suspend, c.Boot, c.Stop, c.Half, c.Min, c.Cap, c.Rate, c.Retry = 100, 10, 5, 1000, 0, 256, 16, 3
	return c
}

// part is a partition without options, of the nodes of some numbers.
func part(name string, nodes ...int) conf.Part {
	return conf.Part{Name: name, Nodes: bits.Of(nodes...), Max: 256, Time: most}
}

// qos is a quality without options.
func qos(name string) conf.Qos { return conf.Qos{Name: name, Max: 1024} }

// small is a config that may be: four nodes, two partitions and two qualities.
func small() conf.Config {
	c := untold(4)
	c.Parts = []conf.Part{part("p", 0, 1, 2, 3), part("q", 1, 3)}
	c.Qos = []conf.Qos{qos("a"), qos("b")}
	return c
}

// with is a small config that was turned.
func with(turn func(c *conf.Config)) conf.Config {
	c := small()
	turn(&c)
	return c
}

// clone is another config that is alike.
func clone(c conf.Config) conf.Config {
	c.Names, c.Vecs = slices.Clone(c.Names), slices.Clone(c.Vecs)
	c.Parts, c.Qos = slices.Clone(c.Parts), slices.Clone(c.Qos)
	return c
}

// alike tells whether two configs are.
func alike(a, b conf.Config) bool {
	for key := range setBounds {
		if *value(&a, key) != *value(&b, key) {
			return false
		}
	}
	return slices.Equal(a.Names, b.Names) && slices.Equal(a.Vecs, b.Vecs) && slices.Equal(a.Parts, b.Parts) && slices.Equal(a.Qos, b.Qos)
}

// short is a text, or where it is long its ends.
func short(s string) string {
	if len(s) > 400 {
		return s[:200] + " .. " + s[len(s)-200:]
	}
	return s
}

// wantConfig holds what Parse answers, and the model, against a config.
func wantConfig(t *testing.T, s string, want conf.Config) {
	t.Helper()
	if c, f := conf.Parse(s); f != noFault || !alike(c, want) {
		t.Errorf("Parse(%q) = %v, %v, want %v", short(s), c, f, want)
	}
	if c, f := modelParse(s); f != noFault || !alike(c, want) {
		t.Errorf("the model of Parse(%q) = %v, %v, want %v", short(s), c, f, want)
	}
}

// wantFault holds what Parse answers, and the model, against a fault.
func wantFault(t *testing.T, s string, want api.Fault) {
	t.Helper()
	if c, f := conf.Parse(s); f != want || !alike(c, conf.Config{}) {
		t.Errorf("Parse(%q) = %v, %v, want %v", short(s), c, f, want)
	}
	if _, f := modelParse(s); f != want {
		t.Errorf("the model of Parse(%q) has the fault %v, want %v", short(s), f, want)
	}
}

// wantFaults hold what Parse answers, and the model, against faults.
func wantFaults(t *testing.T, faults map[string]api.Fault) {
	t.Helper()
	for s, want := range faults {
		wantFault(t, s, want)
	}
}

// wantBehind holds what Parse answers of lines, each alone behind the base's five, against an error.
func wantBehind(t *testing.T, want api.Errno, lines ...string) {
	t.Helper()
	for _, line := range lines {
		wantFault(t, base+line, api.Fault{Why: want, At: 6})
		// Whatever is behind it.
		wantFault(t, base+line+"\n"+base, api.Fault{Why: want, At: 6})
	}
}

// wantRead holds what Parse answers of the base and a line against the base's config, turned.
func wantRead(t *testing.T, line string, turn func(c *conf.Config)) {
	t.Helper()
	c, _ := conf.Parse(base)
	turn(&c)
	wantConfig(t, base+line, c)
}

// The model of Parse goes by patterns of words, gathers all that is wrong of a line, and takes what the document names first.
var (
	aWord     = regexp.MustCompile(`[^ \t]+`)
	aName     = regexp.MustCompile(`^[a-z0-9_-]{1,16}$`)
	aNodeName = regexp.MustCompile(`^[A-Za-z0-9_.-]{1,32}$`)
	aNumber   = regexp.MustCompile(`^[0-9]{1,7}$`)
	anOption  = regexp.MustCompile(`^([a-z]+)=([0-9]{1,7})$`)
)

// model is a config, what is there by name, what was set, and what is wrong of the line that is read.
type model struct {
	c                         conf.Config
	numbers, parts, qualities map[string]int
	values                    map[string]int
	wrong                     map[api.Errno]bool
}

// when tells that something is wrong, if it is.
func (m *model) when(is bool, why api.Errno) {
	if is {
		m.wrong[why] = true
	}
}

// number is the number that digits tell.
func (m *model) number(digits string) int {
	m.when(!aNumber.MatchString(digits), api.ErrForm)
	n, _ := strconv.ParseInt(digits, 10, 64)
	return int(n)
}

// options are the numbers that options tell, and those that they do not.
func (m *model) options(words []string, bounds map[string]bound) map[string]int {
	got := map[string]int{}
	for _, word := range words {
		o := anOption.FindStringSubmatch(word)
		if o == nil {
			m.when(true, api.ErrForm)
			continue
		}
		b, ok := bounds[o[1]]
		_, twice := got[o[1]]
		m.when(!ok || twice, api.ErrForm)
		n := m.number(o[2])
		got[o[1]] = n
		m.when(n < b.least || n > b.most, api.ErrLimit)
	}
	for key, b := range bounds {
		if _, ok := got[key]; !ok {
			got[key] = b.untold
		}
	}
	return got
}

// list are the names of a list.
func (m *model) list(s string) []string {
	names, fault := host.Expand(s)
	m.when(fault.Why != api.OK, api.ErrForm)
	return names
}

// line reads the words of a line.
func (m *model) line(words []string) {
	size := len(words)
	words = append(words, "", "", "")
	switch words[0] {
	case "node":
		m.when(size != 3, api.ErrForm)
		v, err := vec.Parse(words[2])
		m.when(err != api.OK, api.ErrForm)
		for _, name := range m.list(words[1]) {
			m.when(!aNodeName.MatchString(name), api.ErrForm)
			_, is := m.numbers[name]
			m.when(is, api.ErrThere)
			m.numbers[name] = len(m.c.Names)
			m.c.Names, m.c.Vecs = append(m.c.Names, name), append(m.c.Vecs, v)
		}
		m.when(len(m.c.Names) > 256, api.ErrMany)
	case "part":
		m.when(size < 3 || !aName.MatchString(words[1]), api.ErrForm)
		p := conf.Part{Name: words[1]}
		for _, name := range m.list(words[2]) {
			i, is := m.numbers[name]
			m.when(!is, api.ErrNone)
			p.Nodes[i/64] |= 1 << (i % 64)
		}
		got := m.options(words[min(size, 3):size], partBounds)
		p.Max, p.Time, p.Prio = got["max"], got["time"], got["prio"]
		m.parts[p.Name]++
		m.when(m.parts[p.Name] > 1, api.ErrThere)
		m.c.Parts = append(m.c.Parts, p)
		m.when(len(m.c.Parts) > 16, api.ErrMany)
	case "qos":
		m.when(size < 2 || !aName.MatchString(words[1]), api.ErrForm)
		got := m.options(words[min(size, 2):size], qosBounds)
		m.qualities[words[1]]++
		m.when(m.qualities[words[1]] > 1, api.ErrThere)
		m.c.Qos = append(m.c.Qos, conf.Qos{Name: words[1], Prio: got["prio"], Max: got["max"]})
		m.when(len(m.c.Qos) > 16, api.ErrMany)
	case "set":
		b, ok := setBounds[words[1]]
		m.when(size != 3 || !ok, api.ErrForm)
		n := m.number(words[2])
		m.when(n < b.least || n > b.most, api.ErrLimit)
		m.values[words[1]] = n
	default:
		m.when(true, api.ErrForm)
	}
}

// modelParse is what Parse answers.
func modelParse(s string) (conf.Config, api.Fault) {
	if len(s) > 65536 {
		return conf.Config{}, many(0)
	}
	m := &model{numbers: map[string]int{}, parts: map[string]int{}, qualities: map[string]int{}, values: map[string]int{}}
	for at, line := range strings.Split(s, "\n") {
		words := aWord.FindAllString(strings.SplitN(line, "#", 2)[0], -1)
		if words == nil {
			continue
		}
		m.wrong = map[api.Errno]bool{}
		m.line(words)
		for _, why := range []api.Errno{api.ErrForm, api.ErrNone, api.ErrThere, api.ErrMany, api.ErrLimit} {
			if m.wrong[why] {
				return conf.Config{}, api.Fault{Why: why, At: at + 1}
			}
		}
	}
	for key, b := range setBounds {
		n, ok := m.values[key]
		if !ok {
			n = b.untold
		}
		*value(&m.c, key) = n
	}
	if len(m.c.Names) == 0 || len(m.c.Parts) == 0 || m.c.Min > m.c.Cap {
		return conf.Config{}, limit(0)
	}
	return m.c, noFault
}

// P9.1: Parse.

func TestParse(t *testing.T) {
	c := untold(4)
	c.Vecs = slices.Repeat([]api.Vec{{Cpu: 4}}, 4)
	c.Parts = []conf.Part{{Name: "p", Nodes: api.Nodes{0xf}, Max: 2, Time: most}}
	wantConfig(t, "node n[0-3] cpu=4\npart p n[0-3] max=2\n", c)
	// The base.
	c.Parts = []conf.Part{part("p", 0, 1, 2, 3), {Name: "q", Nodes: bits.Of(1, 3), Max: 2, Time: 30, Prio: 5}}
	c.Qos = []conf.Qos{{Name: "a", Prio: 7, Max: 9}}
	c.Boot = 12
	wantConfig(t, base, c)
	// All kinds of lines, in another order.
	c = conf.Config{
		Names:   []string{"m", "n07", "n08", "n9", "x.Y-z_1"},
		Vecs:    []api.Vec{{}, {Cpu: 1, Mem: 2, Gpu: 3}, {Cpu: 1, Mem: 2, Gpu: 3}, {Mem: 1 << 30}, {Mem: 1 << 30}},
		Parts:   []conf.Part{{Name: "one", Nodes: bits.Of(0), Max: 1, Time: 1, Prio: 1000}, {Name: "-", Nodes: bits.Of(0, 1, 2, 3, 4), Max: 256, Time: 2}},
		Qos:     []conf.Qos{{Name: "high", Prio: 1000, Max: 1}, {Name: "low", Prio: 0, Max: 1024}, {Name: "_9", Prio: 3, Max: 4}},
		Suspend: 1, Boot: 2, Stop: 3, Half: 4, Min: 5, Cap: 6, Rate: 7, Retry: 8,
	}
	wantConfig(t, `set retry 8
qos high max=1 prio=1000
node m none
set rate 7
part one m time=1 max=1 prio=1000
set cap 6
qos low
node n[07-08] cpu=1,mem=2,gpu=3
set min 5
node n9,x.Y-z_1 mem=1073741824
set half 4
part - x.Y-z_1,n[07-08],n9,m time=2
set stop 3
qos _9 prio=3 max=4
set boot 2
set suspend 1`, c)
}

func TestParseOfAnEmptyText(t *testing.T) {
	wantFaults(t, map[string]api.Fault{
		"":                    limit(0),
		"\n":                  limit(0),
		"\n\n\n":              limit(0),
		" ":                   limit(0),
		"\t \t\n \n":          limit(0),
		"#":                   limit(0),
		"# node n0 none\n#\n": limit(0),
	})
}

func TestParseOfLinesWithoutAWord(t *testing.T) {
	c := untold(2)
	c.Vecs[0], c.Vecs[1] = api.Vec{}, api.Vec{}
	c.Parts = []conf.Part{part("p", 0, 1)}
	for _, s := range []string{
		"node n[0-1] none\npart p n[0-1]",
		"\nnode n[0-1] none\npart p n[0-1]\n",
		"\n\n\nnode n[0-1] none\n\n\npart p n[0-1]\n\n\n",
		"   \nnode n[0-1] none\n\t\npart p n[0-1]\n \t \t",
		"# nodes\nnode n[0-1] none\n   # parts\npart p n[0-1]\n#",
		"#\nnode n[0-1] none\n##\npart p n[0-1]\n#\n",
	} {
		wantConfig(t, s, c)
	}
	// They are counted.
	wantFaults(t, map[string]api.Fault{
		"x":                             form(1),
		"\nx":                           form(2),
		"\n\n\nx":                       form(4),
		" \n\t\n# x\nx":                 form(4),
		"# x\nx":                        form(2),
		"node n0 none\n\n# \npart p n1": none(4),
		"\n" + base + "\n\nset min 0\nset boot 0\n\nx": limit(10),
		strings.Repeat("\n", 65535) + "x":              form(65536),
		strings.Repeat("#\n", 32767) + "x":             form(32768),
	})
}

func TestParseOfWhatIsBehindASign(t *testing.T) {
	c := untold(2)
	c.Parts = []conf.Part{part("p", 0, 1)}
	for _, s := range []string{
		"node n[0-1] cpu=1 # two nodes\npart p n[0-1] # of both",
		"node n[0-1] cpu=1#,mem=2\npart p n[0-1]#,n2",
		"node n[0-1] cpu=1#\npart p n[0-1]#\n",
		"node n[0-1] cpu=1 #x #y ##\npart p n[0-1] ### \n",
		"node n[0-1] cpu=1 \t#\tpart q n0\npart p n[0-1] # max=0\x00\xff",
		"node n[0-1] cpu=1\npart p n[0-1]\n# part p n0\n#part q n2\n",
	} {
		wantConfig(t, s, c)
	}
	wantFaults(t, map[string]api.Fault{
		// What is ahead stays.
		"node n0 #none\npart p n0":         form(1),
		"node n0# none\npart p n0":         form(1),
		"node #n0 none\npart p n0":         form(1),
		"node#":                            form(1),
		"no#de n0 none\npart p n0":         form(1),
		"node n0 cpu=#1\npart p n0":        form(1),
		"node n[0#-1] none\npart p n0":     form(1),
		"node n0 none\npart p#q n0":        form(2),
		"node n0 none\npart p n0 max=#2":   form(2),
		"node n0 none\npart p n0 max#=2":   form(2),
		"node n0 none\npart p n0\nset #":   form(3),
		"node n0 none\npart p n0\n#\nqos#": form(4),
		// It ends with the line.
		"# x\nx":                   form(2),
		"node n0 none # x\ny":      form(2),
		"node n0 none # x\\\ny":    form(2),
		"#node n0 none\npart p n0": none(2),
	})
	c.Parts[0].Max = 2
	wantConfig(t, "node n[0-1] cpu=1\npart p n[0-1] max=2#56", c)
}

func TestParseOfBlanks(t *testing.T) {
	want, _ := conf.Parse(base)
	for _, blank := range []string{"\t", "  ", " \t", "\t ", "\t\t\t", "          "} {
		s := strings.ReplaceAll(base, " ", blank)
		wantConfig(t, s, want)
		wantConfig(t, blank+strings.ReplaceAll(s, "\n", blank+"\n"+blank), want)
	}
	// No other byte is one.
	for c := range 256 {
		if b := string([]byte{byte(c)}); b != " " && b != "\t" {
			wantFaults(t, map[string]api.Fault{
				"node" + b + "n0 none\npart p n0\n":          form(1),
				"node n0" + b + "none\npart p n0\n":          form(1),
				"node n0 none\npart p" + b + "n0\n":          form(2),
				"node n0 none\npart p n0\nset" + b + "min 7": form(3),
			})
		}
	}
	for _, blank := range []string{"\r", "\v", "\f", "\x00", "\u00a0", "\u0085", "\u2003", "\u2028", "\ufeff", "\x85", "\xa0"} {
		wantFaults(t, map[string]api.Fault{
			blank + "node n0 none\npart p n0":         form(1),
			"node n0 none" + blank + "\npart p n0":    form(1),
			"node n0 none " + blank + "\npart p n0":   form(1),
			"node n0 none" + blank + "part p n0":      form(1),
			"node n0 none\n" + blank + "\npart p n0":  form(2),
			"node n0 none\npart p n0" + blank + "\n":  form(2),
			"node n0 none\npart p n0 " + blank + "\n": form(2),
			"node n0 none\npart p n0\n" + blank:       form(3),
		})
	}
}

func TestParseOfLines(t *testing.T) {
	// The last line ends with the byte, or with the text.
	c := untold(1)
	c.Parts = []conf.Part{part("p", 0)}
	c.Boot = 77
	const s = "node n0 cpu=1\npart p n0\nset boot 77"
	wantConfig(t, s, c)
	wantConfig(t, s+"\n", c)
	wantConfig(t, s+"\n\n", c)
	wantFaults(t, map[string]api.Fault{
		s + "x":             form(3),
		s + "x\n":           form(3),
		s + "\nx":           form(4),
		s + "\nx\n":         form(4),
		s + "\n\nx":         form(5),
		s + "\r\n":          form(3),
		s + "\rset boot 78": form(3),
		s + ";set boot 78":  form(3),
		s + " set boot 78":  form(3),
		s + "\nset boot 0":  limit(4),
		// A line has no other one's words.
		"node n0\ncpu=1\npart p n0":     form(1),
		"node n0 cpu=1\npart p\nn0":     form(2),
		"node n0 cpu=1 part p n0":       form(1),
		"node n0 cpu=1\\\npart p n0":    form(1),
		"node n0 cpu=1\npart p n0 \\\n": form(2),
	})
}

func TestParseOfLongTexts(t *testing.T) {
	want, _ := conf.Parse(base)
	room := api.MaxText - len(base)
	for _, fill := range []string{"\n", " ", "#", "\t", "# x\n", "\x00", "\xff", "\u20ac"} {
		s := base + "#" + strings.Repeat(fill, room/len(fill)+2)
		wantConfig(t, s[:api.MaxText-1], want)
		wantConfig(t, s[:api.MaxText], want)
		wantFault(t, s[:api.MaxText+1], many(0))
	}
	// Whatever else is wrong.
	for _, s := range []string{"x\n", "", "# ", "node n0 none\npart p n1\n", "node n0 none\nnode n0 none\n", "set boot 0\n"} {
		wantFault(t, s+strings.Repeat("\n", 65537-len(s)), many(0))
		wantFault(t, s+strings.Repeat("x", 1<<20), many(0))
	}
	wantFaults(t, map[string]api.Fault{
		strings.Repeat("\n", 65536):                                         limit(0),
		strings.Repeat("\n", 65537):                                         many(0),
		strings.Repeat("x", 65536):                                          form(1),
		strings.Repeat("x", 65537):                                          many(0),
		strings.Repeat("x ", 32768):                                         form(1),
		"x\n" + strings.Repeat("\n", 65534):                                 form(1),
		strings.Repeat("\n", 65535) + "x":                                   form(65536),
		"node " + strings.Repeat("x", 65000) + " none":                      form(1),
		"node n[" + strings.Repeat("1,", 30000) + "1] none":                 form(1),
		base + "part r " + strings.Repeat("n0,", 20000) + "n0":              form(6),
		base + "part r n0" + strings.Repeat(" max=1", 10000):                form(6),
		base + "part r n0 max=" + strings.Repeat("0", 65000) + "1":          form(6),
		base + "part " + strings.Repeat("r", 65000) + " n0":                 form(6),
		base + "qos " + strings.Repeat("b", 65000):                          form(6),
		base + strings.Repeat("set min 1\n", 6000) + "set min 1000001":      limit(6006),
		base + strings.Repeat("set cap 9\nset min 9\n", 3000) + "set cap 8": limit(0),
	})
}

func TestParseOfTooFewAndTooManyWords(t *testing.T) {
	wantBehind(t, api.ErrForm,
		"node", "node m", "node m # none", "node none", "node m none none", "node m none m none", "node m none 1", "node m none max=2",
		"part", "part r", "part r # n0", "part n0", "part r max=2", "part r n0 n1", "part r n0 n0", "part r n0 max=2 n1", "part r n0 2",
		"qos", "qos # b", "qos b c", "qos b n0", "qos b prio=1 c", "qos b 7", "qos b prio=1 7",
		"set", "set boot", "set boot # 7", "set 7", "set boot 7 8", "set boot 7 7", "set boot 7 boot 8", "set boot 7 max=1",
	)
}

func TestParseOfFirstWords(t *testing.T) {
	wantBehind(t, api.ErrForm,
		"x", "7", "=", "-", "_", "\x00", "\xff", "\u00e9", "submit", "config", "n0", "p", "boot", "max=2",
		// Near ones.
		"nod m none", "nodes m none", "Node m none", "NODE m none", "nodE m none", "node: m none", "node= m none", "node, m none", "xnode m none",
		"par r n0", "parts r n0", "Part r n0", "partition r n0", "part= r n0", "qo b", "qoss b", "Qos b", "qos: b", "se boot 7", "sets boot 7", "Set boot 7", "set= boot 7",
		// One kind's words behind another one's first.
		"node boot 7", "part m cpu=4", "part b prio=1", "qos m none", "qos r n0 max=2", "set m none", "set r n0", "set b prio=1",
		// First words at other places.
		"m node none", "boot set 7", "r part n0", "b qos",
	)
	// A name may be a first word.
	wantRead(t, "node node,part,qos,set none", func(c *conf.Config) {
		c.Names = append(c.Names, "node", "part", "qos", "set")
		c.Vecs = append(c.Vecs, api.Vec{}, api.Vec{}, api.Vec{}, api.Vec{})
	})
	wantRead(t, "part part n0", func(c *conf.Config) { c.Parts = append(c.Parts, part("part", 0)) })
	wantRead(t, "qos qos", func(c *conf.Config) { c.Qos = append(c.Qos, qos("qos")) })
}

// nodes adds nodes to a config, each with a vector.
func nodes(v api.Vec, names ...string) func(c *conf.Config) {
	return func(c *conf.Config) {
		for _, name := range names {
			c.Names, c.Vecs = append(c.Names, name), append(c.Vecs, v)
		}
	}
}

func TestParseOfNodes(t *testing.T) {
	wantRead(t, "node m none", nodes(api.Vec{}, "m"))
	wantRead(t, "node m,l cpu=1", nodes(api.Vec{Cpu: 1}, "m", "l"))
	wantRead(t, "node m[3-4,1] mem=7,gpu=2", nodes(api.Vec{Mem: 7, Gpu: 2}, "m3", "m4", "m1"))
	wantRead(t, "node n[00-02],n4 cpu=1,mem=2,gpu=3", nodes(api.Vec{Cpu: 1, Mem: 2, Gpu: 3}, "n00", "n01", "n02", "n4"))
	wantRead(t, "node A.b-C_9,-,_,.,0,N0 cpu=1073741824", nodes(api.Vec{Cpu: 1 << 30}, "A.b-C_9", "-", "_", ".", "0", "N0"))
	wantRead(t, "node p,q,a none", nodes(api.Vec{}, "p", "q", "a"))
	wantRead(t, "node m none\nnode l gpu=1\nnode k none", func(c *conf.Config) {
		nodes(api.Vec{}, "m")(c)
		nodes(api.Vec{Gpu: 1}, "l")(c)
		nodes(api.Vec{}, "k")(c)
	})
	// Names of 1, 32 and 33 bytes, with ranges and without.
	wantRead(t, "node m none", nodes(api.Vec{}, "m"))
	wantRead(t, "node "+node32+" none", nodes(api.Vec{}, node32))
	wantRead(t, "node "+node32[:30]+"[10-11] none", nodes(api.Vec{}, node32[:30]+"10", node32[:30]+"11"))
	wantRead(t, "node "+node32[:31]+"[8-9] none", nodes(api.Vec{}, node32[:31]+"8", node32[:31]+"9"))
	wantBehind(t, api.ErrForm,
		"node "+node33+" none",
		"node m,"+node33+" none",
		"node "+node33+",m none",
		"node "+node32[:31]+"[9-10] none",
		"node "+node32[:31]+"[09-10] none",
		"node "+node32+"[1] none",
		"node "+strings.Repeat(node32, 9)+" none",
	)
}

func TestParseOfListsThatMayNotBe(t *testing.T) {
	lists := []string{
		",", "n0,", ",n0", "n0,,n1", "[0-3]", "n[", "n[0", "n[0-", "n[0-3", "n[]", "n]", "n[0-3]]", "n[3-0]", "n[0-3]x", "n[0][1]", "n[-1]", "n[0--1]",
		"n[a]", "n[0,]", "n[,0]", "n[0;1]", "n*", "n0;n1", "n=0", "n/0", "n+", "n:0", "n\"", "n[1234567]", "n[0-1234567]", "n\x00", "n\xff", "\u00e9",
		// Of more names than a list may have, whether there are such nodes or not.
		"m[0-256]", "m[0-255],l", "n[0-999999]", strings.Repeat("n0,", 256) + "n0",
	}
	for _, list := range lists {
		wantBehind(t, api.ErrForm, "node "+list+" none", "part r "+list, "part r "+list+" max=2")
		if s, err := conf.Set(small(), list); s != bits.Of() || err != api.ErrForm {
			t.Errorf("Set(%q) = %v, %d", short(list), s, err)
		}
	}
}

func TestParseOfVectorsThatMayNotBe(t *testing.T) {
	for _, v := range []string{
		"x", "0", "1", "cpu", "cpu=", "cpu=0", "cpu=01", "cpu=-1", "cpu=+1", "cpu=x", "CPU=1", "None", "nonee", "none,cpu=1", "cpu=1,none", "cpu=1,", ",cpu=1", "cpu=1,,mem=1",
		"mem=1,cpu=1", "cpu=1,cpu=1", "cpu=1;mem=1", "disk=1", "cpu=1073741825", "mem=1073741825", "gpu=1073741825", "cpu=99999999999999999999", "cpu=1\x00", "cpu=1.5", "=", ",", "n0", "max=2",
	} {
		wantBehind(t, api.ErrForm, "node m "+v, "node n0 "+v, "node m[0-3] "+v)
	}
}

func TestParseOfNames(t *testing.T) {
	for _, name := range []string{"b", "7", "-", "_", "-b", "_b", "b-", "7b", "0", "--", "__", "node", "none", "n0", "max", name16, strings.Repeat("-", 16), strings.Repeat("9", 16)} {
		wantRead(t, "part "+name+" n2", func(c *conf.Config) { c.Parts = append(c.Parts, part(name, 2)) })
		wantRead(t, "qos "+name, func(c *conf.Config) { c.Qos = append(c.Qos, qos(name)) })
	}
	for _, name := range []string{name17, name16 + "-", strings.Repeat("b", 17), strings.Repeat("9", 100), "B", "bB", "b.c", "b,c", "b[1]", "b=", "max=2", "b\x00", "\u00e9", "b\u00e9", "\uff11", "\xff", "b:", "b/c", "*", "+b", "b'", "b`"} {
		wantBehind(t, api.ErrForm, "part "+name+" n2", "qos "+name, "part "+name+" n2 max=2", "qos "+name+" max=2")
	}
	// Each byte, alone and at each place.
	const may = "abcdefghijklmnopqrstuvwxyz0123456789-_"
	for c := range 256 {
		b := string([]byte{byte(c)})
		if strings.Contains(" \t\n#", b) {
			continue
		}
		names := []string{b + "z", "z" + b, "z" + b + "z", name16[1:] + b, b + name16[1:]}
		if !strings.Contains("apq", b) {
			// Alone these are there.
			names = append(names, b)
		}
		for _, name := range names {
			if strings.Contains(may, b) {
				wantRead(t, "part "+name+" n2", func(c *conf.Config) { c.Parts = append(c.Parts, part(name, 2)) })
				wantRead(t, "qos "+name, func(c *conf.Config) { c.Qos = append(c.Qos, qos(name)) })
			} else {
				wantBehind(t, api.ErrForm, "part "+name+" n2", "qos "+name)
			}
		}
	}
}

func TestParseOfOptions(t *testing.T) {
	aPart := func(max, time, prio int) func(c *conf.Config) {
		return func(c *conf.Config) {
			c.Parts = append(c.Parts, conf.Part{Name: "r", Nodes: bits.Of(2), Max: max, Time: time, Prio: prio})
		}
	}
	aQos := func(prio, max int) func(c *conf.Config) {
		return func(c *conf.Config) { c.Qos = append(c.Qos, conf.Qos{Name: "b", Prio: prio, Max: max}) }
	}
	// None, each alone, and in any order.
	wantRead(t, "part r n2", aPart(256, most, 0))
	wantRead(t, "part r n2 max=2", aPart(2, most, 0))
	wantRead(t, "part r n2 time=3", aPart(256, 3, 0))
	wantRead(t, "part r n2 prio=4", aPart(256, most, 4))
	wantRead(t, "part r n2 max=2 prio=4", aPart(2, most, 4))
	wantRead(t, "part r n2 prio=4 max=2", aPart(2, most, 4))
	wantRead(t, "part r n2 time=3 max=2", aPart(2, 3, 0))
	wantRead(t, "part r n2 prio=4 time=3", aPart(256, 3, 4))
	for _, options := range []string{"max=2 time=3 prio=4", "max=2 prio=4 time=3", "time=3 max=2 prio=4", "time=3 prio=4 max=2", "prio=4 max=2 time=3", "prio=4 time=3 max=2"} {
		wantRead(t, "part r n2 "+options, aPart(2, 3, 4))
	}
	wantRead(t, "qos b", aQos(0, 1024))
	wantRead(t, "qos b prio=5", aQos(5, 1024))
	wantRead(t, "qos b max=6", aQos(0, 6))
	wantRead(t, "qos b prio=5 max=6", aQos(5, 6))
	wantRead(t, "qos b max=6 prio=5", aQos(5, 6))
	// Those that are none, that come twice, that have no number, and that are no option at all.
	for _, o := range []string{
		"time=3", "min=1", "cap=2", "suspend=1", "name=x", "nodes=2", "max1=2", "maxx=2", "ma=2", "m=2", "Max=2", "MAX=2", "prios=4", "pri=4", "-max=2", "=", "=2", "==2",
		"max", "prio", "max=", "prio=", "max:2", "max2", "max-2", "max==2", "max=2=", "max=2=3", "max=,", "max=2,", "max=2,prio=4", "max=2;", "=max", "2=max", "max\x00=2",
		"max=2 max=2", "max=2 max=3", "prio=4 prio=4", "max=2 prio=4 max=2", "prio=4 max=2 prio=5", "max=2 max=", "max=2 max", "max= max=2", "prio=0 prio=0", "max=1 max=1 max=1",
	} {
		wantBehind(t, api.ErrForm, "qos b "+o, "qos b max=7 "+o, "qos b "+o+" prio=7")
		if o != "time=3" {
			wantBehind(t, api.ErrForm, "part r n2 "+o, "part r n2 time=3 "+o, "part r n2 "+o+" time=3")
		}
	}
	wantBehind(t, api.ErrForm, "part r n2 time=3 time=3", "part r n2 time=3 max=2 time=4", "part r n2 time=", "part r n2 time")
	// A key that has an option is no key that is set.
	wantBehind(t, api.ErrForm, "set max 2", "set prio 2", "set time 2", "set boot=2", "set boot =2", "set boot= 2", "set boot = 2")
}

func TestParseOfKeys(t *testing.T) {
	for key := range setBounds {
		wantRead(t, "set "+key+" 7", func(c *conf.Config) { *value(c, key) = 7 })
		wantBehind(t, api.ErrForm, "set "+strings.ToUpper(key)+" 7", "set "+key[1:]+" 7", "set "+key+"s 7", "set "+key+"=7", "set "+key+" "+key, "set 7 "+key, "set "+key+"= 7", key+" 7")
	}
	wantBehind(t, api.ErrForm, "set x 7", "set max 7", "set prio 7", "set time 7", "set names 7", "set node 7", "set = 7", "set 7 7", "set - 7", "set \x00 7")
}

func TestParseOfDigits(t *testing.T) {
	lines := []string{"set retry ", "part r n2 prio=", "qos b max="}
	// 1 to 7, with noughts ahead, too.
	for digits, n := range map[string]int{"1": 1, "9": 9, "10": 10, "01": 1, "100": 100, "0000001": 1, "0000010": 10, "0001000": 1000, "08": 8, "0000777": 777} {
		wantRead(t, lines[0]+digits, func(c *conf.Config) { c.Retry = n })
		wantRead(t, lines[1]+digits, func(c *conf.Config) {
			c.Parts = append(c.Parts, part("r", 2))
			c.Parts[2].Prio = n
		})
		wantRead(t, lines[2]+digits, func(c *conf.Config) {
			c.Qos = append(c.Qos, qos("b"))
			c.Qos[1].Max = n
		})
	}
	wantRead(t, "set retry 1000000", func(c *conf.Config) { c.Retry = most })
	wantRead(t, "set retry 0000000", func(c *conf.Config) { c.Retry = 0 })
	for _, line := range lines {
		for _, digits := range []string{"9999999", "1000001", "1234567", "8388608"} {
			wantBehind(t, api.ErrLimit, line+digits)
		}
		for _, digits := range []string{
			"00000001", "00000000", "10000000", "12345678", "99999999", "000000001", "18446744073709551617", "4294967297", strings.Repeat("9", 100),
			"-1", "+1", "-0", "1.0", "1,000", "1_000", "1e3", "0x1", "0b1", "0o7", "1x", "x1", "x", "one", "1-2", "'1'", "1;", "1/", "/1", "1:", ":", "\u0661", "\uff11", "1\x00", "\xb2", "1\xff",
		} {
			wantBehind(t, api.ErrForm, line+digits)
		}
	}
	for c := range 256 {
		b := string([]byte{byte(c)})
		if strings.Contains(" \t\n#0123456789", b) {
			continue
		}
		for _, line := range lines {
			wantBehind(t, api.ErrForm, line+b, line+"1"+b, line+b+"1", line+"1"+b+"1")
		}
	}
}

// wantBounds hold what Parse answers of a line that a number ends against its bound.
func wantBounds(t *testing.T, line string, b bound, put func(c *conf.Config, n int)) {
	t.Helper()
	for _, n := range []int{b.least, b.least + 1, (b.least + b.most) / 2, b.most - 1, b.most} {
		wantRead(t, line+strconv.Itoa(n), func(c *conf.Config) { put(c, n) })
	}
	for _, n := range []int{b.least - 1, b.most + 1, b.most + 2, 9999999} {
		if n >= 0 {
			wantBehind(t, api.ErrLimit, line+strconv.Itoa(n))
		}
	}
}

func TestParseOfBounds(t *testing.T) {
	for key, b := range setBounds {
		if key != "min" {
			wantBounds(t, "set "+key+" ", b, func(c *conf.Config, n int) { *value(c, key) = n })
		}
	}
	putPart := func(key string) func(c *conf.Config, n int) {
		return func(c *conf.Config, n int) {
			p := part("r", 2)
			*map[string]*int{"max": &p.Max, "time": &p.Time, "prio": &p.Prio}[key] = n
			c.Parts = append(c.Parts, p)
		}
	}
	for key, b := range partBounds {
		wantBounds(t, "part r n2 "+key+"=", b, putPart(key))
	}
	putQos := func(key string) func(c *conf.Config, n int) {
		return func(c *conf.Config, n int) {
			q := qos("b")
			*map[string]*int{"max": &q.Max, "prio": &q.Prio}[key] = n
			c.Qos = append(c.Qos, q)
		}
	}
	for key, b := range qosBounds {
		wantBounds(t, "qos b "+key+"=", b, putQos(key))
	}
	// Whichever option it is, and wherever.
	wantBehind(t, api.ErrLimit,
		"part r n2 max=0 time=3 prio=4", "part r n2 max=2 time=0 prio=4", "part r n2 max=2 time=3 prio=1001",
		"part r n2 prio=4 time=3 max=257", "part r n2 prio=4 time=1000001 max=2", "part r n2 prio=1001 time=3 max=2",
		"qos b prio=1001 max=6", "qos b prio=5 max=0", "qos b max=1025 prio=5", "qos b max=6 prio=1001",
	)
}

func TestParseOfMinAndCap(t *testing.T) {
	set := func(min, cap int) func(c *conf.Config) {
		return func(c *conf.Config) { c.Min, c.Cap = min, cap }
	}
	wantRead(t, "set min 0", set(0, 256))
	wantRead(t, "set min 256", set(256, 256))
	wantRead(t, "set cap 1", set(0, 1))
	wantRead(t, "set min 9\nset cap 9", set(9, 9))
	wantRead(t, "set cap 9\nset min 9", set(9, 9))
	wantRead(t, "set cap 10\nset min 9", set(9, 10))
	// Above it on the way alone: it is asked at last.
	wantRead(t, "set min 1000000\nset min 3", set(3, 256))
	wantRead(t, "set cap 9\nset min 10\nset cap 11", set(10, 11))
	wantRead(t, "set cap 9\nset min 10\nset min 8", set(8, 9))
	wantFaults(t, map[string]api.Fault{
		base + "set min 257":                       limit(0),
		base + "set min 258":                       limit(0),
		base + "set min 999999":                    limit(0),
		base + "set min 1000000":                   limit(0),
		base + "set min 1000001":                   limit(6),
		base + "set min 9999999":                   limit(6),
		base + "set min 10\nset cap 9":             limit(0),
		base + "set cap 9\nset min 10":             limit(0),
		base + "set min 2\nset cap 1\n":            limit(0),
		base + "set min 10\nset cap 9\nx":          form(8),
		base + "set min 10\nset cap 0":             limit(7),
		base + "set min 300\nset cap 300":          limit(7),
		base + "set cap 20\nset min 10\nset cap 9": limit(0),
		base + "set min 300\nnode n0 none":         there(7),
	})
}

func TestParseOfKeysThatAreSetSeveralTimes(t *testing.T) {
	for key := range setBounds {
		wantRead(t, "set "+key+" 7\nset "+key+" 8", func(c *conf.Config) { *value(c, key) = 8 })
		wantRead(t, "set "+key+" 8\nset "+key+" 8\nset "+key+" 7", func(c *conf.Config) { *value(c, key) = 7 })
		wantFault(t, base+"set "+key+" 9999999\nset "+key+" 8", limit(6))
		wantFault(t, base+"set "+key+" 7\nset "+key+" 9999999\nset "+key+" 8", limit(7))
	}
	wantRead(t, "set boot 7\nset stop 8\nset boot 9", func(c *conf.Config) { c.Boot, c.Stop = 9, 8 })
}

func TestParseOfNamesThatAreNoNodes(t *testing.T) {
	wantBehind(t, api.ErrNone,
		"part r n4", "part r m", "part r n", "part r N0", "part r n00", "part r n01", "part r n0.", "part r n[0-4]", "part r n[3-5]", "part r n[00-03]", "part r n0,n1,n4", "part r m,n0", "part r n0,m,n1",
		"part r p", "part r q", "part r a", "part r cpu", "part r "+node32, "part r "+node33, "part r n[0-255]", "part r n4 max=2 time=3 prio=4",
	)
	// By then: lines are read from the first one on.
	wantFaults(t, map[string]api.Fault{
		"part p n0\nnode n0 none":                          none(1),
		"\n\npart p n0\nnode n0 none":                      none(3),
		"node n0 none\npart p n[0-1]\nnode n1 none":        none(2),
		"node n0 none\npart p n0\npart q n1\nnode n1 none": none(3),
		"part p n0":                      none(1),
		"set boot 7\nqos a\npart p n0\n": none(3),
		"node n[1-3] none\npart p n[1-3]\npart q n[0-3]":      none(3),
		"node n[07-08] none\npart p n[7-8]":                   none(2),
		"node n[7-8] none\npart p n[07-08]":                   none(2),
		"node n0 none\npart p n0\n#node n1 none\npart q n1":   none(4),
		"node n0 none\npart p n0 #,n1\npart q n0,n1\nset x 7": none(3),
	})
	wantRead(t, "node m none\npart r m,n0", func(c *conf.Config) {
		nodes(api.Vec{}, "m")(c)
		c.Parts = append(c.Parts, part("r", 0, 4))
	})
}

func TestParseOfPartitionsNodes(t *testing.T) {
	for list, numbers := range map[string][]int{
		"n0":             {0},
		"n3":             {3},
		"n[0-3]":         {0, 1, 2, 3},
		"n[1-2]":         {1, 2},
		"n3,n0":          {0, 3},
		"n[2-3,0-1]":     {0, 1, 2, 3},
		"n3,n2,n1,n0":    {0, 1, 2, 3},
		"n1,n1":          {1},
		"n[1,1,1]":       {1},
		"n[0-2],n[1-3]":  {0, 1, 2, 3},
		"n2,n[0-3],n2":   {0, 1, 2, 3},
		"n[1-2],n1,n[2]": {1, 2},
	} {
		wantRead(t, "part r "+list, func(c *conf.Config) { c.Parts = append(c.Parts, part("r", numbers...)) })
	}
	// By the nodes' numbers, whatever their names tell.
	wantRead(t, "node z,y,n9,n8 none\npart r z,n8", func(c *conf.Config) {
		nodes(api.Vec{}, "z", "y", "n9", "n8")(c)
		c.Parts = append(c.Parts, part("r", 4, 7))
	})
}

func TestParseOfWhatIsThere(t *testing.T) {
	wantBehind(t, api.ErrThere,
		// Nodes, of another line, or twice in one list.
		"node n0 none", "node n3 cpu=4", "node n[0-3] cpu=4", "node n[3-4] none", "node m,n2 none", "node n2,m none", "node m[1-9],n[1],l none",
		"node m,m none", "node m,l,m none", "node m[1,1] none", "node m[1-3,2] none", "node m[1-3],m2 none", "node m2,m[1-3] none", "node m[07-08],m08 none", "node n0,n0 none",
		// Partitions and qualities.
		"part p n0", "part q n[0-3]", "part p n[0-3]", "part p n0 max=3 time=4 prio=5", "qos a", "qos a prio=1", "qos a prio=7 max=9",
	)
	wantFaults(t, map[string]api.Fault{
		"node n0 none\nnode n0 none\npart p n0":                        there(2),
		"node n0 none\npart p n0\nnode n0 none":                        there(3),
		"node n0,n0 none\npart p n0":                                   there(1),
		"node n0 none\npart p n0\npart q n0\npart p n0":                there(4),
		"qos a\nqos b\nqos a":                                          there(3),
		"qos a\nqos b\nqos b max=7\nqos a":                             there(3),
		"node n0 none\n\nnode m[0-2] none\n#\nnode m[2-4] none\nx":     there(5),
		"qos " + name16 + "\nqos " + name16:                            there(2),
		"node n0 none\npart " + name16 + " n0\npart " + name16 + " n0": there(3),
	})
	// What only looks so is none, and what is of another kind neither.
	wantRead(t, "node n00,N0,n,n0.,n-0 none", nodes(api.Vec{}, "n00", "N0", "n", "n0.", "n-0"))
	wantRead(t, "node m[7-8],m[07-08] none", nodes(api.Vec{}, "m7", "m8", "m07", "m08"))
	wantRead(t, "node p,q,a none", nodes(api.Vec{}, "p", "q", "a"))
	for _, name := range []string{"a", "n0", "p-", "pp"} {
		wantRead(t, "part "+name+" n2", func(c *conf.Config) { c.Parts = append(c.Parts, part(name, 2)) })
	}
	for _, name := range []string{"p", "n0", "aa", "a-"} {
		wantRead(t, "qos "+name, func(c *conf.Config) { c.Qos = append(c.Qos, qos(name)) })
	}
}

// repeat are so many lines, each with its number, from 0 on, in place of a sign.
func repeat(count int, line string) string {
	var b strings.Builder
	for i := range count {
		b.WriteString(strings.ReplaceAll(line, "@", strconv.Itoa(i)) + "\n")
	}
	return b.String()
}

func TestParseOf256Nodes(t *testing.T) {
	c := untold(256)
	c.Parts = []conf.Part{part("p", 0)}
	for _, s := range []string{
		"node n[0-255] cpu=1\n",
		"node n[0-254] cpu=1\nnode n255 cpu=1\n",
		"node n0 cpu=1\nnode n[1-255] cpu=1\n",
		"node n[0-99] cpu=1\nnode n[100-199],n[200-255] cpu=1\n",
		repeat(256, "node n@ cpu=1"),
	} {
		wantConfig(t, s+"part p n0", c)
	}
	c.Parts = []conf.Part{part("p", 63, 64, 127, 128, 191, 192, 255)}
	wantConfig(t, "node n[0-255] cpu=1\npart p n[63-64,127-128,191-192,255]", c)
	c.Parts[0].Nodes = bits.Span(0, 255)
	wantConfig(t, "node n[0-255] cpu=1\npart p n[0-255]", c)
}

func TestParseOfTooManyNodes(t *testing.T) {
	const all = "node n[0-255] cpu=1\n"
	wantFaults(t, map[string]api.Fault{
		all + "node m cpu=1\npart p n0":                           many(2),
		all + "part p n0\nnode m cpu=1":                           many(3),
		all + "part p n0\nnode m[0-255] cpu=1":                    many(3),
		"node m none\n" + all + "part p n0":                       many(2),
		"node m[1-2] none\nnode n[0-254] cpu=1\npart p n0":        many(2),
		"node n[0-99] none\nnode m[0-99] none\nnode l[0-56] none": many(3),
		repeat(257, "node n@ none") + "part p n0":                 many(257),
		repeat(300, "node n@ none") + "part p n0":                 many(257),
		"#\n\n" + repeat(300, "node n@ none") + "part p n0":       many(259),
		// What goes ahead of it, in the line and in one before.
		all + "node n0 cpu=1\npart p n0":            there(2),
		all + "node n255 cpu=1\npart p n0":          there(2),
		all + "node m,m cpu=1\npart p n0":           there(2),
		all + "node m,n77 cpu=1\npart p n0":         there(2),
		all + "node m x\npart p n0":                 form(2),
		all + "node m\npart p n0":                   form(2),
		all + "node m, cpu=1\npart p n0":            form(2),
		all + "node m[0-256] cpu=1\npart p n0":      form(2),
		all + "node " + node33 + " none\npart p n0": form(2),
		all + "set boot 0\nnode m cpu=1\npart p n0": limit(2),
		all + "part p n256":                         none(2),
		all + "part p n[1-256]":                     none(2),
		// A list of more than 256 names may not be.
		"node n[0-256] cpu=1\npart p n0":   form(1),
		"node n[0-255],m cpu=1\npart p n0": form(1),
		all + "part p n[0-255],n0":         form(2),
	})
}

func TestParseOfTooManyPartitions(t *testing.T) {
	c := untold(1)
	for i := range 16 {
		c.Parts = append(c.Parts, part("p"+strconv.Itoa(i), 0))
	}
	node := "node n0 cpu=1\n"
	all := node + repeat(16, "part p@ n0")
	wantConfig(t, all, c)
	wantFaults(t, map[string]api.Fault{
		node + repeat(17, "part p@ n0"):                          many(18),
		node + repeat(30, "part p@ n0"):                          many(18),
		node + "\n" + repeat(17, "#\npart p@ n0"):                many(36),
		all + "part q n0 max=0":                                  many(18),
		all + "part q n0 prio=9999999":                           many(18),
		all + "part p0 n0":                                       there(18),
		all + "part p15 n0 max=0":                                there(18),
		all + "part q n1":                                        none(18),
		all + "part p0 n1":                                       none(18),
		all + "part q n0 min=1":                                  form(18),
		all + "part q":                                           form(18),
		node + repeat(15, "part p@ n0") + "part q n0 max=0":      limit(17),
		node + repeat(15, "part p@ n0") + "part q n0\npart r n0": many(18),
		// Qualities are none of them.
		repeat(16, "qos q@") + all + "part q n0": many(34),
		repeat(16, "qos q@") + all + "x":         form(34),
	})
}

func TestParseOfTooManyQualities(t *testing.T) {
	c := untold(1)
	c.Parts = []conf.Part{part("p", 0)}
	two := "node n0 cpu=1\npart p n0\n"
	wantConfig(t, two, c)
	for i := range 16 {
		c.Qos = append(c.Qos, qos("q"+strconv.Itoa(i)))
	}
	all := two + repeat(16, "qos q@")
	wantConfig(t, all, c)
	wantConfig(t, repeat(16, "qos q@")+two, c)
	wantFaults(t, map[string]api.Fault{
		repeat(17, "qos q@") + two:                  many(17),
		two + repeat(17, "qos q@"):                  many(19),
		two + repeat(30, "qos q@ prio=3 # 7"):       many(19),
		all + "qos r max=0":                         many(19),
		all + "qos r prio=1001":                     many(19),
		all + "qos q0":                              there(19),
		all + "qos q15 max=0":                       there(19),
		all + "qos r time=1":                        form(19),
		all + "qos Q0":                              form(19),
		two + repeat(15, "qos q@") + "qos r max=0":  limit(18),
		two + repeat(15, "qos q@") + "qos r\nqos s": many(19),
		// Partitions are none of them.
		all + repeat(15, "part q@ n0") + "qos r": many(34),
		all + repeat(15, "part q@ n0") + "x":     form(34),
	})
}

func TestParseOfAConfigThatMayNotBeAsAWhole(t *testing.T) {
	wantFaults(t, map[string]api.Fault{
		// Without a node there is no partition, either.
		"set boot 7":                           limit(0),
		"qos a":                                limit(0),
		"qos a\nset boot 7\nset cap 9\n":       limit(0),
		"node n0 none":                         limit(0),
		"node n[0-255] none\n":                 limit(0),
		"node n0 none\nqos a\nset boot 7":      limit(0),
		"node n0 none\n# part p n0":            limit(0),
		"node n0 none\nset min 9\nset cap 8":   limit(0),
		base + "set min 9\nset cap 8\nqos b\n": limit(0),
		// Ahead of it goes what is wrong of a line.
		"qos a\nx":                   form(2),
		"set boot 0":                 limit(1),
		"node n0 none\nset boot 0":   limit(2),
		"node n0 none\nnode n0 none": there(2),
		"node n0 none\nqos a max=0":  limit(2),
		"node n0 none\nset min 9\nset cap 8\npart p n1":  none(4),
		base + "set min 9\nset cap 8\nqos b\nset stop 0": limit(9),
	})
}

func TestParseOfSeveralFaultsInALine(t *testing.T) {
	wantBehind(t, api.ErrForm,
		// Beside what is there.
		"node n0 x", "node n0", "node n0,n0 none none", "node n0,n1, none", "node n0,"+node33+" none", "node "+node33+",n0 none",
		"part p n0 x", "part p", "part p n0, max=2", "part p n0 max=2 max=2", "part q n0 time=x", "qos a x", "qos a prio=", "qos a prio=1 prio=1",
		// Beside a name that is no node.
		"part r n4 x", "part r m max=", "part r m max=2 max=2", "part R m", "part "+name17+" m", "part r m,", "part r m[0-256]",
		// Beside a number that is not as it may be.
		"part r n0 max=0 x", "part r n0 x max=0", "part r n0 max=0 max=1", "part r n0 max=0 time=12345678", "part R n0 max=0", "part r n0, max=0",
		"qos b max=0 x", "qos b x max=0", "qos b prio=9999999 max=00000001", "qos B max=0", "set boot 0 0", "set boo 0", "set boot 00000000", "set max 9999999",
		// Beside several of these.
		"part p n4 max=0 x", "part p n4 x=0 max=0", "part r n4 max=0 max=0", "qos a max=0 x", "node n0,n0 none x",
	)
	wantBehind(t, api.ErrNone, "part p n4", "part p m max=0", "part r m max=0", "part r n[0-4] time=0 prio=9999999", "part q n0,m time=0")
	wantBehind(t, api.ErrThere, "part p n0 max=0", "part q n0 max=257 time=0 prio=1001", "qos a max=0", "qos a prio=1001 max=1025")
	wantBehind(t, api.ErrLimit, "part r n0 max=0", "qos b max=0", "set boot 0")
}

func TestParseOfFaultsInSeveralLines(t *testing.T) {
	lines := map[string]api.Errno{
		"x": api.ErrForm, "node m": api.ErrForm, "part r n0 x": api.ErrForm, "qos b x": api.ErrForm, "set boot x": api.ErrForm,
		"part r m": api.ErrNone, "node n0 none": api.ErrThere, "part p n0": api.ErrThere, "qos a": api.ErrThere, "node l[0-252] none": api.ErrMany,
		"part r n0 max=0": api.ErrLimit, "qos b max=0": api.ErrLimit, "set boot 0": api.ErrLimit,
	}
	for first, why := range lines {
		for second := range lines {
			wantFault(t, base+first+"\n"+second, api.Fault{Why: why, At: 6})
			wantFault(t, base+"\nset cap 2\n"+first+"\n#\n"+second+"\nset min 3", api.Fault{Why: why, At: 8})
		}
	}
}

// pick is one of some.
func pick[T any](r *rand.Rand, l ...T) T { return l[r.Intn(len(l))] }

// someNumber is a number's text: mostly one that may be, of a bound.
func someNumber(r *rand.Rand, b bound) string {
	switch r.Intn(16) {
	case 0:
		return pick(r, "", "x", "-1", "+1", "12345678", "00000001", "1x")
	case 1:
		return strconv.Itoa(pick(r, max(b.least-1, 0), b.most+1, 0, 9999999))
	case 2:
		return "0" + strconv.Itoa(b.least)
	}
	return strconv.Itoa(pick(r, b.least, b.most, b.least+r.Intn(b.most-b.least+1)))
}

// someName is a name: mostly one that may be, of few.
func someName(r *rand.Rand) string {
	if r.Intn(30) == 0 {
		return pick(r, "P", "p.q", name16, name17, "p,q", "=", "max=2")
	}
	return pick(r, "p", "q", "r", "s", "-", "_7", "n0") + pick(r, "", "", "0", "1", "2", "-")
}

// someList is a list of names with some prefixes: mostly one that may be.
func someList(r *rand.Rand, prefixes ...string) string {
	var parts []string
	for range 1 + r.Intn(3) {
		p := pick(r, prefixes...)
		switch first := r.Intn(12); r.Intn(4) {
		case 0:
			p += strconv.Itoa(first)
		case 1:
			p += "[" + strconv.Itoa(first) + "]"
		case 2:
			p += "[" + strconv.Itoa(first) + "-" + strconv.Itoa(first+r.Intn(1<<r.Intn(8))) + "]"
		case 3:
			p += "[" + pick(r, "", "", "0") + strconv.Itoa(first) + "-" + strconv.Itoa(first+2) + "," + strconv.Itoa(15+first) + "]"
		}
		parts = append(parts, p)
	}
	if r.Intn(40) == 0 {
		parts = append(parts, pick(r, "", "[1]", "n[", "n[2-1]", "n[0-300]", node32, node33, "n+"))
	}
	return strings.Join(parts, ",")
}

// someOptions are options: mostly ones that may be.
func someOptions(r *rand.Rand, bounds map[string]bound) string {
	keys := slices.Sorted(maps.Keys(bounds))
	r.Shuffle(len(keys), func(i, j int) { keys[i], keys[j] = keys[j], keys[i] })
	s := ""
	for _, key := range keys[:r.Intn(len(keys)+1)] {
		s += pick(r, " ", " ", "\t", "  ") + key + "=" + someNumber(r, bounds[key])
	}
	if r.Intn(30) == 0 {
		s += pick(r, " max=2", " prio=3", " time=4", " max", " x=1", " n0", " =")
	}
	return s
}

// someLine is a line of any kind; the first one tells nodes whose names begin with n, and the second one mostly a partition.
func someLine(r *rand.Rand, line int) string {
	if line == 0 {
		return "node n[0-" + strconv.Itoa(pick(r, 30, 255, 30+r.Intn(226))) + "] " + pick(r, "cpu=1", "none")
	}
	kind := r.Intn(10)
	if line == 1 && r.Intn(3) > 0 {
		kind = 2
	}
	switch kind {
	case 0, 1:
		own := string("abcdefghijkl"[line])
		return "node " + someList(r, own, own, own+"x", pick(r, own, "n")) + " " + pick(r, "none", "cpu=4", "cpu=2,mem=9", "gpu=1", pick(r, "none", "cpu=0", "x"))
	case 2, 3, 4:
		return "part " + someName(r) + " " + someList(r, "n", "n", "n", "n", "n", pick(r, "n", "n", "b", "c")) + someOptions(r, partBounds)
	case 5, 6:
		return "qos " + someName(r) + someOptions(r, qosBounds)
	case 7, 8:
		key := pick(r, slices.Sorted(maps.Keys(setBounds))...)
		b := setBounds[key]
		if key == "min" && r.Intn(4) > 0 {
			b.most = 256
		}
		return "set " + key + " " + someNumber(r, b)
	}
	return pick(r, "", "", " ", "\t", "# x", pick(r, "x", "nodes m none", "set boot"))
}

// someText is a text of which much may be, and some not.
func someText(r *rand.Rand) string {
	var lines []string
	for i := range 1 + r.Intn(10) {
		s := someLine(r, i)
		if r.Intn(8) == 0 {
			s = pick(r, " ", "\t", "") + s + pick(r, " ", "#", " # x", "\t")
		}
		lines = append(lines, s)
	}
	s := strings.Join(lines, "\n") + pick(r, "", "\n")
	if r.Intn(6) > 0 {
		return s
	}
	at := r.Intn(len(s))
	return s[:at] + pick(r, "", "0", "#", " ", "\n", "=", ",", "n0", "x") + s[at+r.Intn(2):]
}

// wantModel holds what Parse answers of a text against the model, and tells the fault.
func wantModel(t *testing.T, s string) api.Fault {
	t.Helper()
	c, f := modelParse(s)
	if f != noFault {
		wantFault(t, s, f)
	} else {
		wantConfig(t, s, c)
	}
	return f
}

func TestParseAsTheModel(t *testing.T) {
	r := rand.New(rand.NewSource(1))
	seen, wholes := map[api.Errno]int{}, 0
	for range 10000 {
		f := wantModel(t, someText(r))
		seen[f.Why]++
		if f == limit(0) {
			wholes++
		}
	}
	for _, why := range []api.Errno{api.OK, api.ErrForm, api.ErrNone, api.ErrThere, api.ErrMany, api.ErrLimit} {
		if seen[why] < 200 || wholes < 200 {
			t.Errorf("the faults were %v, %d of them of the whole", seen, wholes)
		}
	}
}

func TestParseOfEachByteAtEachPlace(t *testing.T) {
	const s = "node n[0-3] cpu=4\npart p n0 max=2\nqos a prio=7\nset boot 12"
	for at := range len(s) + 1 {
		wantModel(t, s[:at])
		wantModel(t, s[at:])
		for c := range 256 {
			b := string([]byte{byte(c)})
			wantModel(t, s[:at]+b+s[at:])
			if at < len(s) {
				wantModel(t, s[:at]+b+s[at+1:])
			}
		}
	}
}

// P9.3: what is parsed may be.
func TestWhatIsParsedMayBe(t *testing.T) {
	r := rand.New(rand.NewSource(3))
	held := 0
	for range 8000 {
		s := someText(r)
		c, f := conf.Parse(s)
		// What is answered with a fault is no config.
		if (f == noFault) != conf.Right(c) || (f == noFault) != modelRight(c) {
			t.Fatalf("Parse(%q) = %v, %v: whether it is right is %v", s, c, f, conf.Right(c))
		}
		if f == noFault {
			held++
		}
	}
	if held < 500 {
		t.Errorf("there were %d texts that may be", held)
	}
}

// R4: no two answers share anything.
func TestParsedConfigsAreTheCallers(t *testing.T) {
	for _, s := range []string{base, "node n[0-255] cpu=1\npart p n[0-255]", "node n0 none\n" + repeat(16, "part p@ n0") + repeat(16, "qos q@")} {
		first, _ := conf.Parse(s)
		again, _ := conf.Parse(s)
		want := clone(first)
		scrawl(first)
		if !alike(again, want) {
			t.Errorf("Parse(%q) = %v turned with another one's answer", short(s), again)
		}
		wantConfig(t, s, want)
	}
}

// R3: the same calls have the same answers.
func TestTheSameTextsHaveTheSameConfigs(t *testing.T) {
	want, _ := conf.Parse(base)
	for range 3 {
		wantConfig(t, base, want)
		wantFault(t, base+base, there(6))
		wantFault(t, base+"set boot 0", limit(6))
		wantFault(t, base+"set min 257", limit(0))
	}
}
