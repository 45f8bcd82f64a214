package source_test

import (
	"fmt"
	"math/rand/v2"
	"reflect"
	"regexp"
	"slices"
	"strconv"
	"strings"
	"testing"

	"remontoir/api"
	"remontoir/image"
	"remontoir/source"
)

// is holds what Parse answers of a text that says an image, each time the same.
func is(t *testing.T, text string, want api.Image) {
	t.Helper()
	for range 2 {
		if x, at, e := source.Parse(text); !image.Same(x, want) || at != 0 || e != api.OK {
			t.Errorf("Parse(%.300q): %+v, %d, %v, not %+v", text, x, at, e, want)
		}
	}
}

// isNone holds what Parse answers of a text that says none.
func isNone(t *testing.T, text string, want int) {
	t.Helper()
	for range 2 {
		if x, at, e := source.Parse(text); !image.Same(x, api.Image{}) || at != want || e != api.ErrLine {
			t.Errorf("Parse(%.300q): %+v, %d, %v, not line %d", text, x, at, e, want)
		}
	}
}

// textOf: an image's text, told by the chapter's words one by one.
func textOf(x api.Image) string {
	s := fmt.Sprintf("res %d\n", x.Res)
	for _, k := range x.Tasks {
		s += fmt.Sprintf("task %d %d %d", k.Period, k.Deadline, k.Cost)
		for r, n := range k.Longest {
			if n > 0 {
				s += fmt.Sprintf(" %d:%d", r, n)
			}
		}
		s += "\n"
	}
	for _, m := range x.Modes {
		s += "mode"
		for task := range 32 {
			if m.Tasks&(1<<task) != 0 {
				s += fmt.Sprintf(" %d", task)
			}
		}
		s += "\n"
		for _, q := range m.Queues {
			s += fmt.Sprintf("queue %d %s\n", q.Cap, map[api.Policy]string{1: "refuse", 2: "old", 3: "new"}[q.Policy])
		}
	}
	for _, e := range x.Edges {
		s += fmt.Sprintf("edge %d %d %s", e.From, e.To, map[api.Protocol]string{1: "idle", 2: "longest", 3: "apart"}[e.Protocol])
		for q, n := range e.Map {
			if n > 0 {
				s += fmt.Sprintf(" %d>%d", q, n)
			}
		}
		for k, n := range e.Offsets {
			if n > 0 {
				s += fmt.Sprintf(" %d:%d", k, n)
			}
		}
		s += "\n"
	}
	return s
}

// random: an image that may be.
func random(t *testing.T, r *rand.Rand) api.Image {
	t.Helper()
	x := api.Image{Res: r.IntN(9)}
	for range 1 + r.IntN(16) {
		k := api.Task{Period: 1 + r.IntN(4096)}
		k.Deadline = 1 + r.IntN(k.Period)
		k.Cost = 1 + r.IntN(k.Deadline)
		for res := range x.Res {
			k.Longest[res] = max(r.IntN(2*k.Cost)-k.Cost+1, 0)
		}
		x.Tasks = append(x.Tasks, k)
	}
	for range 1 + r.IntN(8) {
		m := api.Mode{Tasks: r.Uint32() & (1<<len(x.Tasks) - 1)}
		for range r.IntN(5) {
			m.Queues = append(m.Queues, api.Queue{Cap: 1 + r.IntN(16), Policy: api.Policy(1 + r.IntN(3))})
		}
		x.Modes = append(x.Modes, m)
	}
	for range r.IntN(40) {
		e := edge(r, x)
		if _, there := image.Edge(x, e.From, e.To); e.From != e.To && !there && len(x.Edges) < 24 {
			x.Edges = append(x.Edges, e)
		}
	}
	if at, e := image.Check(x); e != api.OK {
		t.Fatalf("%+v: %d, %v", x, at, e)
	}
	return x
}

// edge: an edge between two of an image's modes.
func edge(r *rand.Rand, x api.Image) api.Edge {
	e := api.Edge{From: r.IntN(len(x.Modes)), To: r.IntN(len(x.Modes)), Protocol: api.Protocol(1 + r.IntN(3))}
	from, to := x.Modes[e.From], x.Modes[e.To]
	for place, n := range r.Perm(len(to.Queues)) {
		if place < len(from.Queues) && r.IntN(3) > 0 {
			e.Map[place] = n + 1
		}
	}
	for task := range x.Tasks {
		if e.Protocol == api.Apart && (to.Tasks&^from.Tasks)>>task&1 == 1 {
			e.Offsets[task] = r.IntN(3) / 2 * r.IntN(1<<14+1)
		}
	}
	return e
}

// full: an image that has some of all.
func full() api.Image {
	x := api.Image{Res: 8}
	x.Tasks = []api.Task{{Period: 4096, Deadline: 4000, Cost: 100}, {Period: 1, Deadline: 1, Cost: 1}, {Period: 30, Deadline: 20, Cost: 10}}
	x.Tasks[0].Longest = [8]int{100, 0, 1, 2, 3, 4, 5, 99}
	x.Tasks[2].Longest[4] = 7
	x.Modes = []api.Mode{
		{Tasks: 5, Queues: []api.Queue{{Cap: 1, Policy: api.Refuse}, {Cap: 16, Policy: api.DropOld}, {Cap: 3, Policy: api.DropNew}}},
		{Tasks: 7, Queues: []api.Queue{{Cap: 4, Policy: api.DropNew}, {Cap: 5, Policy: api.DropNew}, {Cap: 6, Policy: api.DropNew}, {Cap: 7, Policy: api.Refuse}}},
		{},
	}
	x.Edges = []api.Edge{{From: 0, To: 1, Protocol: api.Apart, Map: [4]int{4, 0, 1}}, {From: 2, To: 0, Protocol: api.Idle}, {From: 1, To: 2, Protocol: api.Longest}, {From: 2, To: 1, Protocol: api.Apart}}
	x.Edges[0].Offsets[1] = 1 << 14
	x.Edges[3].Offsets = [16]int{3, 0, 9}
	return x
}

// fullText is the text of full.
const fullText = `res 8
task 4096 4000 100 0:100 2:1 3:2 4:3 5:4 6:5 7:99
task 1 1 1
task 30 20 10 4:7
mode 0 2
queue 1 refuse
queue 16 old
queue 3 new
mode 0 1 2
queue 4 new
queue 5 new
queue 6 new
queue 7 refuse
mode
edge 0 1 apart 0>4 2>1 1:16384
edge 2 0 idle
edge 1 2 longest
edge 2 1 apart 0:3 2:9
`

// P12.2: the text of an image that has some of all, and of one that has as little as may be.
func TestPrint(t *testing.T) {
	x := full()
	if at, e := image.Check(x); e != api.OK {
		t.Fatal(at, e)
	}
	for range 2 {
		if s := source.Print(x); s != fullText {
			t.Errorf("%s, not %s", s, fullText)
		}
	}
	if !reflect.DeepEqual(x, full()) {
		t.Errorf("the image is changed to %+v", x)
	}
	is(t, fullText, x)
	x = api.Image{Tasks: []api.Task{{Period: 1, Deadline: 1, Cost: 1}}, Modes: []api.Mode{{}}}
	if s := source.Print(x); s != "res 0\ntask 1 1 1\nmode\n" {
		t.Error(s)
	}
}

// P12.2: what lies behind the lengths of lists isn't printed.
func TestPrintLengths(t *testing.T) {
	x := full()
	x.Tasks, x.Modes, x.Edges = x.Tasks[:2], x.Modes[:1], x.Edges[:0]
	x.Modes[0].Tasks, x.Modes[0].Queues = 2, x.Modes[0].Queues[:1]
	if s := source.Print(x); s != "res 8\ntask 4096 4000 100 0:100 2:1 3:2 4:3 5:4 6:5 7:99\ntask 1 1 1\nmode 1\nqueue 1 refuse\n" {
		t.Error(s)
	}
}

// P12.2: each task of a mode, each resource, each queue and each offset by itself.
func TestPrintPlaces(t *testing.T) {
	for place := range 16 {
		x := api.Image{Res: 8, Tasks: slices.Repeat([]api.Task{{Period: 9, Deadline: 9, Cost: 9}}, 16)}
		queues := slices.Repeat([]api.Queue{{Cap: 1, Policy: api.Refuse}}, 4)
		x.Modes = []api.Mode{{Queues: queues}, {Tasks: 1 << place, Queues: queues}}
		x.Edges = []api.Edge{{From: 0, To: 1, Protocol: api.Apart}}
		x.Edges[0].Offsets[place] = 7
		x.Edges[0].Map[place%4] = 1 + place/4
		x.Tasks[place].Longest[place%8] = 5
		if at, e := image.Check(x); e != api.OK {
			t.Fatal(at, e)
		}
		if s, want := source.Print(x), textOf(x); s != want {
			t.Errorf("%s, not %s", s, want)
		}
		is(t, textOf(x), x)
	}
}

// P12.2, P12.3: whatever images may be.
func TestMixture(t *testing.T) {
	r := rand.New(rand.NewPCG(12, 1))
	edges := 0
	for range 3000 {
		x := random(t, r)
		given := image.Copy(x)
		s := source.Print(x)
		if want := textOf(x); s != want || source.Print(x) != want {
			t.Fatalf("%s, not %s", s, want)
		}
		if !image.Same(x, given) {
			t.Fatalf("%+v is changed to %+v", given, x)
		}
		is(t, s, x)
		edges += len(x.Edges)
	}
	if edges < 3000 {
		t.Errorf("%d edges", edges)
	}
}

// P12.1: what stands about the lines counts for nothing: blanks, remarks, lines without pieces, a byte 10 at the end.
func TestParseAbout(t *testing.T) {
	want := api.Image{Res: 1, Tasks: []api.Task{{Period: 10, Deadline: 8, Cost: 2, Longest: [8]int{1}}}, Modes: []api.Mode{{Tasks: 1}}}
	for _, s := range []string{
		"res 1\ntask 10 8 2 0:1\nmode 0\n",
		"res 1\ntask 10 8 2 0:1\nmode 0",
		"\n\nres 1\n\n\ntask 10 8 2 0:1\n\nmode 0\n\n\n",
		"  res   1  \n task  10 8   2 0:1\n   mode 0 ",
		"# an image\n#\n   # res 2\nres 1# one\ntask 10 8 2 #\n",
		"res 1 # task 1 1 1\ntask 10 8 2 0:1 1:1 # 2:1\nmode 0 #1\n#queue 1 old\n",
	} {
		switch {
		case strings.Contains(s, "1:1"):
			x := image.Copy(want)
			x.Tasks[0].Longest[1] = 1
			is(t, s, x)
		case strings.Contains(s, "an image"):
			is(t, s, api.Image{Res: 1, Tasks: []api.Task{{Period: 10, Deadline: 8, Cost: 2}}})
		default:
			is(t, s, want)
		}
	}
}

// P12.1: an image need not be one that may be.
func TestParseAny(t *testing.T) {
	most := 1<<31 - 1
	for _, c := range []struct {
		s    string
		want api.Image
	}{
		{"res 0", api.Image{}},
		{"res 9", api.Image{Res: 9}},
		{"res 2147483647", api.Image{Res: most}},
		{"res 0\nmode", api.Image{Modes: []api.Mode{{}}}},
		{"res 0\nmode 31 0 16", api.Image{Modes: []api.Mode{{Tasks: 1<<31 | 1<<16 | 1}}}},
		{"res 0\ntask 0 0 0", api.Image{Tasks: []api.Task{{}}}},
		{"res 0\ntask 1 2 3", api.Image{Tasks: []api.Task{{Period: 1, Deadline: 2, Cost: 3}}}},
		{"res 0\ntask 2147483647 2147483647 2147483647 7:2147483647 0:1", api.Image{Tasks: []api.Task{{Period: most, Deadline: most, Cost: most, Longest: [8]int{1, 0, 0, 0, 0, 0, 0, most}}}}},
		{"res 0\nmode\nqueue 0 new\nqueue 2147483647 old", api.Image{Modes: []api.Mode{{Queues: []api.Queue{{Policy: api.DropNew}, {Cap: most, Policy: api.DropOld}}}}}},
		{"res 0\nedge 0 0 idle", api.Image{Edges: []api.Edge{{Protocol: api.Idle}}}},
		{"res 0\nedge 9 2147483647 longest 3>2147483647 0>1 15:2147483647", api.Image{Edges: []api.Edge{{From: 9, To: most, Protocol: api.Longest, Map: [4]int{1, 0, 0, most}, Offsets: [16]int{15: most}}}}},
		{"res 0\nedge 1 2 apart 1>5 2>5 14:5 13:5", api.Image{Edges: []api.Edge{{From: 1, To: 2, Protocol: api.Apart, Map: [4]int{0, 5, 5}, Offsets: [16]int{13: 5, 14: 5}}}}},
	} {
		is(t, c.s, c.want)
		is(t, c.s+"\n", c.want)
	}
	many := slices.Repeat([]string{"task 1 1 1", "mode 0", "queue 1 old", "edge 0 1 idle"}, 40)
	x, at, e := source.Parse("res 1\n" + strings.Join(many, "\n"))
	if at != 0 || e != api.OK || len(x.Tasks) != 40 || len(x.Modes) != 40 || len(x.Edges) != 40 || len(x.Modes[39].Queues) != 1 {
		t.Error(x, at, e)
	}
	x, at, e = source.Parse("res 1\nmode\n" + strings.Repeat("queue 1 old\n", 50))
	if at != 0 || e != api.OK || len(x.Modes) != 1 || len(x.Modes[0].Queues) != 50 {
		t.Error(x, at, e)
	}
}

// P12.1: only res has its place, and a queue needs a mode: it is one of the last mode so far, whatever stands between.
func TestParseOrder(t *testing.T) {
	is(t, "res 1\nedge 0 1 idle\nmode 0\nmode 1\ntask 1 1 1\nqueue 2 old\nedge 1 0 apart\nqueue 3 new\ntask 2 2 2\nmode 2\n", api.Image{
		Res:   1,
		Tasks: []api.Task{{Period: 1, Deadline: 1, Cost: 1}, {Period: 2, Deadline: 2, Cost: 2}},
		Modes: []api.Mode{{Tasks: 1}, {Tasks: 2, Queues: []api.Queue{{Cap: 2, Policy: api.DropOld}, {Cap: 3, Policy: api.DropNew}}}, {Tasks: 4}},
		Edges: []api.Edge{{From: 0, To: 1, Protocol: api.Idle}, {From: 1, To: 0, Protocol: api.Apart}},
	})
	for _, first := range []string{"task 1 1 1", "mode", "mode 0", "queue 1 old", "edge 0 1 idle", "x", "res", "res x", "res 1 2", "Res 1", "res1"} {
		isNone(t, first, 1)
		isNone(t, first+"\nres 1\n", 1)
		isNone(t, "\n # x\n"+first+"\nres 1\n", 3)
	}
	isNone(t, "res 1\nres 1\n", 2)
	isNone(t, "res 1\ntask 1 1 1\nmode 0\n\nres 1\nx", 5)
	isNone(t, "res 1\nqueue 1 old\nmode", 2)
	isNone(t, "res 1\ntask 1 1 1\nedge 0 1 idle\nqueue 1 old\nmode 0\n", 4)
}

// P12.1: no line that counts.
func TestParseNone(t *testing.T) {
	for _, s := range []string{"", "\n", "\n\n\n", " ", "   \n ", "#", "# res 1", "  # res 1\n#\n", "\n#res 1"} {
		isNone(t, s, 0)
	}
}

// P12.1: the longest text, and one that is longer, whatever is in it.
func TestParseLong(t *testing.T) {
	for _, c := range []struct {
		head string
		at   int
		want api.Image
	}{
		{"res 3\nmode 1\n", 0, api.Image{Res: 3, Modes: []api.Mode{{Tasks: 2}}}},
		{"res 3\nmodes\n", 2, api.Image{}},
		{"", 0, api.Image{}},
	} {
		for _, fill := range []string{" ", "\n", "#"} {
			s := c.head + strings.Repeat(fill, 65536-len(c.head))
			if c.want.Res > 0 {
				is(t, s, c.want)
			} else {
				isNone(t, s, c.at)
			}
			isNone(t, s+" ", 0)
			isNone(t, s+s, 0)
		}
	}
	s := "res 1\n" + strings.Repeat("mode 0 1 2 3\n", (65536-6)/13)
	if x, at, e := source.Parse(s); at != 0 || e != api.OK || len(x.Modes) != 5040 {
		t.Error(len(x.Modes), at, e)
	}
	// A piece may be as long as the text.
	isNone(t, "res "+strings.Repeat("1", 65532), 1)
	isNone(t, strings.Repeat("x", 65536), 1)
}

// wrongLines are lines that none may be, wherever they stand behind a first one and a mode.
var wrongLines = []string{
	"x", "Task 1 1 1", "tasks 1 1 1", "task", "task 1", "task 1 1", "task 1 1 x", "task x 1 1", "task 1 x 1", "task 1 1 1 1", "task 1 1 1 x", "task 0:1 1 1 1", "task 1 1 0:1",
	"task 01 1 1", "task 1 -1 1", "task 1 1 +1", "task 2147483648 1 1", "task 1 2147483648 1", "task 1 1 2147483648", "task 1 1 9223372036854775809",
	"task 1 1 1 8:1", "task 1 1 1 9:1", "task 1 1 1 2147483647:1", "task 1 1 1 4294967296:1", "task 1 1 1 0:0", "task 1 1 1 0:1 0:1", "task 1 1 1 0:1 1:2 0:3", "task 1 1 1 0:2147483648",
	"task 1 1 1 0:", "task 1 1 1 :1", "task 1 1 1 :", "task 1 1 1 0:1:", "task 1 1 1 0:1:1", "task 1 1 1 :0:1", "task 1 1 1 00:1", "task 1 1 1 0:01", "task 1 1 1 -1:1", "task 1 1 1 0:-1", "task 1 1 1 0 :1", "task 1 1 1 0: 1", "task 1 1 1 0 : 1",
	"task 1 1 1 0>1", "task 1 1 1 0;1", "task 1 1 1 a:b", "task\t1 1 1", "task 1 1 1\t", "task 1 1 1\r", "task 1\x001 1",
	"mode x", "mode 32", "mode 33", "mode 64", "mode 2147483647", "mode 2147483648", "mode -1", "mode 01", "mode 1 1", "mode 0 1 2 0", "mode 31 31", "mode 0 32", "mode 0:1", "modes", "mode\t0",
	"queue", "queue 1", "queue old", "queue old 1", "queue 1 2", "queue 1 Old", "queue 1 olds", "queue 1 idle", "queue x old", "queue -1 old", "queue 01 old", "queue 2147483648 old", "queue 1 old 1", "queue 1 old new", "queue 1 1 old", "queues 1 old", "queue 1 refused",
	"edge", "edge 0", "edge 0 1", "edge idle", "edge 0 idle", "edge 0 1 2", "edge 0 1 2 idle", "edge x 1 idle", "edge 0 x idle", "edge -1 0 idle", "edge 0 01 idle", "edge 2147483648 0 idle", "edge 0 2147483648 idle", "edge 0 1 far", "edge 0 1 Idle", "edge 0 1 old", "edge 0 1 idle idle", "edges 0 1 idle", "edge 0 1 apart 1", "edge 0 1 0>1 apart",
	"edge 0 1 apart 4>1", "edge 0 1 apart 5>1", "edge 0 1 apart 16>1", "edge 0 1 apart 0>0", "edge 0 1 apart 0>1 0>1", "edge 0 1 apart 0>1 1>1 0>2", "edge 0 1 apart 0>", "edge 0 1 apart >1", "edge 0 1 apart >", "edge 0 1 apart 0>>1", "edge 0 1 apart 0>01", "edge 0 1 apart 00>1", "edge 0 1 apart 0>2147483648", "edge 0 1 apart -1>1", "edge 0 1 apart 0<1",
	"edge 0 1 apart 16:1", "edge 0 1 apart 17:1", "edge 0 1 apart 2147483647:1", "edge 0 1 apart 0:0", "edge 0 1 apart 0:1 0:1", "edge 0 1 apart 0:1 15:1 0:2", "edge 0 1 apart 0:", "edge 0 1 apart :1", "edge 0 1 apart 0::1", "edge 0 1 apart 0:01", "edge 0 1 apart 0:2147483648", "edge 0 1 apart 0>1:1", "edge 0 1 apart 0:1>1",
	"res", "res 1", "res 2", "res x", "res 1 2",
}

// P12.1: each wrong line, whatever is ahead of it and behind it: the first one is told.
func TestParseWrong(t *testing.T) {
	for _, line := range wrongLines {
		isNone(t, "res 2\nmode 0\n"+line, 3)
		isNone(t, "res 2\nmode 0\n"+line+"\n", 3)
		isNone(t, "res 2\n\nmode 0 # x\n\n   "+line+"   # y\ntask 1 1 1\n", 5)
		isNone(t, "res 2\nmode 0\n"+line+"\nx\nres 2\n", 3)
		isNone(t, "res 2\nmode 0\ntask 1 1\n"+line, 3)
	}
}

// P12.1: of the first line likewise.
func TestParseWrongRes(t *testing.T) {
	for _, line := range []string{"res", "res x", "res 1 1", "res 01", "res -1", "res +1", "res 2147483648", "res 18446744073709551616", "res 1:1", "RES 1", "res\t1", "res 1\r"} {
		isNone(t, line, 1)
		isNone(t, "#\n"+line+"\nx", 2)
	}
}

// blanks, figures: what a model finds in lines.
var (
	blanks  = regexp.MustCompile(` +`)
	figures = regexp.MustCompile(`[0-9]+`)
)

// kinds: the lines that there are, of pieces with one blank between.
var kinds = func() []*regexp.Regexp {
	var l []*regexp.Regexp
	for _, s := range []string{`res N`, `task N N N(?: N:N)*`, `mode(?: N)*`, `queue N (?:refuse|old|new)`, `edge N N (?:idle|longest|apart)(?: N[>:]N)*`} {
		l = append(l, regexp.MustCompile(`^`+strings.ReplaceAll(s, "N", `(?:0|[1-9][0-9]*)`)+`$`))
	}
	return l
}()

// model: does a text say an image? Else which line of it is the first wrong one (0: none counts), told by patterns, then by what they can't tell.
func model(text string) (int, bool) {
	began, modes := false, false
	for i, line := range strings.Split(text, "\n") {
		line, _, _ = strings.Cut(line, "#")
		line = strings.Trim(blanks.ReplaceAllString(line, " "), " ")
		if line == "" {
			continue
		}
		kind := slices.IndexFunc(kinds, func(p *regexp.Regexp) bool { return p.MatchString(line) })
		if kind < 0 || began == (kind == 0) || kind == 3 && !modes || !sound(kind, line) {
			return i + 1, false
		}
		began = true
		modes = modes || kind == 2
	}
	return 0, began
}

// sound: are a line's numbers and places such as may be?
func sound(kind int, line string) bool {
	for _, s := range figures.FindAllString(line, -1) {
		if n, err := strconv.Atoi(s); err != nil || n > 1<<31-1 {
			return false
		}
	}
	met := map[string]bool{}
	for i, piece := range strings.Split(line, " ") {
		if kind == 2 && i > 0 {
			n, _ := strconv.Atoi(piece)
			if n > 31 || met[piece] {
				return false
			}
			met[piece] = true
		}
		at := strings.IndexAny(piece, ":>")
		if at < 0 {
			continue
		}
		most := 8
		if kind == 4 {
			most = map[byte]int{'>': 4, ':': 16}[piece[at]]
		}
		place, _ := strconv.Atoi(piece[:at])
		if place >= most || piece[at+1:] == "0" || met[piece[:at+1]] {
			return false
		}
		met[piece[:at+1]] = true
	}
	return true
}

// P12.1, P12.3: texts of images that may be, of which something is turned: right or wrong just as a model says; what is parsed right is parsed of its own text again.
func TestParseAgainst(t *testing.T) {
	r := rand.New(rand.NewPCG(12, 2))
	some := []string{"0", "1", "7", "8", "15", "16", "31", "32", " ", "  ", "\n", "#", ":", ">", "0:1", "1>2", "res 1", "task 1 1 1", "mode", "queue 1 old", "edge 0 1 apart", "x", "-", "old", "idle", "2147483647", "2147483648"}
	right := 0
	for range 4000 {
		s := textOf(random(t, r))
		if r.IntN(3) == 0 {
			s = fullText
		}
		for range 1 + r.IntN(2) {
			at := r.IntN(len(s))
			end := min(at+r.IntN(3), len(s))
			bit := some[r.IntN(len(some))]
			if r.IntN(3) > 0 { // a figure for a figure
				if i := figures.FindStringIndex(s[at:]); i != nil {
					at, end, bit = at+i[0], at+i[1], strconv.Itoa(r.IntN(40))
				}
			}
			s = s[:at] + bit + s[end:]
		}
		want, ok := model(s)
		if !ok {
			isNone(t, s, want)
			continue
		}
		right++
		x, at, e := source.Parse(s)
		if at != 0 || e != api.OK {
			t.Fatalf("%q: %d, %v", s, at, e)
		}
		is(t, textOf(x), x)
	}
	if right < 800 || right > 3500 {
		t.Error(right)
	}
}

// P1: whatever bytes a text has.
func TestParseBytes(t *testing.T) {
	for b := range 256 {
		for _, s := range []string{"res 1\nmode 0%s", "res 1\n%smode 0", "res %s1", "%sres 1", "res 1\ntask 1 1 1 0%s1", "res 1\nedge 0 1 idle 0%s1"} {
			s = strings.Replace(s, "%s", string([]byte{byte(b)}), 1)
			want, ok := model(s)
			if _, at, e := source.Parse(s); at != want || (e == api.OK) != ok {
				t.Errorf("%q: %d, %v, not %d, %v", s, at, e, want, ok)
			}
		}
	}
}

// Rule 5: what is parsed is new memory at each call, and no two lists of it share any.
func TestMemory(t *testing.T) {
	a, _, _ := source.Parse(fullText)
	b, _, _ := source.Parse(fullText)
	for i := range a.Modes {
		_ = append(a.Modes[i].Queues, slices.Repeat([]api.Queue{{Cap: 9}}, 9)...)
	}
	_ = append(a.Modes, slices.Repeat(a.Modes, 3)...)
	_ = append(a.Tasks, slices.Repeat(a.Tasks, 3)...)
	_ = append(a.Edges, slices.Repeat(a.Edges, 3)...)
	if !image.Same(a, full()) {
		t.Error(a)
	}
	clear(a.Modes[0].Queues)
	if !slices.Equal(a.Modes[1].Queues, full().Modes[1].Queues) {
		t.Error(a)
	}
	clear(a.Tasks)
	clear(a.Modes)
	clear(a.Edges)
	if !image.Same(b, full()) {
		t.Error(b)
	}
}

// The chapter's example.
func TestExample(t *testing.T) {
	x, at, e := source.Parse("res 1\ntask 10 8 2 0:1\nmode 0\n")
	if at != 0 || e != api.OK || len(x.Tasks) != 1 || len(x.Modes) != 1 || x.Tasks[0].Longest[0] != 1 || x.Modes[0].Tasks != 1 {
		t.Error(x, at, e)
	}
}
