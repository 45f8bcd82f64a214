package trace_test

import (
	"iter"
	"math"
	"math/rand/v2"
	"slices"
	"strconv"
	"strings"
	"testing"

	"remontoir/trace"
)

const most = 1<<31 - 1

// names are the kinds' words, from the kind 1 on.
var names = []string{"runs", "came", "over", "late", "took", "gave", "asked", "mode", "settled", "dropped"}

// good and bad are numbers that have a text, and such as haven't.
var (
	good = []int{0, 1, 9, 10, 4096, 1 << 30, most - 1, most}
	bad  = []int{-1, -2, most + 1, most + 2, 1 << 32, 1<<32 + 1, -1 << 32, math.MinInt32, math.MinInt, math.MinInt + 1, math.MaxInt}
)

// others are numbers of no kind.
var others = []trace.Kind{0, -1, -10, 11, 12, 20, 256, 257, 1<<32 + 1, -1<<32 + 1, math.MinInt32, math.MinInt, math.MinInt + 1, math.MaxInt}

// text: an event's line, told by the library.
func text(e trace.Event) string {
	return strings.Join([]string{strconv.Itoa(e.Tick), names[e.Kind-1], strconv.Itoa(e.A), strconv.Itoa(e.B)}, " ")
}

// each goes through events of all kinds, with all numbers.
func each(kinds []trace.Kind, l []int) iter.Seq[trace.Event] {
	return func(yield func(trace.Event) bool) {
		for _, k := range kinds {
			for _, tick := range l {
				for _, a := range l {
					for _, b := range l {
						if !yield(trace.Event{Tick: tick, Kind: k, A: a, B: b}) {
							return
						}
					}
				}
			}
		}
	}
}

// kinds are all that there are.
func kinds() []trace.Kind {
	return []trace.Kind{trace.Runs, trace.Came, trace.Over, trace.Late, trace.Took, trace.Gave, trace.Asked, trace.Mode, trace.Settled, trace.Dropped}
}

// isText holds what is told of an event's text: a line; empty, if it has none.
func isText(t *testing.T, e trace.Event, line string) {
	t.Helper()
	if trace.Right(e) != (line != "") || trace.Line(e) != line {
		t.Errorf("%v: %v, %q, not %q", e, trace.Right(e), trace.Line(e), line)
	}
	whole := line
	if line != "" {
		whole += "\n"
	}
	if got := trace.Text(e); got != whole {
		t.Errorf("%v: %q, not %q", e, got, whole)
	}
}

// isRead holds what is read of a line.
func isRead(t *testing.T, line string, want trace.Event) {
	t.Helper()
	if e, ok := trace.Read(line); !ok || e != want {
		t.Errorf("Read(%q): %v %v, not %v", line, e, ok, want)
	}
}

// notRead: a line is no event's.
func notRead(t *testing.T, line string) {
	t.Helper()
	if e, ok := trace.Read(line); ok || e != (trace.Event{}) {
		t.Errorf("Read(%q): %v %v", line, e, ok)
	}
}

// The chapter's types.
func TestKinds(t *testing.T) {
	for i, k := range kinds() {
		if int(k) != i+1 {
			t.Errorf("%s: %d", names[i], k)
		}
	}
}

// P31.1, P31.2: of each kind, with numbers from 0 to Most: the line, which is read so.
func TestLine(t *testing.T) {
	for e := range each(kinds(), good) {
		isText(t, e, text(e))
		isRead(t, text(e), e)
	}
}

// P31.1, rule 1: with any number or kind that is none there is no text.
func TestNotRight(t *testing.T) {
	for e := range each(others, []int{-1, 0, 7}) {
		isText(t, e, "")
	}
	for _, k := range kinds() {
		for _, n := range bad {
			for _, e := range []trace.Event{{Tick: n}, {A: n}, {B: n}, {Tick: n, A: n, B: n}} {
				e.Kind = k
				isText(t, e, "")
			}
		}
	}
}

// P31.1: the lines of those that are right, one behind the other, as they stand.
func TestText(t *testing.T) {
	if trace.Text() != "" {
		t.Error(trace.Text())
	}
	l := []trace.Event{
		{Tick: -1, Kind: trace.Runs}, {Tick: 3, Kind: trace.Came, A: 1, B: 2}, {Tick: 3, Kind: trace.Came, A: 1, B: 2}, {Tick: 3, Kind: 11, A: 1, B: 2},
		{}, {Tick: most, Kind: trace.Dropped, A: most, B: most}, {Tick: 1, Kind: trace.Runs}, {Tick: 1, Kind: trace.Settled, A: most + 1},
	}
	if got, want := trace.Text(l...), "3 came 1 2\n3 came 1 2\n2147483647 dropped 2147483647 2147483647\n1 runs 0 0\n"; got != want {
		t.Errorf("%q, not %q", got, want)
	}
	if got := trace.Text(l[3:5]...); got != "" {
		t.Errorf("%q", got)
	}
}

// P31.2: blanks of any number, also at both ends.
func TestReadBlanks(t *testing.T) {
	e := trace.Event{Tick: 7, Kind: trace.Over, A: 2, B: 5}
	for _, ahead := range []string{"", " ", "   "} {
		for _, between := range []string{" ", "  ", "      "} {
			for _, behind := range []string{"", " ", "     "} {
				isRead(t, ahead+"7"+between+"over "+"2"+between+"5"+behind, e)
			}
		}
	}
}

// P31.2: a line of too few pieces, of too many, or with one that is none.
func TestReadNone(t *testing.T) {
	for _, line := range []string{
		"", " ", "    ", "7", "7 over", "7 over 2", "over 2 5", "7 2 5", "7 over 2 5 6", "7 over 2 5 over", "7 over 2 5 #", "7 over 2 5 7 over 2 5", "7over 2 5", "7 over2 5",
		"over 7 2 5", "7 2 over 5", "7 over 2 over", "7 over over 5", "runs runs runs runs", "7 7 7 7", "7 3 2 5",
		"7 over 2 5\n", "\n7 over 2 5", "7 over\t2 5", "7\tover 2 5", "7 over 2 5\r", "7 over 2\n5 7", "7 over 2 5\x00", "\xff 7 over 2 5", "\uff17 over 2 5", "7 \u043ever 2 5",
	} {
		notRead(t, line)
	}
	for _, n := range []string{"07", "00", "-1", "-0", "+7", "2147483648", "4294967296", "4294967303", "18446744073709551616", "18446744073709551623", "99999999999999999999999999", "7.0", "7,", "0x7", "7a", "a7", "1e3", "1_0", "#", "x", "\u0667"} {
		for _, line := range []string{n + " over 2 5", "7 over " + n + " 5", "7 over 2 " + n, n + " over " + n + " " + n} {
			notRead(t, line)
		}
	}
	for _, word := range []string{"Over", "OVER", "ove", "overs", "ver", "run", "runsx", "dropped,", "kind", "3", "0", "none", "over\x00", "over#", "late,took", "settle", "_"} {
		notRead(t, "7 "+word+" 2 5")
	}
	isRead(t, "2147483647 over 0 2147483647", trace.Event{Tick: most, Kind: trace.Over, B: most})
}

// P31.2, P1: a long line is read no further than it may be one.
func TestReadLong(t *testing.T) {
	notRead(t, strings.Repeat("7 over 2 5 ", 100000))
	notRead(t, strings.Repeat("7", 1000000)+" over 2 5")
	isRead(t, strings.Repeat(" ", 1000000)+"7 over 2 5"+strings.Repeat(" ", 1000000), trace.Event{Tick: 7, Kind: trace.Over, A: 2, B: 5})
}

// P31.1, P31.2: of whatever line an event is read, its own line has the same pieces; and each bit of a line counts.
func TestReadMixture(t *testing.T) {
	r := rand.New(rand.NewPCG(31, 2))
	for range 20000 {
		e := trace.Event{Tick: r.IntN(1 << r.IntN(32)), Kind: trace.Kind(1 + r.IntN(10)), A: r.IntN(1 << r.IntN(32)), B: r.IntN(20)}
		e.Tick, e.A = min(e.Tick, most), min(e.A, most)
		line := []byte(text(e))
		isRead(t, string(line), e)
		line[r.IntN(len(line))] ^= 1 << r.IntN(8)
		got, ok := trace.Read(string(line))
		if ok && trace.Line(got) != strings.Join(strings.FieldsFunc(string(line), func(c rune) bool { return c == ' ' }), " ") || !ok && got != (trace.Event{}) {
			t.Fatalf("Read(%q): %v %v", line, got, ok)
		}
	}
}

// found is an event, and where.
type found struct {
	at int
	e  trace.Event
}

// collect: all that is gone through; at most so many.
func collect(all iter.Seq2[int, trace.Event], most int) []found {
	var l []found
	for at, e := range all {
		if len(l) == most {
			break
		}
		l = append(l, found{at, e})
	}
	return l
}

// some: events of all kinds, and of none, right and not.
func some(many int) []trace.Event {
	r := rand.New(rand.NewPCG(31, 3))
	var l []trace.Event
	for range many {
		l = append(l, trace.Event{Tick: r.IntN(9) - 2, Kind: trace.Kind(r.IntN(13) - 1), A: r.IntN(4) - 1, B: r.IntN(4) - 1})
	}
	return l
}

// P31.3, rule 8: the events of a kind and their places, also of a kind that is none; left anywhere, gone through again.
func TestOf(t *testing.T) {
	l := some(300)
	for _, k := range slices.Concat(kinds(), others) {
		var want []found
		for at, e := range l {
			if e.Kind == k {
				want = append(want, found{at, e})
			}
		}
		if (len(want) > 0) != (k >= -1 && k <= 11) {
			t.Errorf("kind %d: %d", k, len(want))
		}
		all := trace.Of(k, l...)
		for most := range len(want) + 2 {
			if got := collect(all, most); !slices.Equal(got, want[:min(most, len(want))]) {
				t.Errorf("kind %d, left behind %d: %v, not %v", k, most, got, want)
			}
		}
		if got := collect(trace.Of(k), 1); len(got) != 0 {
			t.Errorf("of nothing: %v", got)
		}
	}
}

// Rule 5, P2: what Of goes through is what was handed in then, whatever becomes of it.
func TestOfKept(t *testing.T) {
	room := some(40)
	was := slices.Clone(room)
	all := trace.Of(trace.Over, room[:30]...)
	want := collect(trace.Of(trace.Over, was[:30]...), 99)
	for range 2 {
		if got := collect(all, 99); !slices.Equal(got, want) || len(got) == 0 {
			t.Errorf("%v, not %v", got, want)
		}
		for at := range room {
			room[at] = trace.Event{Kind: trace.Over, A: at}
		}
	}
}

// P31.3: those from a tick on, ahead of another one, as they stand, right or not.
func TestBetween(t *testing.T) {
	l := some(200)
	bounds := slices.Concat(bad, []int{-3, 0, 1, 2, 3, 6, 7, 8, most})
	for _, from := range bounds {
		for _, to := range bounds {
			var want []trace.Event
			for _, e := range l {
				if from <= e.Tick && e.Tick < to {
					want = append(want, e)
				}
			}
			if got := trace.Between(from, to, l...); !slices.Equal(got, want) {
				t.Errorf("Between(%d, %d): %v, not %v", from, to, got, want)
			}
			if got := trace.Between(from, to); len(got) != 0 {
				t.Errorf("of nothing: %v", got)
			}
		}
	}
	least, great := trace.Event{Tick: math.MinInt}, trace.Event{Tick: math.MaxInt}
	if got := trace.Between(math.MinInt, math.MaxInt, great, least, great); !slices.Equal(got, []trace.Event{least}) {
		t.Error(got)
	}
}

// Rule 5: what is handed in isn't changed, and what is answered is new memory.
func TestMemory(t *testing.T) {
	room := some(40)
	was := slices.Clone(room)
	got := trace.Between(-9, 99, room[:30]...)
	if !slices.Equal(got, was[:30]) {
		t.Errorf("%v, not %v", got, was[:30])
	}
	for at := range got {
		got[at].A = 77
	}
	_ = append(got, trace.Event{A: 78})
	trace.Text(room[:30]...)
	collect(trace.Of(trace.Runs, room[:30]...), 99)
	if !slices.Equal(room, was) {
		t.Error("what was handed in is changed")
	}
}

// The chapter's example.
func TestExample(t *testing.T) {
	isText(t, trace.Event{Tick: 7, Kind: trace.Over, A: 2, B: 5}, "7 over 2 5")
}
