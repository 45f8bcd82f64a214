package load_test

import (
	"math"
	"math/big"
	"math/rand/v2"
	"reflect"
	"slices"
	"testing"

	"remontoir/api"
	"remontoir/check"
	"remontoir/image"
	"remontoir/load"
	"remontoir/mask"
	"remontoir/steady"
)

// every is the set of all numbers that may be in one.
const every = mask.Set(1<<32 - 1)

// of: an image, that may be, of tasks with these periods and costs, one behind the other.
func of(t *testing.T, l ...int) api.Image {
	t.Helper()
	x := api.Image{Modes: []api.Mode{{}}}
	for pair := range slices.Chunk(l, 2) {
		x.Tasks = append(x.Tasks, api.Task{Period: pair[0], Deadline: pair[0], Cost: pair[1]})
	}
	if at, e := image.Check(x); e != api.OK {
		t.Fatalf("%+v may not be: %d, %v", x, at, e)
	}
	return x
}

// answers are those of all calls of one set.
type answers struct {
	round   int
	isRound bool
	of      int
	exact   load.Part
	isExact bool
	over    bool
}

// ask asks all calls.
func ask(x api.Image, s mask.Set) answers {
	var a answers
	a.round, a.isRound = load.Round(x, s)
	a.of = load.Of(x, s)
	a.exact, a.isExact = load.Exact(x, s)
	a.over = load.Over(x, s)
	return a
}

// is holds what all calls answer of a set, each time the same.
func is(t *testing.T, x api.Image, s mask.Set, want answers) {
	t.Helper()
	given := image.Copy(x)
	for range 2 {
		if got := ask(x, s); got != want {
			t.Errorf("%+v, %x: %+v, not %+v", x, s, got, want)
		}
	}
	if !reflect.DeepEqual(given, x) {
		t.Errorf("%+v is changed to %+v", given, x)
	}
}

// most is the greatest number with which one reckons.
var most = big.NewInt(check.Most)

// number: a great number as one of layer 2's; false: it is none.
func number(n *big.Int) (int, bool) {
	if n.Sign() < 0 || n.Cmp(most) > 0 {
		return 0, false
	}
	return int(n.Int64()), true
}

// tell: what is to be answered of a set, told with numbers of any size.
func tell(x api.Image, s mask.Set) answers {
	w := answers{round: 1, isRound: true, exact: load.Part{Num: 0, Den: 1}, isExact: true}
	for i, k := range x.Tasks {
		if uint32(s)>>i&1 == 0 {
			continue
		}
		w.of += int(math.Ceil(float64(1000*k.Cost) / float64(k.Period)))
		if w.isRound {
			w.round, w.isRound = number(multiple(w.round, k.Period))
		}
		if w.isExact {
			w.exact, w.isExact = plus(w.exact, load.Part{Num: k.Cost, Den: k.Period})
		}
	}
	w.over = !w.isExact || w.exact.Num > w.exact.Den
	return w
}

// multiple: the least number that both divide.
func multiple(a, b int) *big.Int {
	x, y := big.NewInt(int64(a)), big.NewInt(int64(b))
	n := new(big.Int).Mul(x, y)
	return n.Div(n, new(big.Int).GCD(nil, nil, x, y))
}

// plus: the sum of two parts, shortened; false: a number on the way there is too great.
func plus(a, b load.Part) (load.Part, bool) {
	den := multiple(a.Den, b.Den)
	all := new(big.Int)
	for _, p := range []load.Part{a, b} {
		n := new(big.Int).Mul(den, big.NewInt(int64(p.Num)))
		all.Add(all, n.Div(n, big.NewInt(int64(p.Den))))
		if _, ok := number(all); !ok {
			return load.Part{}, false
		}
	}
	if _, ok := number(den); !ok {
		return load.Part{}, false
	}
	short := new(big.Rat).SetFrac(all, den)
	return load.Part{Num: int(short.Num().Int64()), Den: int(short.Denom().Int64())}, true
}

// The chapter's example.
func TestExample(t *testing.T) {
	is(t, of(t, 10, 2, 20, 5), 3, answers{20, true, 450, load.Part{Num: 9, Den: 20}, true, false})
}

// P37.1, P37.2: of no tasks, or of those that there aren't, nothing is asked for.
func TestNoTasks(t *testing.T) {
	nothing := answers{round: 1, isRound: true, exact: load.Part{Num: 0, Den: 1}, isExact: true}
	x := of(t, 10, 2, 20, 5, 30, 30)
	is(t, x, 0, nothing)
	is(t, x, 1<<32-8, nothing)
	is(t, api.Image{}, every, nothing)
	x.Tasks = x.Tasks[:2] // what lies behind the length is no task
	is(t, x, 4, nothing)
	is(t, x, every, answers{20, true, 450, load.Part{Num: 9, Den: 20}, true, false})
	is(t, x, 1<<31|2, answers{20, true, 250, load.Part{Num: 1, Den: 4}, true, false})
}

// P37.1: the least number that all periods divide, up to layer 2's greatest one.
func TestRound(t *testing.T) {
	for _, c := range []struct {
		periods []int
		want    int
	}{
		{[]int{1}, 1},
		{[]int{7}, 7},
		{[]int{4096}, 4096},
		{[]int{1, 1, 1}, 1},
		{[]int{6, 10}, 30},
		{[]int{10, 6, 15, 30}, 30},
		{[]int{4096, 4095}, 4096 * 4095},
		{[]int{4096, 4095, 4093}, 4096 * 4095 * 4093},
		{[]int{4096, 4095, 4093, 15}, 4096 * 4095 * 4093},
		{[]int{4096, 4095, 4093, 11}, 4096 * 4095 * 4093 * 11},
		{[]int{4096, 4095, 4093, 17}, 0}, // past 2^40
		{[]int{4096, 4095, 4093, 17, 1}, 0},
		{[]int{1, 17, 4093, 4095, 4096}, 0},
		{[]int{1021, 1019, 1013, 1031}, 1021 * 1019 * 1013 * 1031},
		{[]int{1021, 1019, 1031, 1033}, 0},
		{[]int{1021, 1019, 1031, 1033, 1021}, 0},
	} {
		var l []int
		for _, period := range c.periods {
			l = append(l, period, 1)
		}
		x := of(t, l...)
		for range 2 {
			if n, ok := load.Round(x, every); n != c.want || ok != (c.want > 0) {
				t.Errorf("Round(%v): %d, %v, not %d", c.periods, n, ok, c.want)
			}
		}
	}
}

// P37.1: each task's thousandths are rounded up, before they are put together.
func TestOf(t *testing.T) {
	for _, c := range []struct {
		l    []int
		want int
	}{
		{[]int{1, 1}, 1000},
		{[]int{4096, 1}, 1},
		{[]int{1000, 1}, 1},
		{[]int{1001, 1}, 1},
		{[]int{999, 1}, 2},
		{[]int{3, 1}, 334},
		{[]int{3, 2}, 667},
		{[]int{3, 1, 3, 1, 3, 1}, 1002},
		{[]int{4096, 1, 4096, 1}, 2},
		{[]int{4096, 4095}, 1000},
		{[]int{4096, 4096}, 1000},
		{slices.Repeat([]int{4096, 4096}, 16), 16000},
	} {
		x := of(t, c.l...)
		for range 2 {
			if n := load.Of(x, every); n != c.want {
				t.Errorf("Of(%v): %d, not %d", c.l, n, c.want)
			}
		}
	}
}

// P37.2: the sum is shortened, task by task; what is too great on the way there is none, also where what comes behind it would shorten it.
func TestExact(t *testing.T) {
	for _, c := range []struct {
		l    []int
		want load.Part
		over bool
	}{
		{[]int{1, 1}, load.Part{Num: 1, Den: 1}, false},
		{[]int{20, 6}, load.Part{Num: 3, Den: 10}, false},
		{[]int{20, 5, 20, 5}, load.Part{Num: 1, Den: 2}, false},
		{[]int{6, 1, 10, 1}, load.Part{Num: 4, Den: 15}, false},
		{[]int{2, 1, 3, 1, 6, 1}, load.Part{Num: 1, Den: 1}, false},
		{[]int{2, 1, 3, 1, 7, 1, 42, 1}, load.Part{Num: 1, Den: 1}, false},
		{[]int{2, 1, 3, 1, 7, 1, 41, 1}, load.Part{Num: 1723, Den: 1722}, true},
		{[]int{2, 1, 3, 1, 7, 1, 43, 1}, load.Part{Num: 1805, Den: 1806}, false},
		{[]int{4096, 4096, 4096, 1}, load.Part{Num: 4097, Den: 4096}, true},
		{slices.Repeat([]int{4096, 4096}, 16), load.Part{Num: 16, Den: 1}, true},
		// The periods together are past 2^40, but each part is 1 of 1, and is so at once.
		{[]int{4096, 4096, 4095, 4095, 4093, 4093, 4091, 4091, 4079, 4079}, load.Part{Num: 5, Den: 1}, true},
		{[]int{4096, 1024, 4095, 1365, 4093, 1}, load.Part{Num: 7*4093 + 12, Den: 12 * 4093}, false},
		// Two are 1 of 1 together, so the third one's period needn't be brought to theirs.
		{[]int{4095, 1, 4095, 4094, 4096, 1}, load.Part{Num: 4097, Den: 4096}, true},
		{[]int{4096, 1, 4095, 1, 4093, 1}, load.Part{Num: 4096*4095 + 4095*4093 + 4096*4093, Den: 4096 * 4095 * 4093}, false},
		{[]int{4096, 1, 4095, 1, 4093, 1, 4096, 4095}, load.Part{Num: 4095*4093 + 4093 + 4095, Den: 4095 * 4093}, true},
		{[]int{4096, 1, 4095, 1, 4093, 1, 17, 1}, load.Part{}, true}, // the denominator
		{[]int{4096, 1, 4095, 1, 4093, 1, 17, 1, 4096, 4095}, load.Part{}, true},
		{[]int{4096, 1, 4096, 4095, 4095, 1, 4093, 1, 17, 1}, load.Part{Num: 4095*4093*17 + (4095+4093)*17 + 4095*4093, Den: 4095 * 4093 * 17}, true},
		{[]int{1021, 1020, 1019, 1018, 1031, 1, 1013, 1}, load.Part{}, true},       // the first numerator
		{[]int{1021, 1, 1019, 1, 1013, 600, 1031, 700}, load.Part{}, true},         // the sum of both
		{[]int{1021, 1, 1019, 1, 1013, 1, 1031, 1030}, exact(1, 1, 1, 1030), true}, // both just fit
		{[]int{1021, 1, 1019, 1, 1013, 1, 1031, 1027}, exact(1, 1, 1, 1027), false},
	} {
		x := of(t, c.l...)
		given := image.Copy(x)
		for range 2 {
			if p, ok := load.Exact(x, every); p != c.want || ok != (c.want != load.Part{}) {
				t.Errorf("Exact(%v): %v, %v, not %v", c.l, p, ok, c.want)
			}
			if over := load.Over(x, every); over != c.over {
				t.Errorf("Over(%v): %v", c.l, over)
			}
		}
		if !reflect.DeepEqual(given, x) {
			t.Errorf("%+v is changed to %+v", given, x)
		}
	}
}

// exact: the sum of costs of the periods 1021, 1019, 1013, 1031, that are primes.
func exact(costs ...int64) load.Part {
	all := new(big.Rat)
	for i, cost := range costs {
		all.Add(all, big.NewRat(cost, []int64{1021, 1019, 1013, 1031}[i]))
	}
	return load.Part{Num: int(all.Num().Int64()), Den: int(all.Denom().Int64())}
}

// P37.2: less, not as much; numbers that layer 2 hasn't, or products that it hasn't, say false.
func TestLess(t *testing.T) {
	const top = check.Most
	for _, c := range []struct {
		a, b load.Part
		want bool
	}{
		{load.Part{Num: 1, Den: 3}, load.Part{Num: 2, Den: 5}, true},
		{load.Part{Num: 2, Den: 5}, load.Part{Num: 1, Den: 3}, false},
		{load.Part{Num: 1, Den: 2}, load.Part{Num: 2, Den: 4}, false},
		{load.Part{Num: 2, Den: 4}, load.Part{Num: 1, Den: 2}, false},
		{load.Part{Num: 0, Den: 1}, load.Part{Num: 1, Den: top}, true},
		{load.Part{Num: 0, Den: 1}, load.Part{Num: 1, Den: top + 1}, false},
		{load.Part{Num: 0, Den: top}, load.Part{Num: 1, Den: 1}, true},
		{load.Part{Num: 0, Den: top + 1}, load.Part{Num: 1, Den: 1}, false},
		{load.Part{Num: 1, Den: 1}, load.Part{Num: top, Den: 1}, true},
		{load.Part{Num: 1, Den: 1}, load.Part{Num: top + 1, Den: 1}, false},
		{load.Part{Num: top - 1, Den: 1}, load.Part{Num: top, Den: 1}, true},
		{load.Part{Num: 2, Den: 1}, load.Part{Num: top, Den: 1}, true},
		{load.Part{Num: 2, Den: 2}, load.Part{Num: top / 2, Den: 1}, true},
		{load.Part{Num: 2, Den: 2}, load.Part{Num: top/2 + 1, Den: 1}, false}, // the product is too great
		{load.Part{Num: 1, Den: 3}, load.Part{Num: top / 2, Den: 1}, false},
		{load.Part{Num: 3, Den: 1}, load.Part{Num: top, Den: top / 2}, false},
		{load.Part{Num: 1 << 20, Den: 1}, load.Part{Num: 1, Den: 1 << 20}, false},
		{load.Part{Num: 1<<20 - 1, Den: 1 << 20}, load.Part{Num: 1 << 20, Den: 1 << 20}, true},
		{load.Part{Num: -1, Den: 1}, load.Part{Num: 1, Den: 1}, false},
		{load.Part{Num: 0, Den: -1}, load.Part{Num: 1, Den: 1}, false},
		{load.Part{Num: 0, Den: 1}, load.Part{Num: 1, Den: -1}, false},
		{load.Part{Num: -2, Den: 1}, load.Part{Num: -1, Den: 1}, false},
		{load.Part{Num: 0, Den: 0}, load.Part{Num: 0, Den: 0}, false},
		{load.Part{Num: 5, Den: 1}, load.Part{Num: 1, Den: 0}, true}, // as the numbers say
		{load.Part{Num: 1, Den: 0}, load.Part{Num: 5, Den: 1}, false},
		{load.Part{Num: math.MaxInt, Den: 2}, load.Part{Num: 1, Den: 2}, false},
		{load.Part{Num: math.MinInt, Den: math.MinInt}, load.Part{Num: math.MaxInt, Den: 3}, false},
		{load.Part{Num: 0, Den: 1}, load.Part{Num: math.MaxInt, Den: 0}, false},
		{load.Part{Num: 0, Den: 1 << 33}, load.Part{Num: 1 << 33, Den: 1}, false},
	} {
		for range 2 {
			if got := load.Less(c.a, c.b); got != c.want {
				t.Errorf("Less(%v, %v): %v", c.a, c.b, got)
			}
		}
	}
}

// P37.2: Less, whatever the numbers.
func TestLessMixture(t *testing.T) {
	r := rand.New(rand.NewPCG(37, 2))
	pick := func() int {
		n := r.Int64() >> (20 + r.IntN(44))
		if r.IntN(20) == 0 {
			n = -n
		}
		return int(n)
	}
	less := 0
	for range 20000 {
		a, b := load.Part{Num: pick(), Den: pick()}, load.Part{Num: pick(), Den: pick()}
		right := true
		var products []*big.Int
		for _, p := range [][2]int{{a.Num, b.Den}, {b.Num, a.Den}} {
			x, y := big.NewInt(int64(p[0])), big.NewInt(int64(p[1]))
			n := new(big.Int).Mul(x, y)
			for _, n := range []*big.Int{x, y, n} {
				_, ok := number(n)
				right = right && ok
			}
			products = append(products, n)
		}
		want := right && products[0].Cmp(products[1]) < 0
		if got := load.Less(a, b); got != want {
			t.Fatalf("Less(%v, %v): %v", a, b, got)
		}
		if want {
			less++
		}
	}
	if less < 1000 {
		t.Error(less)
	}
}

// shuffled: an image of some tasks, as it comes, whose periods are of many kinds.
func shuffled(t *testing.T, r *rand.Rand) api.Image {
	t.Helper()
	var l []int
	scale := []int{4, 20, 1050, 4096}[r.IntN(4)]
	heavy := 1 + r.IntN(4)
	for range 1 + r.IntN(16) {
		period := 1 + r.IntN(scale)
		if r.IntN(3) == 0 {
			period = []int{1, 2, 64, 100, 360, 720, 4096}[r.IntN(7)]
		}
		l = append(l, period, 1+r.IntN(period)/heavy)
	}
	return of(t, l...)
}

// P37.1, P37.2: whatever images and sets, held against what is told with numbers of any size.
func TestMixture(t *testing.T) {
	r := rand.New(rand.NewPCG(37, 1))
	rounds, exacts, overs := 0, 0, 0
	for range 4000 {
		x := shuffled(t, r)
		s := mask.Set(r.Uint32())
		if r.IntN(2) == 0 {
			s |= mask.Set(r.Uint32())
		}
		want := tell(x, s)
		is(t, x, s, want)
		if t.Failed() {
			t.FailNow()
		}
		for i, ok := range []bool{want.isRound, want.isExact, want.over} {
			if ok {
				*[]*int{&rounds, &exacts, &overs}[i]++
			}
		}
	}
	for _, n := range []int{rounds, exacts, overs} {
		if n < 500 || n > 3500 {
			t.Error(rounds, exacts, overs)
		}
	}
}

// P37.3: of a set that asks for more than all time some task may be late.
func TestOverIsLate(t *testing.T) {
	r := rand.New(rand.NewPCG(37, 3))
	over, full := 0, 0
	for range 4000 {
		x := shuffled(t, r)
		s := image.All(x) & mask.Set(r.Uint32())
		part, ok := load.Exact(x, s)
		if !ok {
			continue
		}
		_, _, fits := steady.Mode(x, s)
		if load.Over(x, s) {
			over++
			if fits {
				t.Fatalf("%+v, %x: %v, but none may be late", x, s, part)
			}
		} else if fits {
			full++
		}
	}
	if over < 300 || full < 300 {
		t.Error(over, full)
	}
	// Just all of the time may do, and no tick more.
	x := of(t, 2, 1, 4, 1, 8, 2, 4096, 1)
	if _, _, fits := steady.Mode(x, 7); !fits || load.Over(x, 7) {
		t.Error(fits)
	}
	if _, _, fits := steady.Mode(x, 15); fits || !load.Over(x, 15) {
		t.Error(fits)
	}
}

// P1: nothing panics, and all ends, also where nothing is promised.
func TestRaw(t *testing.T) {
	numbers := []int{0, 1, 2, 3, 100, 4096, 4097, check.Most, check.Most + 1, -1, -4096, math.MinInt, math.MinInt + 1, math.MaxInt - 1, math.MaxInt}
	r := rand.New(rand.NewPCG(37, 4))
	for range 2000 {
		var x api.Image
		for range r.IntN(40) {
			x.Tasks = append(x.Tasks, api.Task{Period: numbers[r.IntN(len(numbers))], Cost: numbers[r.IntN(len(numbers))]})
		}
		s := mask.Set(r.Uint32())
		if a := ask(x, s); a != ask(x, s) {
			t.Fatalf("%+v, %x: %+v", x, s, a)
		}
	}
}
