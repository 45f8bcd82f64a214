package steady_test

import (
	"math/rand/v2"
	"testing"

	"remontoir/api"
	"remontoir/ceil"
	"remontoir/steady"
)

// part of a job that holds a resource: from the tick of its own work on, up to ahead of another one.
type section struct{ res, from, to int }

// a job that is there: since when, how far it is, what it holds.
type present struct {
	there      bool
	came, done int
	secs       []section
}

// holds: the resource that a job holds; -1: none. It takes what it comes to at once, but nothing till it has worked.
func (p present) holds() int {
	for _, s := range p.secs {
		if p.done > 0 && s.from <= p.done && p.done < s.to {
			return s.res
		}
	}
	return -1
}

// sections: one behind the other, of each resource that a task uses at most one, as long as it may be.
func sections(r *rand.Rand, k api.Task) []section {
	var l []section
	at := r.IntN(k.Cost + 1)
	for _, res := range r.Perm(8) {
		if end := at + k.Longest[res]; k.Longest[res] > 0 && end <= k.Cost {
			l = append(l, section{res, at, end})
			at = end + r.IntN(2)
		}
	}
	return l
}

// next: whose turn it is: of the least level, by ceilings, what is held ahead; -1: nobody's.
func next(c ceil.Table, l []present) int {
	best, level := -1, 0
	for task, p := range l {
		if !p.there {
			continue
		}
		own := 2 * c.Level(task, p.holds())
		if p.holds() < 0 {
			own++
		}
		if best < 0 || own < level {
			best, level = task, own
		}
	}
	return best
}

// play: how long jobs took at most, of each task, for so many ticks; at first all come at once, or one by one from the last one on.
func play(r *rand.Rand, x api.Image, ticks int) []int {
	c := ceil.Of(x, 1<<len(x.Tasks)-1)
	l, due, took := make([]present, len(x.Tasks)), make([]int, len(x.Tasks)), make([]int, len(x.Tasks))
	if r.IntN(2) == 0 {
		for task := range due {
			due[task] = (len(due) - task) * r.IntN(3)
		}
	}
	for now := range ticks {
		for task, k := range x.Tasks {
			if now >= due[task] && !l[task].there {
				l[task] = present{there: true, came: now, secs: sections(r, k)}
				due[task] = now + k.Period + r.IntN(3)/2*r.IntN(k.Period+1)
			}
		}
		task := next(c, l)
		if task < 0 {
			continue
		}
		p := &l[task]
		if p.done++; p.done == x.Tasks[task].Cost {
			took[task] = max(took[task], now+1-p.came)
			*p = present{}
		}
	}
	return took
}

// P18.2: no job takes longer than is told, whatever comes when; and some take just so long.
func TestJobs(t *testing.T) {
	r := rand.New(rand.NewPCG(18, 5))
	just, blocked := 0, 0
	for range 1500 {
		x := random(t, r, 1+r.IntN(5), 60)
		rows, _, ok := steady.Mode(x, 1<<len(x.Tasks)-1)
		if !ok || x.Tasks[0].Period > 200 {
			continue
		}
		for task, most := range play(r, x, 2000) {
			row := rows[task]
			if most > row.Response {
				t.Fatalf("the task %d of %+v took %d, not %d", task, x, most, row.Response)
			}
			if most == row.Response {
				just++
			}
			if most > x.Tasks[task].Cost && task == 0 {
				blocked++
			}
		}
	}
	if just < 200 || blocked < 50 {
		t.Error(just, blocked)
	}
}
