package sema

import (
	"testing"

	"remontoir/api"
	"remontoir/mask"
)

// P52.3: Sound tells what isn't, though no call makes it so.
func TestSound(t *testing.T) {
	for _, c := range []struct {
		most, free, own, other int
		waits                  mask.Set
		want                   bool
	}{
		{3, 3, 0, 0, 0, true}, {3, 1, 1, 1, 0, true}, {3, 0, 3, 0, 0, true}, {3, 0, 1, 2, 1 << 15, true}, {1, 0, 1, 0, 0xffff, true},
		{3, 2, 0, 0, 0, false}, {3, 3, 1, 0, 0, false}, {3, 3, 0, 1, 0, false}, {3, 0, 1, 1, 0, false}, {3, 4, 0, 0, 0, false}, {3, 0, 2, 2, 1, false},
		{3, 1, 1, 1, 1, false}, {3, 1, 2, 0, 1 << 15, false}, {3, 3, 0, 0, 1 << 7, false},
	} {
		s := &Sema{most: c.most, free: c.free, waits: c.waits}
		s.has[0], s.has[15] = c.own, c.other
		if s.Sound() != c.want {
			t.Errorf("%+v: %v", c, s.Sound())
		}
	}
}

// P52.2: who is behind one that waits, waits, too, also where one is free, though no call makes it so; who is ahead of all doesn't.
func TestBehind(t *testing.T) {
	for task := range 16 {
		s := &Sema{most: 1, free: 1, waits: mask.Of(7)}
		ok, e := s.Get(task)
		switch {
		case task == 7:
			if ok || e != api.ErrBusy || s.waits != mask.Of(7) || s.free != 1 {
				t.Errorf("task %d: %v %v", task, ok, e)
			}
		case task > 7:
			if ok || e != api.OK || s.waits != mask.Of(7, task) || s.free != 1 || s.has[task] != 0 {
				t.Errorf("task %d: %v %v", task, ok, e)
			}
		default:
			if !ok || e != api.OK || s.waits != mask.Of(7) || s.free != 0 || s.has[task] != 1 {
				t.Errorf("task %d: %v %v", task, ok, e)
			}
		}
	}
}
