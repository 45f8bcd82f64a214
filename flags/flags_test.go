package flags_test

import (
	"math/rand/v2"
	"testing"

	"remontoir/api"
	"remontoir/flags"
	"remontoir/mask"
)

// spread: a set told by a number of four bits, laid out to the ends and the middle.
func spread(n int) mask.Set {
	var s mask.Set
	for i, at := range []int{0, 1, 16, 31} {
		s |= mask.Set(n>>i&1) << at
	}
	return s
}

// filled: flags of which some are set.
func filled(t *testing.T, l mask.Set) *flags.Flags {
	t.Helper()
	f := &flags.Flags{}
	if l != 0 {
		if e := f.Set(l); e != api.OK {
			t.Fatalf("Set(%x): %v", l, e)
		}
	}
	if f.All() != l {
		t.Fatalf("All: %x, not %x", f.All(), l)
	}
	return f
}

// answers is what the calls are to answer of some flags, and what is set then, told flag by flag.
type answers struct {
	set, clear, any, every, left mask.Set
	setE, anyE, everyE           api.Errno
}

func wanted(on, l mask.Set) answers {
	w := answers{left: on}
	all, some := true, false
	for n := range 32 {
		bit := mask.Set(1) << n
		is, asked := on&bit == bit, l&bit == bit
		if is || asked {
			w.set |= bit
		}
		if is && !asked {
			w.clear |= bit
		}
		if is && asked {
			w.any |= bit
			w.left -= bit
			some = true
		}
		all = all && (is || !asked)
	}
	switch {
	case l == 0:
		w.setE, w.anyE, w.everyE = api.ErrFlag, api.ErrFlag, api.ErrFlag
	case !some:
		w.anyE, w.everyE = api.ErrEmpty, api.ErrEmpty
	case !all:
		w.everyE = api.ErrEmpty
	default:
		w.every = l
	}
	return w
}

// try holds what each call answers, and what is set behind it, against what is wanted.
func try(t *testing.T, on, l mask.Set) {
	t.Helper()
	w := wanted(on, l)
	f := filled(t, on)
	if e := f.Set(l); e != w.setE || f.All() != w.set {
		t.Errorf("%x: Set(%x): %v, then %x", on, l, e, f.All())
	}
	f = filled(t, on)
	if e := f.Clear(l); e != w.setE || f.All() != w.clear {
		t.Errorf("%x: Clear(%x): %v, then %x", on, l, e, f.All())
	}
	f = filled(t, on)
	for range 2 { // what is asked stays as it is
		if s, e := f.Any(l); s != w.any || e != w.anyE || f.All() != on {
			t.Errorf("%x: Any(%x): %x %v, then %x", on, l, s, e, f.All())
		}
		if s, e := f.Every(l); s != w.every || e != w.everyE || f.All() != on {
			t.Errorf("%x: Every(%x): %x %v, then %x", on, l, s, e, f.All())
		}
	}
	if s, e := f.Take(l); s != w.any || e != w.anyE || f.All() != w.left {
		t.Errorf("%x: Take(%x): %x %v, then %x", on, l, s, e, f.All())
	}
	again := api.ErrEmpty
	if l == 0 {
		again = api.ErrFlag
	}
	if s, e := f.Take(l); s != 0 || e != again || f.All() != w.left {
		t.Errorf("%x: Take(%x) again: %x %v, then %x", on, l, s, e, f.All())
	}
}

// P28.1: whatever is set, and whatever is asked for.
func TestCalls(t *testing.T) {
	for a := range 16 {
		for b := range 16 {
			try(t, spread(a), spread(b))
			try(t, ^spread(a), spread(b))
			try(t, spread(a), ^spread(b))
			try(t, ^spread(a), ^spread(b))
		}
	}
	r := rand.New(rand.NewPCG(28, 1))
	for range 2000 {
		try(t, mask.Set(r.Uint32()), mask.Set(r.Uint32()))
		try(t, mask.Set(r.Uint32()|r.Uint32()|r.Uint32()), mask.Set(r.Uint32()&r.Uint32()&r.Uint32()))
	}
}

// P28.1: each flag by itself, the last one too.
func TestEachFlag(t *testing.T) {
	f := &flags.Flags{}
	for n := range 32 {
		bit := mask.Set(1) << n
		if _, e := f.Any(bit); e != api.ErrEmpty {
			t.Errorf("%d: %v", n, e)
		}
		if e := f.Set(bit); e != api.OK || f.All() != bit|(bit-1) {
			t.Errorf("%d: %v, %x", n, e, f.All())
		}
		if s, e := f.Every(bit | (bit - 1)); s != bit|(bit-1) || e != api.OK {
			t.Errorf("%d: %x %v", n, s, e)
		}
	}
	for n := range 32 {
		bit := mask.Set(1) << n
		if e := f.Clear(bit); e != api.OK || f.All() != ^(bit|(bit-1)) {
			t.Errorf("%d: %v, %x", n, e, f.All())
		}
	}
}

// P28.1: of no flags ErrFlag, of the zero value and of flags that are all set.
func TestNoFlags(t *testing.T) {
	for _, on := range []mask.Set{0, 0xffffffff} {
		f := filled(t, on)
		a, b := f.Set(0), f.Clear(0)
		s, c := f.Any(0)
		u, d := f.Every(0)
		v, e := f.Take(0)
		if a != api.ErrFlag || b != api.ErrFlag || c != api.ErrFlag || d != api.ErrFlag || e != api.ErrFlag || s|u|v != 0 || f.All() != on {
			t.Error(a, b, c, d, e, s, u, v, f.All())
		}
	}
}

// P2: two that don't meet, neither when one is copied.
func TestApart(t *testing.T) {
	a := filled(t, 6)
	b := *a
	if s, e := b.Take(2); s != 2 || e != api.OK || b.All() != 4 || a.All() != 6 {
		t.Error(s, e, b.All(), a.All())
	}
}

// The chapter's example.
func TestExample(t *testing.T) {
	f := &flags.Flags{}
	if e := f.Set(6); e != api.OK {
		t.Error(e)
	}
	if s, e := f.Any(3); s != 2 || e != api.OK {
		t.Error(s, e)
	}
	if s, e := f.Every(3); s != 0 || e != api.ErrEmpty {
		t.Error(s, e)
	}
}
