package store_test

import (
	"bytes"
	"math/rand"
	"testing"

	"moiety/api"
	"moiety/block"
	"moiety/snap"
	"moiety/store"
)

// P27.2, P27.6: the power goes in each write of Create, with each number of bytes: there is no store, or all of it; what has begun may be begun anew.
func TestCreateWhosePowerGoes(t *testing.T) {
	for _, cat := range []api.Cat{tiny(), deep()} {
		for _, blocks := range []int{8, 9, 15} {
			for _, with := range []byte{0, 'x'} {
				f := fileOf(t, blocks, with)
				c := create(t, raw(f), cat)
				for k := range c.writes {
					for many := range size + 1 {
						g := f.Copy()
						g.Stop(k, many)
						s, why := store.Create(g, cat)
						want := c.torn(raw(f), k, many)
						if s != nil || why != api.ErrOff || !g.Off() || g.Writes() != f.Writes()+k+1 || !bytes.Equal(raw(g), want) {
							t.Fatalf("Create with the stop %d, %d = %v, %d: the file is\n%x; want\n%x", k, many, s, why, raw(g), want)
						}
						g.Up()
						if !bytes.Equal(want, c.then.bytes) {
							closed(t, "of which not all was written", g, api.ErrNone)
							again, why := store.Create(g, cat)
							if why != api.OK {
								t.Fatal("Create again", why)
							}
							(&rig{g, again, c.then}).holds(t, "Create again")
						}
						r := &rig{f: g, m: c.then}
						r.open(t, -1, 0)
						r.open(t, -1, 0)
					}
				}
			}
		}
	}
}

// eachStop does a call on stores as r has, with the power going in each of its writes, with each number of bytes. Opened again, and once more, all is as ahead of it, or as behind it; and goes on so.
func eachStop(t *testing.T, r *rig, writes int, call func(o *rig, k, many int) bool) {
	t.Helper()
	for k := range writes {
		for many := range size + 1 {
			o := r.other(t)
			if !call(o, k, many) {
				t.Fatal("the power does not go", k, many)
			}
			o.open(t, -1, 0)
			twice := o.f.Copy()
			o.open(t, -1, 0)
			if !twice.Same(o.f) {
				t.Fatal("opened twice it is not as opened once")
			}
			if many%11 == 0 {
				o.asks(t)
			}
			o.do(t, api.Cmd{Kind: api.CUndo, Scen: "main"}, -1, 0)
			o.do(t, set(0, int64(many)), -1, 0)
		}
	}
}

// P27.4, P27.6, P27.7: the power goes in each write of a command that is added to the log.
func TestAddWhosePowerGoes(t *testing.T) {
	r := newRig(t, 60, deep())
	for _, x := range script() {
		c := r.m.do(t, x)
		if len(c.writes) > 2 {
			t.Fatal("it is laid")
		}
		eachStop(t, r, len(c.writes), func(o *rig, k, many int) bool { return o.do(t, x, k, many) })
		r.do(t, x, -1, 0)
	}
}

// P27.4, P27.6, P27.7: the power goes in each write of a command for which there is no room in the log, at each epoch's area.
func TestTurnWhosePowerGoes(t *testing.T) {
	for _, blocks := range []int{14, 21} {
		r := newRig(t, blocks, catOf(4, 1, []int{-1, 0, 0}))
		for n := int64(0); r.s.Epoch() < 4; n++ {
			x := set(1+int(n%2), n)
			if n%3 == 2 {
				x = api.Cmd{Kind: api.CUndo, Scen: "main"}
			}
			if c := r.m.do(t, x); len(c.writes) > 2 {
				eachStop(t, r, len(c.writes), func(o *rig, k, many int) bool { return o.do(t, x, k, many) })
			}
			r.do(t, x, -1, 0)
		}
	}
}

// P27.4, P27.6 to P27.8: the power goes in each write of Compact, of a new store and of one with commands, at each epoch's area.
func TestCompactWhosePowerGoes(t *testing.T) {
	r := newRig(t, 24, deep())
	for _, x := range []api.Cmd{{Kind: api.CGet, Scen: "main"}, set(0, 9), {Kind: api.CHold, Scen: "main", Cell: set(1, 0).Cell}} {
		r.do(t, x, -1, 0)
		eachStop(t, r, len(r.m.compact(t).writes), func(o *rig, k, many int) bool { return o.compact(t, k, many) })
		r.compact(t, -1, 0)
	}
}

// openAgain opens a file whose power goes again and again, also while it is opened.
func openAgain(t *testing.T, f *block.File, rnd *rand.Rand) *store.Store {
	t.Helper()
	for {
		f.Up()
		if rnd.Intn(3) > 0 {
			f.Stop(rnd.Intn(2), rnd.Intn(size+1))
		}
		s, why := store.Open(f)
		if why == api.OK {
			return s
		}
		if why != api.ErrOff {
			t.Fatal("Open", why)
		}
	}
}

// P27.6: the power goes again and again; whatever was answered with OK is there, and else at most the one command in which it went. Nothing of the file is looked at here.
func TestPowerGoesAgainAndAgain(t *testing.T) {
	for name, cat := range cats() {
		for i, blocks := range []int{20, 33, 60} {
			rnd := rand.New(rand.NewSource(int64(100*i + len(name))))
			f := fileOf(t, blocks, 0)
			s, why := store.Create(f, cat)
			if why != api.OK {
				t.Fatal("Create", why)
			}
			is := newCube(t, cat)
			for range 250 {
				f.Stop(rnd.Intn(12), rnd.Intn(size+1))
				x, then := anyCmd(rnd, is), copyOf(t, is)
				want := then.Do(x)
				r := s.Do(x)
				if rnd.Intn(20) == 0 {
					s.Compact()
				}
				switch {
				case r.Why == api.ErrOff || r.Why == api.ErrFull:
				case !sameReply(r, want):
					t.Fatalf("%s: Do %+v = %+v; want %+v", name, x, r, want)
				case r.Why == api.OK:
					is = then
				}
				if !s.Dead() {
					continue
				}
				s = openAgain(t, f, rnd)
				now := snap.Put(s.Cube())
				if r.Why == api.ErrOff && bytes.Equal(now, snap.Put(then)) {
					is = then
				}
				if !bytes.Equal(now, snap.Put(is)) {
					t.Fatalf("%s: behind %+v the cube is neither as ahead of it nor as behind it", name, x)
				}
			}
		}
	}
}

// P27.6: of any commands, with Compact and Open in between, each write of which the power may go in, block by block.
func TestAnyCommandsAndStops(t *testing.T) {
	for name, cat := range cats() {
		fewest := blocksFor(blocksOf(newCube(t, cat)))
		for i, blocks := range []int{fewest, fewest + 5, 40} {
			rnd := rand.New(rand.NewSource(int64(31*i + len(name))))
			r := newRig(t, blocks, cat)
			for range 400 {
				k, many := rnd.Intn(8)-3, rnd.Intn(size+1)
				went := false
				switch rnd.Intn(12) {
				case 0:
					went = r.compact(t, k, many)
				default:
					went = r.do(t, anyCmd(rnd, r.m.cube), k, many)
				}
				for went {
					went = r.open(t, rnd.Intn(4)-2, rnd.Intn(size+1))
				}
			}
			r.asks(t)
		}
	}
}
