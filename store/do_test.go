package store_test

import (
	"bytes"
	"math"
	"math/rand"
	"slices"
	"testing"

	"moiety/api"
	"moiety/cube"
	"moiety/log"
	"moiety/snap"
	"moiety/store"
)

// P27.4: the chapter's example, and those of the whole.
func TestExamples(t *testing.T) {
	for _, stop := range []struct {
		behind, bytes int
		want          int64
	}{{0, 5, 7}, {0, 0, 7}, {1, 31, 9}, {1, 32, 9}} {
		f := fileOf(t, 40, 0)
		s, why := store.Create(f, catOf(4, 1, []int{-1, 0, 0}))
		if why != api.OK {
			t.Fatal("Create", why)
		}
		if r := s.Do(set(0, 7)); r.Why != api.OK || s.Records() != 1 {
			t.Error("CSet", r)
		}
		f.Stop(stop.behind, stop.bytes)
		if r := s.Do(set(0, 9)); !sameReply(r, api.Reply{Why: api.ErrOff}) {
			t.Error("CSet, and the power goes", r)
		}
		f.Up()
		s, why = store.Open(f)
		if why != api.OK {
			t.Fatal("Open", why)
		}
		if r := s.Do(api.Cmd{Kind: api.CGet, Scen: "main"}); r.N != stop.want {
			t.Errorf("CGet behind the stop %v = %+v", stop, r)
		}
	}
}

// P27.4: each command that changes something, one behind the other; what is added to the log is lean.
func TestDo(t *testing.T) {
	r := newRig(t, 60, deep())
	var added [][]byte
	for i, x := range script() {
		r.do(t, x, -1, 0)
		r.asks(t)
		added = append(added, lineOf(lean(x)))
		l, why := log.Open(r.f, r.m.from/size, r.m.to/size)
		if why != api.OK || !slices.EqualFunc(l.Records(), added, bytes.Equal) || !l.Clean() {
			t.Fatalf("behind %d commands the log has %q, %d", i+1, l.Records(), why)
		}
		if r.s.Records() != i+1 || r.s.Epoch() != 1 {
			t.Fatalf("%d records, epoch %d", r.s.Records(), r.s.Epoch())
		}
	}
	r.open(t, -1, 0)
	r.asks(t)
}

// P27.4: commands that change nothing, and those with an error, write nothing, and answer as the cube; also where the log is full.
func TestDoOfWhatChangesNothing(t *testing.T) {
	for _, blocks := range []int{20, 60} {
		r := newRig(t, blocks, deep())
		for _, x := range script()[:5] {
			r.do(t, x, -1, 0)
		}
		for r.m.used+25 <= r.m.to-r.m.from {
			r.do(t, set(0, 100), -1, 0)
		}
		writes, records := r.f.Writes(), r.s.Records()
		var l []api.Cmd
		for _, kind := range []int{math.MinInt, -1, 0, api.CGet, api.CFree, api.CDiff, api.CHolds, api.CLocks, api.CScens, api.CSlice, api.CTop, api.CTop + 1, math.MaxInt} {
			for _, name := range []string{"main", "plan", "none", ""} {
				l = append(l, api.Cmd{Kind: kind, Scen: name, Other: "plan", User: "ann", N: 2})
			}
		}
		for kind := api.CSet; kind <= api.CMerge; kind++ {
			l = append(l, api.Cmd{Kind: kind, Scen: "none", Other: "plan", User: "ann"}, api.Cmd{Kind: kind})
		}
		at := func(k int) api.Cell { return api.Cell{At: [api.MaxDims]int{k}} }
		l = append(l,
			api.Cmd{Kind: api.CSet, Scen: "main", User: "1", N: 5},
			api.Cmd{Kind: api.CSet, Scen: "main", User: "ann", Cell: at(3), N: 5}, // it is held
			api.Cmd{Kind: api.CSet, Scen: "main", User: "ann", Cell: at(9), N: 5},
			api.Cmd{Kind: api.CSet, Scen: "main", User: "ann", N: 5, How: 3},
			api.Cmd{Kind: api.CHold, Scen: "main", Cell: at(3)},
			api.Cmd{Kind: api.CRelease, Scen: "main", Cell: at(4)},
			api.Cmd{Kind: api.CLock, Scen: "main", Cell: at(2), User: "ann"},
			api.Cmd{Kind: api.CUnlock, Scen: "main", Cell: at(2), User: "ann"},
			api.Cmd{Kind: api.CRedo, Scen: "main"},
			api.Cmd{Kind: api.CBranch, Scen: "main", Other: "plan"},
			api.Cmd{Kind: api.CDrop, Scen: "main"},
			api.Cmd{Kind: api.CMerge, Scen: "plan", Other: "main", User: ""},
		)
		for _, x := range l {
			if reply := copyOf(t, r.m.cube).Do(x); reply.Why == api.OK && cube.Changes(x.Kind) {
				t.Fatalf("%+v changes something", x)
			}
			// A stop that waits sees that nothing is written at all.
			r.f.Stop(0, 0)
			r.do(t, x, -1, 0)
		}
		if r.f.Writes() != writes || r.s.Records() != records {
			t.Errorf("%d writes, %d records", r.f.Writes()-writes, r.s.Records())
		}
	}
}

// P20, P27.4: a merge that clashes tells it, and is not added.
func TestDoTellsClashes(t *testing.T) {
	r := newRig(t, 60, deep())
	plan := set(3, 5)
	plan.Scen = "plan"
	for _, x := range []api.Cmd{{Kind: api.CBranch, Scen: "main", Other: "plan"}, plan, set(3, 8)} {
		r.do(t, x, -1, 0)
	}
	merge := api.Cmd{Kind: api.CMerge, Scen: "plan", Other: "main", User: "ann"}
	r.do(t, merge, -1, 0)
	want := []api.Clash{{Cell: set(3, 0).Cell, Base: 0, Ours: 8, From: 5}}
	if reply := r.s.Do(merge); reply.Why != api.ErrClash || !slices.Equal(reply.Clashes, want) || r.s.Records() != 3 {
		t.Errorf("a merge that clashes: %+v, %d records", reply, r.s.Records())
	}
	merge.How = api.Theirs
	if reply := r.s.Do(merge); reply.Why != api.OK || !slices.Equal(reply.Clashes, want) || r.s.Records() != 4 {
		t.Errorf("a merge by theirs: %+v, %d records", reply, r.s.Records())
	}
}

// P27.4: a log that is full, again and again: the next epoch, its head, its area, its log; with cubes whose bytes need more and more blocks.
func TestFullLog(t *testing.T) {
	for name, cat := range cats() {
		for _, blocks := range []int{blocksFor(blocksOf(newCube(t, cat)) + 6), 37} {
			r := newRig(t, blocks, cat)
			rnd := rand.New(rand.NewSource(int64(blocks)))
			for n := range int64(120) {
				x := api.Cmd{Kind: api.CSet, Scen: "main", User: "ann", N: n % 7, Other: "nothing"}
				if rnd.Intn(3) == 0 {
					x = api.Cmd{Kind: api.CUndo, Scen: "main", User: "nobody"}
				}
				epoch, records := r.s.Epoch(), r.s.Records()
				r.do(t, x, -1, 0)
				if r.s.Epoch() != epoch && (r.s.Epoch() != epoch+1 || r.s.Records() != 0 || records == 0) {
					t.Fatalf("%s: from epoch %d, %d records, to %d, %d", name, epoch, records, r.s.Epoch(), r.s.Records())
				}
			}
			if r.s.Epoch() < 4 {
				t.Errorf("%s: epoch %d", name, r.s.Epoch())
			}
			r.asks(t)
			r.open(t, -1, 0)
			r.asks(t)
		}
	}
}

// P27.4: a log that a record's bytes fill to its last one, and one that has a byte less.
func TestLogThatIsJustFull(t *testing.T) {
	left := map[int]int{}
	for x := range 10 {
		for y := range 10 {
			// A log of two blocks, and two records, whose numbers have a byte for each 7 bits.
			r := newRig(t, 8, tiny())
			r.do(t, set(0, int64(1)<<(7*(x%9))), -1, 0)
			r.do(t, set(0, int64(2)<<(7*(y%9))), -1, 0)
			if r.s.Epoch() == 1 {
				left[r.m.to-r.m.from-r.m.used]++
			}
			r.open(t, -1, 0)
			r.asks(t)
		}
	}
	if left[0] == 0 || left[1] == 0 {
		t.Error("so often so many bytes are left", left)
	}
}

// P27.4: what a command tells for which there is no room in the log: clashes, too.
func TestFullLogTellsClashes(t *testing.T) {
	told := 0
	for pad := range 20 {
		r := newRig(t, 30, deep())
		plan := set(3, 5)
		plan.Scen = "plan"
		for _, x := range []api.Cmd{{Kind: api.CBranch, Scen: "main", Other: "plan"}, plan} {
			r.do(t, x, -1, 0)
		}
		for n := range int64(pad) {
			r.do(t, set(3, n), -1, 0)
		}
		merge := api.Cmd{Kind: api.CMerge, Scen: "plan", Other: "main", User: "ann", How: api.Theirs}
		c := r.m.do(t, merge)
		if c.then.epoch > r.m.epoch && len(c.reply.Clashes) == 1 {
			told++
		}
		r.do(t, merge, -1, 0)
		r.asks(t)
	}
	if told == 0 {
		t.Error("no clash is told")
	}
}

// fullRig is a store whose log is full, and whose cube, with anything more in it, has no room in the other area.
func fullRig(t *testing.T, blocks int) *rig {
	t.Helper()
	r := newRig(t, blocks, deep())
	for n := range int64(1000) {
		x := set(3+int(n%2), 1<<40+n)
		c := r.m.do(t, x)
		if c.reply.Why == api.ErrFull {
			return r
		}
		r.do(t, x, -1, 0)
	}
	t.Fatal("there is always room")
	return nil
}

// P27.4: a cube that has no room in the area: ErrFull alone, the command is not done, and the log not longer; what asks is answered, and what has room is done.
func TestNoRoom(t *testing.T) {
	for _, blocks := range []int{14, 16, 17, 20} {
		r := fullRig(t, blocks)
		c, g, sums := r.s.Cube(), r.s.Cube().Graph(), r.s.Cube().Roll("main")
		full := func(what string, x api.Cmd) {
			t.Helper()
			was, records := snap.Put(c), r.s.Records()
			if reply := r.s.Do(x); !sameReply(reply, api.Reply{Why: api.ErrFull}) {
				t.Fatalf("%s: Do of %d = %+v", what, x.Kind, reply)
			}
			if r.s.Records() != records || !bytes.Equal(snap.Put(c), was) {
				t.Fatalf("%s: the command is done", what)
			}
			r.asks(t)
		}
		big := set(3, 1<<45)
		full("no room", big)
		full("no room, again", big)
		r.f.Stop(0, 7)
		full("no room, and a stop", big)
		if r.f.Up(); r.s.Dead() {
			t.Fatal("it is dead")
		}
		if why := r.s.Compact(); why != r.m.compact(t).reply.Why {
			t.Fatal("Compact", why)
		}
		r.m = r.m.compact(t).then
		r.holds(t, "Compact")
		if r.s.Cube() != c || c.Graph() != g || c.Roll("main") != sums {
			t.Fatal("whoever was told the cube does not see it any more")
		}
		r.open(t, -1, 0)
		r.asks(t)
	}
}

// P27.4: behind ErrFull a command that needs less room is done, and those behind it.
func TestRoomAgain(t *testing.T) {
	turned := 0
	for blocks := 12; blocks < 20; blocks++ {
		r := fullRig(t, blocks)
		for range 3 {
			epoch := r.s.Epoch()
			for range 12 {
				r.do(t, api.Cmd{Kind: api.CUndo, Scen: "main"}, -1, 0)
			}
			// A history whose future goes is one of fewer states.
			r.do(t, set(0, 0), -1, 0)
			r.do(t, set(0, 1), -1, 0)
			if r.s.Epoch() > epoch {
				turned++
			}
		}
		r.open(t, -1, 0)
		r.asks(t)
	}
	if turned == 0 {
		t.Error("there is never room again")
	}
}

// P27.4: with no room, and without power, no room is told; it is named first.
func TestNoRoomAndNoPower(t *testing.T) {
	r := fullRig(t, 16)
	big := set(3, 1<<45)
	for r.s.Compact() == api.OK {
		r.m = r.m.compact(t).then
		r = fill(t, r)
	}
	powerless(r.f)
	if reply := r.s.Do(big); !sameReply(reply, api.Reply{Why: api.ErrFull}) {
		t.Error("Do", reply)
	}
	if why := r.s.Compact(); why != api.ErrFull || r.s.Dead() {
		t.Error("Compact", why, r.s.Dead())
	}
	if reply := r.s.Do(api.Cmd{Kind: api.CGet, Scen: "main"}); reply.Why != api.OK {
		t.Error("what asks needs no power", reply)
	}
}

// fill does commands until there is no room.
func fill(t *testing.T, r *rig) *rig {
	t.Helper()
	for n := range int64(1000) {
		x := set(3+int(n%2), 1<<50+n)
		if r.m.do(t, x).reply.Why == api.ErrFull {
			return r
		}
		r.do(t, x, -1, 0)
	}
	t.Fatal("there is always room")
	return nil
}

// P27.4, P27.8: Compact of a new store, and of one with commands, at each epoch's area; no answer changes.
func TestCompact(t *testing.T) {
	for name, cat := range cats() {
		r := newRig(t, 61, cat)
		for e := int64(2); e < 5; e++ {
			r.compact(t, -1, 0)
			if r.s.Epoch() != e || r.s.Records() != 0 {
				t.Errorf("%s: epoch %d, %d records", name, r.s.Epoch(), r.s.Records())
			}
			r.asks(t)
		}
		rnd := rand.New(rand.NewSource(4))
		for range 6 {
			for range 5 {
				r.do(t, anyCmd(rnd, r.m.cube), -1, 0)
			}
			c := r.s.Cube()
			r.compact(t, -1, 0)
			if r.s.Cube() != c || r.s.Records() != 0 {
				t.Errorf("%s: %d records", name, r.s.Records())
			}
			r.asks(t)
			r.open(t, -1, 0)
			r.asks(t)
		}
	}
}

// P27.4: Compact where there is no room: ErrFull, and nothing is changed; what asks, and what has room, is done behind it.
func TestCompactWithoutRoom(t *testing.T) {
	never := 0
	for blocks := 10; blocks < 24; blocks++ {
		r := newRig(t, blocks, deep())
		for n := range int64(60) {
			if r.m.compact(t).reply.Why == api.ErrFull {
				never++
				r.f.Stop(0, 0)
				r.compact(t, -1, 0)
				r.compact(t, -1, 0)
				r.asks(t)
			}
			r.do(t, set(1+int(n%2), 1<<50+n), -1, 0)
		}
		r.open(t, -1, 0)
		r.asks(t)
	}
	if never == 0 {
		t.Error("there is always room")
	}
}

// P27.5: what a dead store answers; a store without power that was not called yet is none.
func TestDead(t *testing.T) {
	for _, call := range []string{"Do", "Compact"} {
		r := newRig(t, 30, deep())
		r.do(t, set(0, 8), -1, 0)
		was, kept := snap.Put(r.s.Cube()), r.s.Cube()
		powerless(r.f)
		r.m.bytes = raw(r.f)
		if r.s.Dead() || r.s.Do(api.Cmd{Kind: api.CGet, Scen: "main"}).N != 8 || r.s.Do(api.Cmd{Kind: api.CUndo, Scen: "x"}).Why != api.ErrNone {
			t.Error("a store whose power is off, which was not told yet")
		}
		if call == "Do" {
			if reply := r.s.Do(set(0, 9)); !sameReply(reply, api.Reply{Why: api.ErrOff}) {
				t.Error("Do", reply)
			}
		} else if why := r.s.Compact(); why != api.ErrOff {
			t.Error("Compact", why)
		}
		if r.s.Cube() != kept || !bytes.Equal(snap.Put(kept), was) || r.s.Epoch() != 1 || r.s.Records() != 1 {
			t.Error("a dead store is not as it was", r.s.Epoch(), r.s.Records())
		}
		r.dead(t, call, r.f.Writes())
		r.open(t, -1, 0)
		r.asks(t)
	}
}

// P6, P27.5: of nil, and of a store that neither Create nor Open made.
func TestNil(t *testing.T) {
	for _, s := range []*store.Store{nil, {}} {
		for kind := -1; kind < api.CTop+2; kind++ {
			if r := s.Do(api.Cmd{Kind: kind, Scen: "main", User: "ann"}); !sameReply(r, api.Reply{Why: api.ErrNil}) {
				t.Error("Do", kind, r)
			}
		}
		if why := s.Compact(); why != api.ErrNil {
			t.Error("Compact", why)
		}
		if s.Cube() != nil || s.Epoch() != 0 || s.Records() != 0 || s.Dead() {
			t.Error("nil", s.Cube(), s.Epoch(), s.Records(), s.Dead())
		}
	}
}

// Rule 4: replies are one's own.
func TestRepliesOfOnesOwn(t *testing.T) {
	r := newRig(t, 60, deep())
	for _, x := range script()[:4] {
		r.do(t, x, -1, 0)
	}
	for _, kind := range []int{api.CScens, api.CHolds, api.CLocks, api.CSlice, api.CTop} {
		x := api.Cmd{Kind: kind, Scen: "main", N: 3}
		reply := r.s.Do(x)
		clear(reply.Names)
		clear(reply.Rows)
		clear(reply.Locks)
	}
	r.asks(t)
}

// P27.4 to P27.8: any commands, with Compact and Open in between, in files of all sizes.
func TestAnyCommands(t *testing.T) {
	for name, cat := range cats() {
		fewest := blocksFor(blocksOf(newCube(t, cat)))
		for i, blocks := range []int{fewest, fewest + 3, fewest + 8, 50, 150} {
			rnd := rand.New(rand.NewSource(int64(27*i + len(name))))
			r := newRig(t, blocks, cat)
			for step := range 250 {
				switch rnd.Intn(14) {
				case 0:
					r.compact(t, -1, 0)
				case 1:
					r.open(t, -1, 0)
				default:
					r.do(t, anyCmd(rnd, r.m.cube), -1, 0)
				}
				if step%50 == 0 {
					r.asks(t)
				}
			}
		}
	}
}

// P27.6: what was answered with OK is there, also if somebody wrote something behind the records.
func TestWrittenBeside(t *testing.T) {
	r := newRig(t, 40, deep())
	r.do(t, set(0, 5), -1, 0)
	r.f.Write(r.m.to/size-1, []byte{7})
	if reply := r.s.Do(set(0, 6)); reply.Why != api.OK || r.s.Epoch() != 2 || r.s.Records() != 0 {
		t.Errorf("Do = %+v, epoch %d, %d records", reply, r.s.Epoch(), r.s.Records())
	}
	s, why := store.Open(r.f)
	if why != api.OK || s.Do(api.Cmd{Kind: api.CGet, Scen: "main"}).N != 6 {
		t.Error("Open", why)
	}
}

// P6: records that somebody took away are no reason to panic when the power goes.
func TestRecordsTakenAway(t *testing.T) {
	r := newRig(t, 40, deep())
	for n := range int64(5) {
		r.do(t, set(0, n), -1, 0)
	}
	log.Clear(r.f, r.m.from/size, r.m.to/size)
	r.f.Stop(0, 3)
	if reply := r.s.Do(set(0, 6)); !sameReply(reply, api.Reply{Why: api.ErrOff}) || !r.s.Dead() {
		t.Errorf("Do = %+v", reply)
	}
}

// Rule 1: what is done beside it, by another store of the same file, is no reason to panic.
func TestTwoStoresOfAFile(t *testing.T) {
	rnd := rand.New(rand.NewSource(29))
	for range 30 {
		f := fileOf(t, 12, 0)
		a, why := store.Create(f, tiny())
		if why != api.OK {
			t.Fatal("Create", why)
		}
		stores := []*store.Store{a}
		for range 60 {
			s := stores[rnd.Intn(len(stores))]
			switch rnd.Intn(8) {
			case 0:
				if other, why := store.Open(f); why == api.OK {
					stores = append(stores, other)
				}
			case 1:
				s.Compact()
			case 2:
				f.Stop(rnd.Intn(3), rnd.Intn(size+1))
			case 3:
				f.Up()
			case 4:
				f.Write(rnd.Intn(f.Size()), []byte{byte(rnd.Intn(4))})
			default:
				s.Do(anyCmd(rnd, s.Cube()))
			}
		}
	}
}

// P27.2, P27.4: the least file, and one of one block more, which is nobody's.
func TestLeastFile(t *testing.T) {
	for _, blocks := range []int{8, 9} {
		r := newRig(t, blocks, tiny())
		for n := range int64(30) {
			r.do(t, set(0, n), -1, 0)
		}
		r.open(t, -1, 0)
		r.asks(t)
	}
}
