package store_test

import (
	"bytes"
	"math"
	"math/rand"
	"slices"
	"testing"

	"moiety/api"
	"moiety/block"
	"moiety/cube"
	"moiety/snap"
	"moiety/store"
)

// linesOf is the bytes of commands, one by one.
func linesOf(l ...api.Cmd) [][]byte {
	var lines [][]byte
	for _, x := range l {
		lines = append(lines, lineOf(x))
	}
	return lines
}

// behindAll is a cube to which all commands are done.
func behindAll(t *testing.T, c *cube.Cube, l ...api.Cmd) *cube.Cube {
	t.Helper()
	next := copyOf(t, c)
	for _, x := range l {
		if why := next.Do(x).Why; why != api.OK {
			t.Fatalf("%+v: %d", x, why)
		}
	}
	return next
}

// forged is a file with a cube as an epoch, a log of these records, and these bytes behind it.
func forged(t *testing.T, blocks int, e int64, c *cube.Cube, records [][]byte, behind []byte) *block.File {
	t.Helper()
	f := fileOf(t, blocks, 0)
	forge(f, e, snap.Put(c), append(recordsOf(t, records...), behind...))
	return f
}

// twinOf is the twin of a file that was forged, to whose cube all commands were done.
func twinOf(t *testing.T, f *block.File, e int64, laid *cube.Cube, l ...api.Cmd) twin {
	t.Helper()
	from, to := areaOf(f.Size(), e)
	return twin{
		bytes: raw(f), cube: behindAll(t, laid, l...), epoch: e,
		from: from*size + len(padded(snap.Put(laid))), to: to * size,
		used: len(recordsOf(t, linesOf(l...)...)), records: len(l),
	}
}

// P27.3: the errors that are there ahead of a head.
func TestOpenRefuses(t *testing.T) {
	if s, why := store.Open(nil); s != nil || why != api.ErrNil {
		t.Error("nil", s, why)
	}
	headed := func(blocks int) *block.File {
		f := fileOf(t, blocks, 0)
		f.Write(1, headOf(1, 0))
		return f
	}
	for blocks := 1; blocks < 8; blocks++ {
		closed(t, "few blocks", fileOf(t, blocks, 0), api.ErrArg)
		closed(t, "few blocks, off, and a head", powerless(headed(max(blocks, 2))), api.ErrArg)
	}
	closed(t, "off", powerless(headed(8)), api.ErrOff)
	closed(t, "off, without a head", powerless(fileOf(t, 8, 0)), api.ErrOff)
	for _, with := range []byte{0, 1, 0xff} {
		closed(t, "no head", fileOf(t, 8, with), api.ErrNone)
		closed(t, "no head", fileOf(t, api.MaxBlocks, with), api.ErrNone)
	}
	good := forged(t, 8, 1, newCube(t, tiny()), nil, nil)
	if _, why := store.Open(good); why != api.OK {
		t.Error("8 blocks", why)
	}
	closed(t, "off, and all is there", powerless(good), api.ErrOff)
}

// P27.3: one head, of any epoch; what is done then goes on from it.
func TestOpenWithOneHead(t *testing.T) {
	for name, cat := range cats() {
		c := newCube(t, cat)
		for _, blocks := range []int{blocksFor(blocksOf(c)), 21} {
			for _, e := range []int64{1, 2, 3, 4, 255, 256, 257, 1 << 32, 1<<53 + 1, math.MaxInt64 - 1, math.MaxInt64} {
				f := forged(t, blocks, e, c, nil, nil)
				r := &rig{f: f, m: twinOf(t, f, e, c)}
				r.open(t, -1, 0)
				if r.s.Epoch() != e {
					t.Errorf("%s: epoch %d; want %d", name, r.s.Epoch(), e)
				}
				if e < math.MaxInt64-1 {
					r.compact(t, -1, 0)
				}
				if e < math.MaxInt64-3 {
					r.do(t, api.Cmd{Kind: api.CSet, Scen: "main", User: "ann", N: 3}, -1, 0)
					r.compact(t, -1, 0)
					r.open(t, -1, 0)
				}
				r.asks(t)
			}
		}
	}
}

// P27.4: there is no epoch behind the greatest one.
func TestGreatestEpoch(t *testing.T) {
	c := newCube(t, tiny())
	f := forged(t, 8, math.MaxInt64, c, nil, nil)
	r := &rig{f: f, m: twinOf(t, f, math.MaxInt64, c)}
	r.open(t, -1, 0)
	if why := r.s.Compact(); why != api.ErrFull {
		t.Error("Compact", why)
	}
	r.holds(t, "Compact")
	r.do(t, set(0, 5), -1, 0)
	for r.m.used+25 <= r.m.to-r.m.from {
		r.do(t, set(0, int64(r.m.used)%60), -1, 0)
	}
	if reply := r.s.Do(set(0, 6)); !sameReply(reply, api.Reply{Why: api.ErrFull}) {
		t.Error("Do", reply)
	}
	r.holds(t, "Do")
	r.asks(t)
}

// P27.3: of two heads the greater epoch counts, wherever it stands.
func TestOpenWithTwoHeads(t *testing.T) {
	elder, younger := newCube(t, deep()), behindAll(t, newCube(t, deep()), set(0, 9))
	for _, pair := range [][2]int64{{1, 2}, {2, 3}, {3, 4}, {1, 4}, {2, 255}, {254, 257}, {255, 256}, {256, 511}, {1, 1 << 40}, {1<<40 + 1, 1<<40 + 2}, {3, math.MaxInt64 - 1}, {math.MaxInt64 - 1, math.MaxInt64}} {
		f := forged(t, 30, pair[0], elder, linesOf(set(1, 4)), nil)
		forge(f, pair[1], snap.Put(younger), recordsOf(t, linesOf(set(1, 3), set(2, 5))...))
		r := &rig{f: f, m: twinOf(t, f, pair[1], younger, set(1, 3), set(2, 5))}
		r.open(t, -1, 0)
		if r.s.Epoch() != pair[1] || r.s.Records() != 2 {
			t.Errorf("%v: epoch %d, %d records", pair, r.s.Epoch(), r.s.Records())
		}
		r.asks(t)
		// Without the greater one's head the other one is in force.
		f.Write(int(pair[1]%2), headOf(uint64(pair[1]), 1<<40))
		r = &rig{f: f, m: twinOf(t, f, pair[0], elder, set(1, 4))}
		r.open(t, -1, 0)
		if r.s.Epoch() != pair[0] {
			t.Errorf("%v: epoch %d", pair, r.s.Epoch())
		}
	}
}

// P27.3: bytes of the greater epoch that are no cube's, also where the other one's are.
func TestOpenOfNoCube(t *testing.T) {
	c := newCube(t, deep())
	picture := snap.Put(c)
	for _, e := range []int64{1, 2} {
		for what, b := range map[string][]byte{
			"none":       nil,
			"one less":   picture[:len(picture)-1],
			"one more":   append(slices.Clone(picture), 0),
			"noughts":    make([]byte, len(picture)),
			"other ones": bytes.Repeat([]byte{0xff}, len(picture)),
		} {
			f := forged(t, 30, 3-e, c, nil, nil)
			forge(f, e+2, b, nil)
			closed(t, what, f, api.ErrForm)
			alone := fileOf(t, 30, 0)
			forge(alone, e, b, nil)
			closed(t, what+" alone", alone, api.ErrForm)
			stops := alone.Copy()
			stops.Stop(0, 0)
			closed(t, what+", and a stop", stops, api.ErrForm)
		}
		for i := range picture {
			b := slices.Clone(picture)
			b[i] ^= 0x55
			f := fileOf(t, 30, 0)
			forge(f, e, b, nil)
			other, why := snap.Get(b)
			if why != api.OK {
				closed(t, "another byte", f, api.ErrForm)
				continue
			}
			s, why := store.Open(f)
			if why != api.OK || !bytes.Equal(snap.Put(s.Cube()), snap.Put(other)) {
				t.Errorf("another byte at %d: Open = %d", i, why)
			}
		}
	}
}

// P27.3: all commands of the log are done, in order, whatever fields they have.
func TestOpenDoesAllCommands(t *testing.T) {
	for name, c := range map[string]*cube.Cube{"new": newCube(t, deep()), "behind others": behindAll(t, newCube(t, deep()), set(0, 1), set(3, 8))} {
		for many := range len(script()) + 1 {
			for _, e := range []int64{1, 2} {
				l := script()[:many]
				f := forged(t, 60, e, c, linesOf(l...), nil)
				r := &rig{f: f, m: twinOf(t, f, e, c, l...)}
				r.open(t, -1, 0)
				if r.s.Records() != many {
					t.Errorf("%s: %d records; want %d", name, r.s.Records(), many)
				}
				r.asks(t)
			}
		}
	}
	// A command that asks has no error either.
	c := newCube(t, tiny())
	f := forged(t, 20, 1, c, linesOf(set(0, 4), api.Cmd{Kind: api.CGet, Scen: "main"}), nil)
	r := &rig{f: f, m: twinOf(t, f, 1, c, set(0, 4), api.Cmd{Kind: api.CGet, Scen: "main"})}
	r.open(t, -1, 0)
}

// P27.3: a log with a record that is no command, or with a command that has an error, at its beginning, in its midst, and at its end.
func TestOpenOfABadLog(t *testing.T) {
	c := newCube(t, deep())
	line := lineOf(set(0, 5))
	bad := [][]byte{
		{0}, {0xff}, []byte("set"), line[:len(line)-1], append(slices.Clone(line), 0), bytes.Repeat([]byte{0x80}, 30), make([]byte, 13), make([]byte, 12),
		lineOf(api.Cmd{Kind: api.CSet, Scen: "plan", User: "ann", N: 3}),
		lineOf(api.Cmd{Kind: api.CSet, Scen: "main", N: 3}),
		lineOf(api.Cmd{Kind: api.CUndo, Scen: "main"}), // there is nothing to undo at the beginning
		lineOf(api.Cmd{Kind: api.CDrop, Scen: "main"}),
		lineOf(api.Cmd{Kind: api.CTop + 1, Scen: "main"}),
		lineOf(api.Cmd{Kind: api.CGet, Scen: "plan"}),
		lineOf(set(9, 9)),
	}
	good := [][]byte{line, lineOf(set(1, 2)), lineOf(set(3, -7))}
	undo := lineOf(api.Cmd{Kind: api.CUndo, Scen: "main"})
	for _, b := range bad {
		for at := range len(good) + 1 {
			if at > 0 && bytes.Equal(b, undo) {
				continue
			}
			for _, behind := range [][]byte{nil, {0, 0, 7}} {
				f := forged(t, 30, 1, c, slices.Insert(slices.Clone(good), at, b), behind)
				closed(t, "a bad log", f, api.ErrForm)
				f.Stop(0, 0)
				closed(t, "a bad log, and a stop", f, api.ErrForm)
				f.Up()
				// The elder epoch's log counts for nothing.
				forge(f, 2, snap.Put(c), nil)
				if _, why := store.Open(f); why != api.OK {
					t.Error("a bad log of the elder epoch", why)
				}
			}
		}
	}
	undone := append(slices.Clone(good), undo, undo, undo)
	if _, why := store.Open(forged(t, 30, 1, c, undone, nil)); why != api.OK {
		t.Error("as many undos as commands", why)
	}
	closed(t, "one more undo", forged(t, 30, 1, c, append(undone, undo), nil), api.ErrForm)
}

// tails is what may stand behind the records of a log.
func tails(t *testing.T) [][]byte {
	t.Helper()
	torn := recordsOf(t, lineOf(set(0, 77)))
	wrong := slices.Clone(torn)
	wrong[5] ^= 1
	return [][]byte{
		nil, {1}, {0, 1}, {0xff}, torn[:1], torn[:len(torn)-1], wrong,
		append(slices.Clone(wrong), torn...), append(make([]byte, 1), torn...),
		append(make([]byte, 40), 1), append(make([]byte, 70), torn...),
		bytes.Repeat([]byte{0xff}, 100), bytes.Repeat([]byte{2, 0}, 60),
	}
}

// P27.3: a log is trimmed, and just the blocks in which there is something to trim are written; what its records do stays.
func TestOpenTrims(t *testing.T) {
	c := newCube(t, deep())
	for many := range 5 {
		l := []api.Cmd{set(0, 5), set(1, -3), set(3, 70), set(2, 1), set(0, 6)}[:many]
		for i, tail := range tails(t) {
			for _, e := range []int64{1, 2} {
				f := forged(t, 30, e, c, linesOf(l...), tail)
				r := &rig{f: f, m: twinOf(t, f, e, c, l...)}
				if course := r.m.open(); len(course.writes) > 0 != (i > 0) {
					t.Fatal("what is to be trimmed", i, course.writes)
				}
				r.open(t, -1, 0)
				r.asks(t)
				r.do(t, set(0, 99), -1, 0)
				r.open(t, -1, 0)
				r.asks(t)
			}
		}
	}
}

// P27.3: the power goes in each write of Open, with each number of bytes; opened again all is as if it had not gone.
func TestOpenWhosePowerGoes(t *testing.T) {
	c := newCube(t, deep())
	for _, many := range []int{0, 1, 3} {
		l := []api.Cmd{set(0, 5), set(1, -3), set(3, 70)}[:many]
		for _, tail := range tails(t) {
			f := forged(t, 30, 2, c, linesOf(l...), tail)
			m := twinOf(t, f, 2, c, l...)
			for k := range len(m.open().writes) + 1 {
				for bytes := range size + 1 {
					r := &rig{f: f.Copy(), m: m}
					went := r.open(t, k, bytes)
					if went != (k < len(m.open().writes)) {
						t.Fatal("the power goes", k, went)
					}
					r.open(t, -1, 0)
					r.open(t, -1, 0)
				}
			}
		}
	}
}

// P27.3, P6: of files of any bytes behind a head, and of files one of whose bytes is another one.
func TestOpenOfAnyFile(t *testing.T) {
	rnd := rand.New(rand.NewSource(273))
	base := newRig(t, 30, deep())
	for _, x := range script()[:9] {
		base.do(t, x, -1, 0)
	}
	opened := 0
	for range 3000 {
		f := base.f.Copy()
		for range 1 + rnd.Intn(3) {
			n := rnd.Intn(f.Size())
			b, _ := f.Read(n)
			b[rnd.Intn(size)] = byte(rnd.Intn(256))
			f.Write(n, b)
		}
		s, why := store.Open(f)
		if (s == nil) == (why == api.OK) || why != api.OK && why != api.ErrNone && why != api.ErrForm {
			t.Fatal("Open", s, why)
		}
		if why != api.OK {
			continue
		}
		opened++
		again, why := store.Open(f)
		if why != api.OK || !bytes.Equal(snap.Put(again.Cube()), snap.Put(s.Cube())) || again.Records() != s.Records() || again.Epoch() != s.Epoch() {
			t.Fatal("opened twice it is not as opened once", why)
		}
		if r := s.Do(set(0, 5)); r.Why != api.OK && r.Why != api.ErrHeld && r.Why != api.ErrFree {
			t.Fatal("Do", r)
		}
	}
	if opened == 0 {
		t.Error("no file could be opened")
	}
}
