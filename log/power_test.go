package log_test

import (
	"bytes"
	"math/rand"
	"slices"
	"testing"

	"moiety/api"
	"moiety/block"
	"moiety/log"
	"moiety/rec"
)

// P25.3, P25.5: the power goes in each write of an Add, with each number of bytes.
func TestAddWhosePowerGoes(t *testing.T) {
	const from, blocks = 1, 12
	for _, there := range []int{0, 7, 20, 31, 32, 33, 63, 64} {
		for _, b := range [][]byte{[]byte("a"), {0}, make([]byte, 70), long(25), long(32), long(33), long(64), long(100), counting(api.MaxRec)} {
			f := fileOf(t, from+blocks+1, 'x')
			log.Clear(f, from, from+blocks)
			var list [][]byte
			if there > 0 {
				list = append(list, long(there))
			}
			lay(t, f, from, joined(t, list))
			added := append(slices.Clone(list), b)
			all := joined(t, added)
			first := there / size
			for k := 0; (first+k)*size < len(all); k++ {
				for many := range size + 1 {
					stopAdd(t, f.Copy(), power{from, from + blocks, k, many}, list, added)
				}
			}
		}
	}
}

// power is a log's blocks, and when the power goes in a call of it.
type power struct {
	from, to, k, many int
}

// stopAdd adds the last one of added to a log of list with a stop, and asks all that is to be asked then.
func stopAdd(t *testing.T, f *block.File, p power, list, added [][]byte) {
	t.Helper()
	l := open(t, f, p.from, p.to)
	room := (p.to - p.from) * size
	was, all := joined(t, list), joined(t, added)
	// So many of the log's bytes are as the Add would have them.
	done := min((len(was)/size+p.k)*size+p.many, len(all))
	want := raw(f)
	copy(want[p.from*size:p.from*size+max(done, len(was))], all)
	writes := f.Writes()
	f.Stop(p.k, p.many)
	is(t, "Add", l.Add(added[len(added)-1]), api.ErrOff)
	if !bytes.Equal(raw(f), want) || !f.Off() || f.Writes() != writes+p.k+1 {
		t.Fatalf("Add with the stop %v behind %d: the file is %q; want %q", p, len(was), raw(f), want)
	}
	is(t, "Add again", l.Add([]byte("x")), api.ErrState)
	is(t, "Trim", l.Trim(), api.ErrState)
	// What it tells is what its blocks have, with the power off, too.
	hasAll(t, "power off", l, want[p.from*size:p.to*size])
	f.Up()
	hasAll(t, "power on", l, want[p.from*size:p.to*size])
	is(t, "Add with the power on", l.Add([]byte("x")), api.ErrState)
	is(t, "Trim with the power on", l.Trim(), api.ErrState)
	if !bytes.Equal(raw(f), want) || f.Writes() != writes+p.k+1 {
		t.Fatalf("behind ErrOff something is written: %v", p)
	}
	again := open(t, f, p.from, p.to)
	if done == len(all) {
		has(t, "opened again", again, added, len(all), room-len(all), true)
		return
	}
	torn := max(done-len(was), 0)
	has(t, "opened again", again, list, len(was), room-len(was), torn == 0)
	if torn > 0 {
		is(t, "Add to a torn one", again.Add([]byte("x")), api.ErrState)
	}
	is(t, "Trim of a torn one", again.Trim(), api.OK)
	is(t, "Add once more", again.Add(added[len(added)-1]), api.OK)
	has(t, "once more", open(t, f, p.from, p.to), added, len(all), room-len(all), true)
}

// P25.3: a Stop that comes behind the writes of an Add counts on.
func TestAddAheadOfAStop(t *testing.T) {
	f, l := fresh(t, 8)
	f.Stop(3, 0)
	is(t, "Add over two blocks", l.Add(long(40)), api.OK)
	is(t, "Add in one", l.Add(long(10)), api.OK)
	is(t, "Add", l.Add(long(10)), api.ErrOff)
	has(t, "stopped", l, [][]byte{long(40), long(10)}, 50, 8*size-50, true)
}

// P25.6: just the blocks in which something else than noughts stands behind the records, rising, with what is ahead of their end.
func TestTrim(t *testing.T) {
	const from, blocks = 2, 16
	for what, list := range some() {
		b := joined(t, list)
		for then, tail := range behind(t) {
			f := fileOf(t, from+blocks+1, 'x')
			log.Clear(f, from, from+blocks)
			lay(t, f, from, append(slices.Clone(b), tail...))
			was := raw(f)
			whole := slices.Clone(was)
			clear(whole[from*size+len(b) : (from+blocks)*size])
			var want []written
			for n := from; n < from+blocks; n++ {
				if part := whole[n*size : (n+1)*size]; !bytes.Equal(part, was[n*size:(n+1)*size]) {
					want = append(want, written{n, string(part)})
				}
			}
			trim := func(f *block.File) api.Errno { return open(t, f, from, from+blocks).Trim() }
			if l, many := trace(t, f, trim); !slices.Equal(l, want) || many != len(want) || many == 0 {
				t.Fatalf("Trim of %s and %s: %d writes: %v; want %v", what, then, many, l, want)
			}
			l := open(t, f, from, from+blocks)
			is(t, "Trim", l.Trim(), api.OK)
			if !bytes.Equal(raw(f), whole) {
				t.Fatalf("Trim of %s and %s: the file is %q", what, then, raw(f))
			}
			room := blocks*size - len(b)
			has(t, "trimmed", l, list, len(b), room, true)
			has(t, "opened again", open(t, f, from, from+blocks), list, len(b), room, true)
			writes := f.Writes()
			is(t, "Trim of what is Clean", l.Trim(), api.OK)
			if f.Writes() != writes {
				t.Errorf("Trim of what is Clean writes")
			}
			is(t, "Add", l.Add([]byte("more")), api.OK)
			more := append(slices.Clone(list), []byte("more"))
			has(t, "added", open(t, f, from, from+blocks), more, len(b)+10, room-10, true)
		}
	}
}

// P25.6: of a log that is Clean no block is written, be it empty, full or neither.
func TestTrimOfAClean(t *testing.T) {
	for _, list := range [][][]byte{nil, {[]byte("a")}, {long(32)}, {long(64), long(32)}} {
		f, l := fresh(t, 3)
		for _, b := range list {
			is(t, "Add", l.Add(b), api.OK)
		}
		was := f.Copy()
		f.Stop(0, 0)
		is(t, "Trim", l.Trim(), api.OK)
		if f.Writes() != was.Writes() || !f.Same(was) || f.Off() {
			t.Errorf("Trim of %q writes", list)
		}
		hasAll(t, "trimmed", l, raw(f))
	}
}

// P25.6: the power goes in each write of a Trim, with each number of bytes: the records are the same.
func TestTrimWhosePowerGoes(t *testing.T) {
	const from, blocks = 1, 8
	tails := behind(t)
	tails["all of it"] = bytes.Repeat([]byte{'y'}, blocks*size)
	for _, list := range [][][]byte{nil, {[]byte("a")}, {long(32)}, {long(20), long(20)}} {
		b := joined(t, list)
		for _, tail := range tails {
			f := fileOf(t, from+blocks+1, 'x')
			log.Clear(f, from, from+blocks)
			lay(t, f, from, append(slices.Clone(b), tail[:min(len(tail), blocks*size-len(b))]...))
			_, writes := trace(t, f, func(f *block.File) api.Errno { return open(t, f, from, from+blocks).Trim() })
			for k := range writes {
				for many := range size + 1 {
					stopTrim(t, f.Copy(), power{from, from + blocks, k, many}, list)
				}
			}
		}
	}
}

// stopTrim trims a log of list with a stop, and asks all that is to be asked then.
func stopTrim(t *testing.T, f *block.File, p power, list [][]byte) {
	t.Helper()
	b := joined(t, list)
	room := (p.to-p.from)*size - len(b)
	l := open(t, f, p.from, p.to)
	f.Stop(p.k, p.many)
	is(t, "Trim", l.Trim(), api.ErrOff)
	now := raw(f)
	mine := now[p.from*size : p.to*size]
	hasAll(t, "power off", l, mine)
	if rest, _ := rec.All(mine); !slices.EqualFunc(rest, list, bytes.Equal) {
		t.Fatalf("Trim with the stop %v: the records are %q", p, rest)
	}
	for _, up := range []bool{false, true} {
		if up {
			f.Up()
		}
		is(t, "Trim behind ErrOff", l.Trim(), api.ErrState)
		is(t, "Add behind ErrOff", l.Add([]byte("x")), api.ErrState)
		is(t, "Add of nothing behind ErrOff", l.Add(nil), api.ErrSize)
	}
	if !bytes.Equal(raw(f), now) {
		t.Fatalf("behind ErrOff something is written: %v", p)
	}
	again := open(t, f, p.from, p.to)
	is(t, "Trim, opened again", again.Trim(), api.OK)
	has(t, "trimmed", again, list, len(b), room, true)
	if now := raw(f); now[p.from*size-1] != 'x' || now[p.to*size] != 'x' {
		t.Fatal("Trim writes beside the log")
	}
}

// P25.6: with the power off, also where no block is to be written; then it is as of an Add.
func TestTrimWithThePowerOff(t *testing.T) {
	for _, b := range [][]byte{nil, {1}, record(t, []byte("a")), append(record(t, []byte("a")), 1)} {
		f := fileOf(t, 2, 0)
		lay(t, f, 0, b)
		l, other := open(t, f, 0, 1), open(t, f, 0, 1)
		f.Stop(0, 0)
		f.Write(1, nil)
		was := f.Copy()
		is(t, "Trim", l.Trim(), api.ErrOff)
		is(t, "Trim again", l.Trim(), api.ErrState)
		is(t, "Add", l.Add([]byte("x")), api.ErrState)
		if f.Writes() != was.Writes() || !f.Same(was) {
			t.Error("with the power off something is written")
		}
		hasAll(t, "power off", l, raw(f)[:size])
		f.Up()
		is(t, "Trim with the power on", l.Trim(), api.ErrState)
		is(t, "Add with the power on", l.Add([]byte("x")), api.ErrState)
		// It is this log that has met it.
		is(t, "Trim of another one", other.Trim(), api.OK)
		is(t, "Add to another one", other.Add([]byte("x")), api.OK)
	}
}

// P25.6: an Add that met ErrOff with no byte written is one all the same; errors ahead of that are not.
func TestTrimBehindAnAdd(t *testing.T) {
	f := fileOf(t, 2, 0)
	l := open(t, f, 0, 1)
	f.Stop(0, 0)
	f.Write(1, nil)
	is(t, "Add without room", l.Add(long(33)), api.ErrFull)
	is(t, "Add of nothing", l.Add(nil), api.ErrSize)
	f.Up()
	is(t, "Trim behind other errors", l.Trim(), api.OK)
	is(t, "Add behind other errors", l.Add([]byte("a")), api.OK)
	f.Stop(0, 0)
	f.Write(1, nil)
	is(t, "Add with the power off", l.Add([]byte("a")), api.ErrOff)
	is(t, "Trim", l.Trim(), api.ErrState)
	f.Up()
	is(t, "Trim with the power on", l.Trim(), api.ErrState)
	has(t, "all the same", l, [][]byte{[]byte("a")}, 7, 25, true)
}

// P25.1 to P25.6: two logs in one file do not know of each other.
func TestTwoLogs(t *testing.T) {
	f := fileOf(t, 9, 'x')
	log.Clear(f, 1, 4)
	log.Clear(f, 4, 8)
	one, two := open(t, f, 1, 4), open(t, f, 4, 8)
	var first, second [][]byte
	for i := range 6 {
		is(t, "Add to one", one.Add(counting(10-i)), api.OK)
		is(t, "Add to the other", two.Add(counting(5+i)), api.OK)
		first, second = append(first, counting(10-i)), append(second, counting(5+i))
		a, b := len(joined(t, first)), len(joined(t, second))
		has(t, "one", one, first, a, 3*size-a, true)
		has(t, "other", two, second, b, 4*size-b, true)
	}
	is(t, "Add without room", one.Add(counting(20)), api.ErrFull)
	is(t, "Clear of one", log.Clear(f, 1, 4), api.OK)
	has(t, "one", one, nil, 0, 3*size, true)
	hasAll(t, "other", two, raw(f)[4*size:8*size])
	if l := two.Records(); !slices.EqualFunc(l, second, bytes.Equal) {
		t.Errorf("the other one has %q", l)
	}
	// The power goes in an Add to one: the other one is to be written again when it is on.
	f.Stop(0, 5)
	is(t, "Add to one", one.Add([]byte("a")), api.ErrOff)
	has(t, "other", two, second, len(joined(t, second)), 4*size-len(joined(t, second)), true)
	f.Up()
	is(t, "Add to one", one.Add([]byte("a")), api.ErrState)
	if two.Room() < 7 {
		t.Fatal("Room", two.Room())
	}
	is(t, "Add to the other", two.Add([]byte("a")), api.OK)
	if now := raw(f); now[size-1] != 'x' || now[8*size] != 'x' {
		t.Error("what is beside the logs is not as it was")
	}
}

// P25.1, P25.2, rule 1: a log that is opened twice; what one of both does the other one sees.
func TestOpenedTwice(t *testing.T) {
	f, one := fresh(t, 6)
	two := open(t, f, 0, 6)
	var list [][]byte
	for i := range 12 {
		l := one
		if i%2 == 1 {
			l = two
		}
		list = append(list, counting(i+1))
		is(t, "Add", l.Add(counting(i+1)), api.OK)
		for _, l := range []*log.Log{one, two, open(t, f, 0, 6)} {
			used := len(joined(t, list))
			has(t, "both", l, list, used, 6*size-used, true)
		}
	}
	is(t, "Clear", log.Clear(f, 0, 6), api.OK)
	has(t, "cleared", one, nil, 0, 6*size, true)
	is(t, "Add", two.Add([]byte("a")), api.OK)
	// One of both meets ErrOff; the other one may be trimmed.
	f.Stop(0, 10)
	is(t, "Add", one.Add([]byte("b")), api.ErrOff)
	f.Up()
	has(t, "torn", two, [][]byte{[]byte("a")}, 7, 6*size-7, false)
	is(t, "Add", two.Add([]byte("b")), api.ErrState)
	is(t, "Trim of one", one.Trim(), api.ErrState)
	is(t, "Trim of the other", two.Trim(), api.OK)
	is(t, "Add", two.Add([]byte("b")), api.OK)
	is(t, "Add", one.Add([]byte("c")), api.ErrState)
	has(t, "one", one, [][]byte{[]byte("a"), []byte("b")}, 14, 6*size-14, true)
}

// P25.2, P25.3, P25.6, rule 1: what is written to the file beside the log, it sees, with the power off, too.
func TestWrittenBeside(t *testing.T) {
	f, l := fresh(t, 4)
	is(t, "Add", l.Add([]byte("a")), api.OK)
	lay(t, f, 0, joined(t, [][]byte{[]byte("one"), []byte("two")}))
	has(t, "others", l, [][]byte{[]byte("one"), []byte("two")}, 18, 4*size-18, true)
	is(t, "Add", l.Add([]byte("three")), api.OK)
	hasAll(t, "three", l, raw(f))
	f.Write(3, []byte{9})
	has(t, "not Clean", l, [][]byte{[]byte("one"), []byte("two"), []byte("three")}, 29, 4*size-29, false)
	is(t, "Add", l.Add([]byte("four")), api.ErrState)
	f.Write(3, nil)
	is(t, "Add", l.Add([]byte("four")), api.OK)
	f.Write(2, []byte{9})
	is(t, "Trim", l.Trim(), api.OK)
	has(t, "trimmed", l, [][]byte{[]byte("one"), []byte("two"), []byte("three"), []byte("four")}, 39, 4*size-39, true)
	f.Stop(0, 3)
	f.Write(0, make([]byte, size))
	has(t, "power off", l, nil, 0, 4*size, false)
	is(t, "Add", l.Add([]byte("a")), api.ErrState)
	f.Up()
	has(t, "power on", l, nil, 0, 4*size, false)
	is(t, "Trim", l.Trim(), api.OK)
	is(t, "Add", l.Add([]byte("a")), api.OK)
}

// model is a log that is nothing but which blocks it has, and whether it has met ErrOff: what it tells it makes of the file's bytes.
type model struct {
	from, to int
	met      bool
}

// add is what Add must answer, and what the bytes of the file are then; the power goes behind so many writes from now on, with so many bytes (behind -1: it does not).
func (m *model) add(all []byte, off bool, behind, many int, b []byte) (api.Errno, []byte) {
	mine := all[m.from*size : m.to*size]
	_, used := rec.All(mine)
	record, why := rec.Put(b)
	switch {
	case why != api.OK:
		return why, all
	case m.met || bytes.Count(mine[used:], []byte{0}) != len(mine)-used:
		return api.ErrState, all
	case len(record) > len(mine)-used:
		return api.ErrFull, all
	case off:
		m.met = true
		return api.ErrOff, all
	}
	then := slices.Clone(all)
	start := m.from*size + used
	copy(then[start:], record)
	end := (start + len(record) + size - 1) / size
	stop := start/size + behind
	if behind < 0 || stop >= end {
		return api.OK, then
	}
	m.met = true
	return api.ErrOff, append(slices.Clone(then[:stop*size+many]), all[stop*size+many:]...)
}

// P25.1 to P25.5, P6: any calls, over a file that is written beside, too.
func TestAnyCalls(t *testing.T) {
	r := rand.New(rand.NewSource(25))
	for range 300 {
		f := fileOf(t, 12, 0)
		models := []*model{{0, 5, false}, {5, 11, false}, {0, 5, false}, {3, 12, false}}
		var logs []*log.Log
		for _, m := range models {
			logs = append(logs, open(t, f, m.from, m.to))
		}
		for range 60 {
			i := r.Intn(len(logs))
			l, m := logs[i], models[i]
			switch r.Intn(12) {
			case 0:
				b := counting(r.Intn(4))
				f.Write(r.Intn(12), b)
			case 1:
				log.Clear(f, m.from, m.to)
			case 2:
				f.Up()
			case 3:
				if open, why := log.Open(f, m.from, m.to); why == api.OK {
					logs[i], m.met = open, false
				} else if why != api.ErrOff || !f.Off() {
					t.Fatal("Open", why)
				}
			case 4:
				off, mine := f.Off(), raw(f)[m.from*size:m.to*size]
				want := api.OK
				if m.met {
					want = api.ErrState
				} else if off {
					want = api.ErrOff
				}
				records, used := rec.All(mine)
				is(t, "Trim", l.Trim(), want)
				m.met = m.met || off
				if want == api.OK {
					has(t, "trimmed", l, records, used, len(mine)-used, true)
				}
			default:
				b := counting(r.Intn(60))
				behind, many := -1, 0
				if r.Intn(4) == 0 && !f.Off() {
					behind, many = r.Intn(3), r.Intn(size+1)
					f.Stop(behind, many)
				}
				off := f.Off()
				why, then := m.add(raw(f), off, behind, many, b)
				is(t, "Add", l.Add(b), why)
				if !bytes.Equal(raw(f), then) {
					t.Fatalf("Add of %d = %d: the file is %q; want %q", len(b), why, raw(f), then)
				}
				// A Stop that did not come counts no more.
				if !f.Off() {
					f.Up()
				}
			}
			now := raw(f)
			for i, m := range models {
				hasAll(t, "any", logs[i], now[m.from*size:m.to*size])
			}
			if t.Failed() {
				return
			}
		}
	}
}
