package log_test

import (
	"bytes"
	"math"
	"slices"
	"strconv"
	"strings"
	"testing"

	"moiety/api"
	"moiety/block"
	"moiety/log"
	"moiety/rec"
)

const size = api.BlockSize

// fileOf is a file of so many blocks, all bytes of which are c.
func fileOf(t *testing.T, blocks int, c byte) *block.File {
	t.Helper()
	f, why := block.New(blocks)
	if why != api.OK {
		t.Fatal("block", why)
	}
	for n := range blocks {
		if c != 0 {
			f.Write(n, bytes.Repeat([]byte{c}, size))
		}
	}
	return f
}

// lay writes b into the blocks from one on, with noughts behind it in its last one.
func lay(t *testing.T, f *block.File, from int, b []byte) {
	t.Helper()
	for part := range slices.Chunk(b, size) {
		if why := f.Write(from, part); why != api.OK {
			t.Fatal("lay", from, why)
		}
		from++
	}
}

// raw is the bytes of all blocks, whatever the power is.
func raw(f *block.File) []byte {
	c := f.Copy()
	c.Up()
	var b []byte
	for n := range c.Size() {
		one, _ := c.Read(n)
		b = append(b, one...)
	}
	return b
}

func open(t *testing.T, f *block.File, from, to int) *log.Log {
	t.Helper()
	l, why := log.Open(f, from, to)
	if l == nil || why != api.OK {
		t.Fatalf("Open(%d, %d) = %v, %d", from, to, l, why)
	}
	return l
}

// fresh is a log of so many noughts' blocks, alone in a file.
func fresh(t *testing.T, blocks int) (*block.File, *log.Log) {
	t.Helper()
	f := fileOf(t, blocks, 0)
	return f, open(t, f, 0, blocks)
}

func is(t *testing.T, what string, got, want api.Errno) {
	t.Helper()
	if got != want {
		t.Errorf("%s = %d; want %d", what, got, want)
	}
}

// record is the bytes of a record.
func record(t *testing.T, b []byte) []byte {
	t.Helper()
	r, why := rec.Put(b)
	if why != api.OK {
		t.Fatal("rec", why)
	}
	return r
}

// joined is the bytes of records, one behind the other.
func joined(t *testing.T, l [][]byte) []byte {
	t.Helper()
	var b []byte
	for _, x := range l {
		b = append(b, record(t, x)...)
	}
	return b
}

// counting is so many bytes, none of them 0.
func counting(many int) []byte {
	b := make([]byte, many)
	for i := range b {
		b[i] = byte(i%255) + 1
	}
	return b
}

// long is a record's own bytes, so many that its bytes in all are many.
func long(many int) []byte {
	own := many - 6
	// From 63 on the number has two bytes.
	if own > 62 {
		own--
	}
	return counting(own)
}

// has holds all that a log tells.
func has(t *testing.T, what string, l *log.Log, records [][]byte, used, room int, clean bool) {
	t.Helper()
	if got := l.Records(); !slices.EqualFunc(got, records, bytes.Equal) {
		t.Errorf("%s: Records = %q; want %q", what, got, records)
	}
	if l.Used() != used || l.Room() != room || l.Clean() != clean {
		t.Errorf("%s: Used %d, Room %d, Clean %t; want %d, %d, %t", what, l.Used(), l.Room(), l.Clean(), used, room, clean)
	}
}

// hasAll holds all that a log tells against all bytes of its blocks.
func hasAll(t *testing.T, what string, l *log.Log, b []byte) {
	t.Helper()
	records, used := rec.All(b)
	clean := bytes.Count(b[used:], []byte{0}) == len(b)-used
	has(t, what, l, records, used, len(b)-used, clean)
}

// written is a write of a block: which one, and what is there behind it.
type written struct {
	n int
	b string
}

// trace is what each write that call does to a copy of f changes, in order, and how many writes it does in all; f is as it was.
func trace(t *testing.T, f *block.File, call func(f *block.File) api.Errno) ([]written, int) {
	t.Helper()
	var l []written
	was := raw(f)
	for many := range 1000 {
		c := f.Copy()
		c.Stop(many, size)
		why := call(c)
		if why == api.OK {
			if c.Writes()-f.Writes() != many {
				t.Errorf("%d writes; want %d", c.Writes()-f.Writes(), many)
			}
			return l, many
		}
		if why != api.ErrOff || c.Writes()-f.Writes() != many+1 {
			t.Fatalf("the power goes behind %d writes: %d, %d writes", many, why, c.Writes()-f.Writes())
		}
		now := raw(c)
		for n := range f.Size() {
			if b := now[n*size : (n+1)*size]; !bytes.Equal(b, was[n*size:(n+1)*size]) {
				l = append(l, written{n, string(b)})
			}
		}
		was = now
	}
	t.Fatal("it goes on writing")
	return nil, 0
}

// P25.1: of Clear and Open alike.
func TestBlocksThatCanNotBe(t *testing.T) {
	rows := []struct {
		blocks, from, to int
		want             api.Errno
	}{
		{6, -1, 2, api.ErrArg},
		{6, -1, 6, api.ErrArg},
		{6, math.MinInt, 3, api.ErrArg},
		{6, math.MinInt, math.MaxInt, api.ErrArg},
		{6, -3, -1, api.ErrArg},
		{6, -1, 0, api.ErrArg},
		{6, 0, 0, api.ErrArg},
		{6, 2, 2, api.ErrArg},
		{6, 6, 6, api.ErrArg},
		{6, 3, 2, api.ErrArg},
		{6, 5, 0, api.ErrArg},
		{6, 5, -1, api.ErrArg},
		{6, math.MaxInt, math.MinInt, api.ErrArg},
		{6, 0, 7, api.ErrArg},
		{6, 5, 7, api.ErrArg},
		{6, 6, 7, api.ErrArg},
		{6, 7, 8, api.ErrArg},
		{6, 0, math.MaxInt, api.ErrArg},
		{6, math.MaxInt - 1, math.MaxInt, api.ErrArg},
		{6, 0, 6, api.OK},
		{6, 0, 1, api.OK},
		{6, 5, 6, api.OK},
		{6, 2, 4, api.OK},
		{1, 0, 1, api.OK},
		{1, 0, 2, api.ErrArg},
		{1, 1, 2, api.ErrArg},
		{api.MaxBlocks, 0, api.MaxBlocks, api.OK},
		{api.MaxBlocks, 0, api.MaxBlocks + 1, api.ErrArg},
		{api.MaxBlocks, api.MaxBlocks - 1, api.MaxBlocks, api.OK},
	}
	for _, r := range rows {
		f := fileOf(t, r.blocks, 'x')
		was := f.Copy()
		l, why := log.Open(f, r.from, r.to)
		if why != r.want || (l != nil) != (why == api.OK) {
			t.Errorf("Open %v = %v, %d", r, l, why)
		}
		if f.Writes() != was.Writes() || !f.Same(was) {
			t.Errorf("Open %v wrote", r)
		}
		is(t, "Clear", log.Clear(f, r.from, r.to), r.want)
		if r.want != api.OK && (f.Writes() != was.Writes() || !f.Same(was)) {
			t.Errorf("Clear %v wrote", r)
		}
		is(t, "Clear of nil", log.Clear(nil, r.from, r.to), api.ErrNil)
		if l, why := log.Open(nil, r.from, r.to); l != nil || why != api.ErrNil {
			t.Errorf("Open of nil = %v, %d", l, why)
		}
		// ErrArg is named ahead of ErrOff.
		want := r.want
		if want == api.OK {
			want = api.ErrOff
		}
		f.Stop(0, 0)
		f.Write(0, nil)
		was = f.Copy()
		is(t, "Clear with the power off", log.Clear(f, r.from, r.to), want)
		if l, why := log.Open(f, r.from, r.to); l != nil || why != want {
			t.Errorf("Open with the power off %v = %v, %d", r, l, why)
		}
		if f.Writes() != was.Writes() || !f.Same(was) || !f.Off() {
			t.Errorf("%v: with the power off something is written", r)
		}
	}
}

// P25.1, P6: a file that New did not make has no blocks.
func TestFileOfNothing(t *testing.T) {
	for _, to := range []int{-1, 0, 1} {
		is(t, "Clear", log.Clear(&block.File{}, 0, to), api.ErrArg)
		if l, why := log.Open(&block.File{}, 0, to); l != nil || why != api.ErrArg {
			t.Errorf("Open = %v, %d", l, why)
		}
	}
}

// P25.1: just these blocks, each once, rising, with noughts.
func TestClear(t *testing.T) {
	for _, r := range [][2]int{{0, 1}, {0, 6}, {2, 3}, {1, 5}, {5, 6}} {
		f := fileOf(t, 6, 'x')
		clear := func(f *block.File) api.Errno { return log.Clear(f, r[0], r[1]) }
		var want []written
		for n := r[0]; n < r[1]; n++ {
			want = append(want, written{n, string(make([]byte, size))})
		}
		if l, many := trace(t, f, clear); !slices.Equal(l, want) || many != len(want) {
			t.Errorf("Clear %v: %d writes, %v", r, many, l)
		}
		is(t, "Clear", clear(f), api.OK)
		is(t, "Clear again", clear(f), api.OK)
		if f.Writes() != 6+2*(r[1]-r[0]) {
			t.Errorf("Clear %v: %d writes: noughts are written over noughts, too", r, f.Writes())
		}
		now := raw(f)
		for i, c := range now {
			inside := i >= r[0]*size && i < r[1]*size
			if inside != (c == 0) || !inside && c != 'x' {
				t.Fatalf("Clear %v: the byte %d is %d", r, i, c)
			}
		}
		has(t, "cleared", open(t, f, r[0], r[1]), nil, 0, (r[1]-r[0])*size, true)
	}
}

// P25.1: the power goes in each of its writes, with each number of bytes.
func TestClearWhosePowerGoes(t *testing.T) {
	const from, to = 1, 4
	for k := range to - from {
		for many := range size + 1 {
			f := fileOf(t, 5, 'x')
			want := raw(f)
			clear(want[from*size : (from+k)*size+many])
			f.Stop(k, many)
			is(t, "Clear", log.Clear(f, from, to), api.ErrOff)
			if !bytes.Equal(raw(f), want) || !f.Off() || f.Writes() != 5+k+1 {
				t.Fatalf("Clear with a stop %d, %d: %q, %d writes", k, many, raw(f), f.Writes())
			}
		}
	}
	f := fileOf(t, 5, 'x')
	f.Stop(to-from, 0)
	is(t, "Clear ahead of a stop", log.Clear(f, from, to), api.OK)
}

// P25.2, P25.3, P25.6, P6: of nil, and of a log that Open did not make.
func TestNil(t *testing.T) {
	for _, l := range []*log.Log{nil, {}} {
		has(t, "nil", l, nil, 0, 0, false)
		for _, many := range []int{0, 1, api.MaxRec, api.MaxRec + 1} {
			is(t, "Add", l.Add(counting(many)), api.ErrNil)
		}
		is(t, "Add of nil", l.Add(nil), api.ErrNil)
		is(t, "Trim", l.Trim(), api.ErrNil)
		has(t, "nil", l, nil, 0, 0, false)
	}
}

// some are lists of records: none, short ones, ones that end at a block's end, ones over several blocks.
func some() map[string][][]byte {
	return map[string][][]byte{
		"none":             nil,
		"one":              {[]byte("a")},
		"three":            {[]byte("a"), []byte("bc"), []byte("a")},
		"noughts":          {{0}, {0, 0, 0}, make([]byte, 40)},
		"marks":            {{rec.Mark}, bytes.Repeat([]byte{rec.Mark}, 30)},
		"to a block's end": {long(32)},
		"to two ends":      {long(32), long(32)},
		"to an end in two": {long(10), long(22)},
		"over two blocks":  {long(20), long(20)},
		"over an end by 1": {long(33)},
		"an end less 1":    {long(31)},
		"two whole blocks": {long(64)},
		"greatest":         {counting(api.MaxRec)},
		"short, greatest":  {[]byte("a"), counting(api.MaxRec), []byte("b")},
	}
}

// behind is what may stand behind records, beside noughts alone.
func behind(t *testing.T) map[string][]byte {
	t.Helper()
	one := record(t, []byte("some more"))
	wrong := func(at int, c byte) []byte {
		b := slices.Clone(one)
		b[at] ^= c
		return b
	}
	far := func(n int, b ...byte) []byte { return append(make([]byte, n), b...) }
	return map[string][]byte{
		"a byte":                   {1},
		"torn by a byte":           one[:len(one)-1],
		"torn":                     one[:4],
		"another Sum":              wrong(len(one)-2, 1),
		"another byte":             wrong(3, 1),
		"another Mark":             wrong(len(one)-1, 1),
		"no number":                {0x80, 0},
		"a number without an end":  bytes.Repeat([]byte{0xff}, 70),
		"too great":                {0xff, 0x7f},
		"a record behind a nought": far(1, one...),
		"a byte in the next block": far(size, 7),
		"a byte far behind":        far(3*size-1, 7),
		"a record far behind":      far(3*size, one...),
		"two blocks":               bytes.Repeat([]byte{'x'}, 2*size),
		"torn, and more":           append(slices.Clone(one[:5]), far(2*size, 'y')...),
	}
}

// P25.2: of each list, with noughts behind it and with something else, at the log's beginning in the file and behind it.
func TestWhatIsThere(t *testing.T) {
	const from, blocks = 2, 16
	for what, list := range some() {
		b := joined(t, list)
		f := fileOf(t, from+blocks+1, 'x')
		log.Clear(f, from, from+blocks)
		lay(t, f, from, b)
		has(t, what, open(t, f, from, from+blocks), list, len(b), blocks*size-len(b), true)
		for then, tail := range behind(t) {
			all := append(slices.Clone(b), tail...)
			log.Clear(f, from, from+blocks)
			lay(t, f, from, all)
			l := open(t, f, from, from+blocks)
			has(t, what+" and "+then, l, list, len(b), blocks*size-len(b), false)
			is(t, "Add behind "+then, l.Add([]byte("x")), api.ErrState)
			was := f.Copy()
			has(t, what+" and "+then, l, list, len(b), blocks*size-len(b), false)
			if f.Writes() != was.Writes() || !f.Same(was) {
				t.Errorf("%s and %s: asking writes", what, then)
			}
		}
		// Just as many blocks as they need, and one byte wrong at their end, if that is within a block.
		need := (len(b) + size - 1) / size
		if need == 0 {
			continue
		}
		log.Clear(f, from, from+blocks)
		lay(t, f, from, b)
		has(t, what, open(t, f, from, from+need), list, len(b), need*size-len(b), true)
		if len(b) < need*size {
			last := make([]byte, need*size)
			copy(last, b)
			last[need*size-1] = 1
			lay(t, f, from, last)
			has(t, what, open(t, f, from, from+need), list, len(b), need*size-len(b), false)
		}
	}
}

// P25.2: a record whose last bytes are of a block behind the log is none.
func TestRecordsEndWithTheLog(t *testing.T) {
	f := fileOf(t, 4, 0)
	lay(t, f, 1, joined(t, [][]byte{[]byte("a"), long(40)}))
	has(t, "one block", open(t, f, 1, 2), [][]byte{[]byte("a")}, 7, 25, false)
	has(t, "two blocks", open(t, f, 1, 3), [][]byte{[]byte("a"), long(40)}, 47, 17, true)
	has(t, "from the second on", open(t, f, 2, 3), nil, 0, 32, false)
	has(t, "noughts", open(t, f, 3, 4), nil, 0, 32, true)
	// 0 bytes of room are all 0.
	lay(t, f, 1, joined(t, [][]byte{long(32)}))
	has(t, "full", open(t, f, 1, 2), [][]byte{long(32)}, 32, 0, true)
}

// P25.2, rule 4
func TestRecordsAreOnesOwn(t *testing.T) {
	f, l := fresh(t, 8)
	list := [][]byte{[]byte("one"), []byte("two"), []byte("three")}
	for _, b := range list {
		is(t, "Add", l.Add(b), api.OK)
	}
	for _, l := range []*log.Log{l, open(t, f, 0, 8)} {
		first, again := l.Records(), l.Records()
		for i := range first[1] {
			first[1][i] = 'x'
		}
		_ = append(first[0], "more than there was"...)
		_ = append(first[:1], []byte("none"))
		first[2] = nil
		if !slices.EqualFunc(again, list, bytes.Equal) {
			t.Errorf("another answer is %q", again)
		}
		hasAll(t, "spoilt", l, raw(f))
		is(t, "Add", l.Add([]byte("four")), api.OK)
		list = append(list, []byte("four"))
		has(t, "behind another one", l, list, len(joined(t, list)), 8*size-len(joined(t, list)), true)
	}
}

// P25.1 to P25.4: the chapter's example, and more of them.
func TestAddAndOpen(t *testing.T) {
	f := fileOf(t, 40, 'x')
	is(t, "Clear", log.Clear(f, 3, 37), api.OK)
	l := open(t, f, 3, 37)
	has(t, "new", l, nil, 0, 34*size, true)
	var list [][]byte
	for _, b := range [][]byte{[]byte("a"), {0}, long(32), counting(api.MaxRec), {rec.Mark}, long(64), long(17), make([]byte, 100)} {
		is(t, "Add", l.Add(b), api.OK)
		list = append(list, b)
		used := len(joined(t, list))
		has(t, "added", l, list, used, 34*size-used, true)
		has(t, "opened again", open(t, f, 3, 37), list, used, 34*size-used, true)
	}
	want := bytes.Repeat([]byte{'x'}, 40*size)
	clear(want[3*size : 37*size])
	copy(want[3*size:], joined(t, list))
	if !bytes.Equal(raw(f), want) {
		t.Errorf("the file is %q", raw(f))
	}
}

// P25.3: the blocks in which the record's bytes are, rising, each once, behind each number of bytes that are there already.
func TestWhatAddWrites(t *testing.T) {
	const from, blocks = 1, 12
	for there := range 2*size + 1 {
		f := fileOf(t, from+blocks+1, 'x')
		log.Clear(f, from, from+blocks)
		var ahead []byte
		if there >= 7 {
			ahead = record(t, long(there))
		}
		lay(t, f, from, ahead)
		for _, many := range []int{7, 8, 25, 26, 31, 32, 33, 63, 64, 65, 96, api.MaxRec + 7} {
			b := long(many)
			all := append(slices.Clone(ahead), record(t, b)...)
			if len(all) != len(ahead)+many {
				t.Fatal("a record's bytes are", len(all)-len(ahead))
			}
			var want []written
			for n := len(ahead) / size; n*size < len(all); n++ {
				part := make([]byte, size)
				copy(part, all[n*size:])
				want = append(want, written{from + n, string(part)})
			}
			add := func(f *block.File) api.Errno { return open(t, f, from, from+blocks).Add(b) }
			if l, count := trace(t, f, add); !slices.Equal(l, want) || count != len(want) {
				t.Fatalf("Add of %d behind %d: %d writes: %v; want %v", many, len(ahead), count, l, want)
			}
			c := f.Copy()
			is(t, "Add", add(c), api.OK)
			// What the log is for, and all that is not of it, is as it must be: noughts behind the record, too.
			now := raw(c)
			whole := make([]byte, blocks*size)
			copy(whole, all)
			if !bytes.Equal(now[from*size:(from+blocks)*size], whole) || now[from*size-1] != 'x' || now[(from+blocks)*size] != 'x' {
				t.Fatalf("Add of %d behind %d: the file is %q", many, len(ahead), now)
			}
		}
	}
}

// P25.3, rules 4 and 5: b is neither changed nor kept, and its room is none of it.
func TestAddKeepsNothing(t *testing.T) {
	f, l := fresh(t, 4)
	room := []byte("hello and more")
	is(t, "Add", l.Add(room[:5]), api.OK)
	is(t, "Add of nothing", l.Add(room[:0]), api.ErrSize)
	is(t, "Add of another one", l.Add(room[6:9]), api.OK)
	f.Stop(0, 3)
	other := open(t, f, 0, 4)
	if string(room) != "hello and more" {
		t.Errorf("Add changed what it was given: %q", room)
	}
	for i := range room {
		room[i] = 'z'
	}
	// Each asks without a write in between, and behind one.
	list := [][]byte{[]byte("hello"), []byte("and")}
	for range 2 {
		for _, l := range []*log.Log{l, other, open(t, f, 0, 4)} {
			if r := l.Records(); !slices.EqualFunc(r, list, bytes.Equal) {
				t.Errorf("Records = %q", r)
			}
		}
		is(t, "Add that is stopped", other.Add(room[:7]), api.ErrOff)
		if string(room) != strings.Repeat("z", len(room)) {
			t.Errorf("Add changed what it was given: %q", room)
		}
		f.Up()
		other = open(t, f, 0, 4)
		is(t, "Trim", other.Trim(), api.OK)
		f.Stop(0, 3)
	}
}

// P25.3: rec.Put's error.
func TestAddOfWrongSizes(t *testing.T) {
	f, l := fresh(t, 20)
	was := f.Copy()
	for _, b := range [][]byte{nil, {}, counting(api.MaxRec + 1), counting(api.MaxRec + 2), make([]byte, 100000)} {
		is(t, "Add", l.Add(b), api.ErrSize)
	}
	if f.Writes() != 0 || !f.Same(was) {
		t.Error("a refused Add writes")
	}
	has(t, "refused", l, nil, 0, 20*size, true)
	is(t, "Add of 1", l.Add([]byte("a")), api.OK)
	is(t, "Add of MaxRec", l.Add(counting(api.MaxRec)), api.OK)
	has(t, "both", l, [][]byte{[]byte("a"), counting(api.MaxRec)}, 7+api.MaxRec+7, 20*size-7-api.MaxRec-7, true)
}

// P25.3: a Room of just as many bytes as the record has, and of one less.
func TestAddIntoLittleRoom(t *testing.T) {
	for _, blocks := range []int{1, 2, 3, 9} {
		for many := 7; many <= min(blocks*size, api.MaxRec+7); many++ {
			rest := blocks*size - many
			// As many bytes are ahead as leave just the room; a record has 7 at least.
			if many == 69 || rest == 69 || rest > api.MaxRec+7 || rest > 0 && rest < 7 {
				continue
			}
			f, l := fresh(t, blocks)
			var list [][]byte
			if rest > 0 {
				list = append(list, long(rest))
				is(t, "Add", l.Add(list[0]), api.OK)
			}
			if l.Room() != many {
				t.Fatal("Room", l.Room(), many)
			}
			was := f.Copy()
			if own := len(long(many)); own < api.MaxRec {
				is(t, "Add of one more", l.Add(counting(own+1)), api.ErrFull)
			}
			if f.Writes() != was.Writes() || !f.Same(was) {
				t.Fatal("a refused Add writes")
			}
			has(t, "full", l, list, rest, many, true)
			is(t, "Add of just as many "+strconv.Itoa(many), l.Add(long(many)), api.OK)
			list = append(list, long(many))
			has(t, "full", l, list, blocks*size, 0, true)
			is(t, "Add without room", l.Add([]byte("a")), api.ErrFull)
			has(t, "full, again", open(t, f, 0, blocks), list, blocks*size, 0, true)
			is(t, "Trim", l.Trim(), api.OK)
		}
	}
}

// P25.3, rule 2: of several errors the one named first.
func TestAddErrorNamedFirst(t *testing.T) {
	wrong := [][]byte{nil, counting(api.MaxRec + 1)}
	f := fileOf(t, 2, 0)
	lay(t, f, 0, append(record(t, []byte("a")), 1))
	l := open(t, f, 0, 1)
	big := counting(40)
	// Not Clean: ErrSize ahead of it; ErrFull and ErrOff behind it.
	for _, b := range wrong {
		is(t, "Add of a wrong size, not Clean", l.Add(b), api.ErrSize)
	}
	is(t, "Add without room, not Clean", l.Add(big), api.ErrState)
	clean := open(t, f, 1, 2)
	is(t, "Add without room", clean.Add(big), api.ErrFull)
	f.Stop(0, 0)
	f.Write(1, nil)
	// The power is off.
	for _, x := range []*log.Log{l, clean} {
		for _, b := range wrong {
			is(t, "Add of a wrong size, power off", x.Add(b), api.ErrSize)
		}
	}
	is(t, "Add, not Clean, power off", l.Add([]byte("x")), api.ErrState)
	is(t, "Add without room, not Clean, power off", l.Add(big), api.ErrState)
	is(t, "Add without room, power off", clean.Add(big), api.ErrFull)
	is(t, "Add without room, power off, again", clean.Add(big), api.ErrFull)
	is(t, "Add, power off", clean.Add([]byte("x")), api.ErrOff)
	// It has met ErrOff.
	for _, up := range []bool{false, true} {
		if up {
			f.Up()
		}
		for _, b := range wrong {
			is(t, "Add of a wrong size behind ErrOff", clean.Add(b), api.ErrSize)
		}
		is(t, "Add behind ErrOff", clean.Add([]byte("x")), api.ErrState)
		is(t, "Add without room behind ErrOff", clean.Add(big), api.ErrState)
		is(t, "Trim behind ErrOff", clean.Trim(), api.ErrState)
	}
	is(t, "Add to another one", open(t, f, 1, 2).Add([]byte("x")), api.OK)
	is(t, "Add behind ErrOff", clean.Add([]byte("x")), api.ErrState)
}

// P25.3, P25.4: as many records as a file has room for, in a time that grows as they do.
func TestVeryManyRecords(t *testing.T) {
	f, l := fresh(t, api.MaxBlocks)
	one := len(record(t, []byte{0}))
	many := api.MaxBlocks * size / one
	for i := range many {
		if why := l.Add([]byte{byte(i)}); why != api.OK || l.Used() != (i+1)*one {
			t.Fatal("Add", i, why, l.Used())
		}
	}
	is(t, "Add without room", l.Add([]byte("a")), api.ErrFull)
	again := open(t, f, 0, api.MaxBlocks)
	if r := again.Records(); len(r) != many || string(r[many-1]) != string([]byte{byte((many - 1) % 256)}) || !again.Clean() {
		t.Error("Records", len(r))
	}
}
