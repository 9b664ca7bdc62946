package store_test

import (
	"bytes"
	"encoding/binary"
	"math/rand"
	"slices"
	"strconv"
	"testing"

	"moiety/api"
	"moiety/block"
	"moiety/cube"
	"moiety/rec"
	"moiety/snap"
	"moiety/store"
)

const size = api.BlockSize

// catOf is a catalogue of so many measures, and of dimensions whose members stand below those of each list; as many leaves may have a value as there may be, and so many scenarios be there.
func catOf(scens, measures int, ups ...[]int) api.Cat {
	cat := api.Cat{Leaves: api.MaxLeaves, Scens: scens}
	for i := range measures {
		cat.Meas = append(cat.Meas, "m"+strconv.Itoa(i))
	}
	for k, l := range ups {
		d := api.Dim{Name: "d" + strconv.Itoa(k)}
		for i, up := range l {
			d.Nodes = append(d.Nodes, api.Node{Name: "n" + strconv.Itoa(i), Up: up})
		}
		cat.Dims = append(cat.Dims, d)
	}
	return cat
}

// tiny is a catalogue of one leaf, whose new cube has room in a file of 8 blocks.
func tiny() api.Cat { return catOf(2, 1, []int{-1}) }

// deep is two measures of all 0; 1 and 2 below it; 3 and 4 below 1.
func deep() api.Cat { return catOf(4, 2, []int{-1, 0, 0, 1, 1}) }

func cats() map[string]api.Cat {
	return map[string]api.Cat{
		"tiny":  tiny(),
		"deep":  deep(),
		"two":   catOf(8, 2, []int{-1, 0, 0, 1}, []int{-1, 0, 0}),
		"three": catOf(3, 1, []int{5, -1, 5, 4, -1, -1, 4}, []int{1, 2, -1}, []int{-1, -1}),
	}
}

func newCube(t *testing.T, cat api.Cat) *cube.Cube {
	t.Helper()
	c, _, why := cube.New(cat)
	if why != api.OK {
		t.Fatal("cube", why)
	}
	return c
}

// copyOf is another cube, as c is.
func copyOf(t *testing.T, c *cube.Cube) *cube.Cube {
	t.Helper()
	other, why := snap.Get(snap.Put(c))
	if why != api.OK {
		t.Fatal("a copy of a cube", why)
	}
	return other
}

// fileOf is a file of so many blocks, each full of a byte.
func fileOf(t *testing.T, blocks int, with byte) *block.File {
	t.Helper()
	f, why := block.New(blocks)
	if why != api.OK {
		t.Fatal("block", why)
	}
	for n := range blocks {
		f.Write(n, bytes.Repeat([]byte{with}, size))
	}
	return f
}

// fileWith is a file with just these bytes.
func fileWith(t *testing.T, b []byte) *block.File {
	t.Helper()
	f, why := block.New(len(b) / size)
	if why != api.OK {
		t.Fatal("block", why)
	}
	for n := range f.Size() {
		f.Write(n, b[n*size:(n+1)*size])
	}
	return f
}

// raw is all bytes of a file, whatever its power is.
func raw(f *block.File) []byte {
	c := f.Copy()
	c.Up()
	var b []byte
	for n := range c.Size() {
		one, _ := c.Read(n)
		b = append(b, one...)
	}
	return b
}

// powerless turns the power of f off, and changes no block.
func powerless(f *block.File) *block.File {
	f.Stop(0, 0)
	f.Write(0, nil)
	return f
}

// written is what is written into a block.
type written struct {
	n int
	b string
}

// headOf is a head's bytes.
func headOf(e, bytes uint64) []byte {
	var b []byte
	for _, n := range []uint64{e, bytes, 0, e} {
		b = binary.LittleEndian.AppendUint64(b, n)
	}
	return b
}

// areaOf is the blocks of an epoch's area, in a file of so many.
func areaOf(blocks int, e int64) (from, to int) {
	h := (blocks - 2) / 2
	if e%2 == 0 {
		return 2, 2 + h
	}
	return 2 + h, 2 + 2*h
}

// forge makes e an epoch of f, with these bytes of a cube, and these behind their last block in its area.
func forge(f *block.File, e int64, picture, behind []byte) {
	from, to := areaOf(f.Size(), e)
	all := append(padded(picture), behind...)
	for n := from; n < to; n++ {
		part := all[:min(size, len(all))]
		all = all[len(part):]
		f.Write(n, part)
	}
	f.Write(int(e%2), headOf(uint64(e), uint64(len(picture))))
}

// padded is b and noughts up to the end of its last block.
func padded(b []byte) []byte {
	return append(slices.Clone(b), make([]byte, -len(b)&(size-1))...)
}

// recordsOf is the bytes of records.
func recordsOf(t *testing.T, l ...[]byte) []byte {
	t.Helper()
	var all []byte
	for _, own := range l {
		b, why := rec.Put(own)
		if why != api.OK {
			t.Fatal("rec.Put", why)
		}
		all = append(all, b...)
	}
	return all
}

// lean is what the chapter says that a command has.
func lean(x api.Cmd) api.Cmd {
	in := func(kinds ...int) bool { return slices.Contains(kinds, x.Kind) }
	y := api.Cmd{Kind: x.Kind, Scen: x.Scen}
	if in(api.CSet, api.CLock, api.CUnlock, api.CMerge) {
		y.User = x.User
	}
	if in(api.CSet, api.CHold, api.CRelease, api.CLock, api.CUnlock) {
		y.Cell = x.Cell
	}
	if in(api.CSet) {
		y.N, y.How = x.N, x.How
		if x.How == api.Weight {
			y.Meas = x.Meas
		}
	}
	if in(api.CBranch, api.CMerge) {
		y.Other = x.Other
	}
	if in(api.CMerge) {
		y.How = x.How
	}
	return y
}

// lineOf is a command's bytes.
func lineOf(x api.Cmd) []byte {
	b := binary.AppendVarint(nil, int64(x.Kind))
	for _, s := range []string{x.User, x.Scen, x.Other} {
		b = append(binary.AppendVarint(b, int64(len(s))), s...)
	}
	for _, n := range []int64{int64(x.Cell.Meas), int64(x.Cell.At[0]), int64(x.Cell.At[1]), int64(x.Cell.At[2]), int64(x.Cell.At[3]), x.N, int64(x.How), int64(x.Meas)} {
		b = binary.AppendVarint(b, n)
	}
	return b
}

// twin is a store by the words of the chapter alone: all bytes that its file has, and a cube to which all is done.
type twin struct {
	bytes []byte
	cube  *cube.Cube
	epoch int64
	// The log's bytes are from one on up to ahead of another one, and its records have so many of them.
	from, to, used int
	records        int
}

// course is what comes of a call: an answer, what is written, one block behind another, and what is so when all of it is.
type course struct {
	reply  api.Reply
	writes []written
	then   twin
}

// without is the course of a call that writes nothing.
func (m twin) without(r api.Reply) course { return course{reply: r, then: m} }

// write adds a block to what is written.
func (c *course) write(n int, b []byte) {
	b = append(slices.Clone(b), make([]byte, size-len(b))...)
	c.writes = append(c.writes, written{n, string(b)})
	c.then.bytes = slices.Clone(c.then.bytes)
	copy(c.then.bytes[n*size:], b)
}

// lay is the course of a cube that is laid as the next epoch.
func (m twin) lay(t *testing.T, next *cube.Cube, r api.Reply) course {
	t.Helper()
	e, picture := m.epoch+1, snap.Put(next)
	from, to := areaOf(len(m.bytes)/size, e)
	b := padded(picture)
	if len(b)/size+1 > to-from {
		return m.without(api.Reply{Why: api.ErrFull})
	}
	c := m.without(r)
	for n := from; n < to; n++ {
		part := b[:min(size, len(b))]
		b = b[len(part):]
		c.write(n, part)
	}
	c.write(int(e%2), headOf(uint64(e), uint64(len(picture))))
	c.then.cube, c.then.epoch, c.then.used, c.then.records = next, e, 0, 0
	c.then.from, c.then.to = (from*size)+len(padded(picture)), to*size
	return c
}

// create is the course of Create, in a file of these bytes.
func create(t *testing.T, all []byte, cat api.Cat) course {
	t.Helper()
	m := twin{bytes: all}
	c := m.without(api.Reply{})
	c.write(0, nil)
	c.write(1, nil)
	laid := c.then.lay(t, newCube(t, cat), api.Reply{})
	laid.writes = append(c.writes, laid.writes...)
	return laid
}

// do is the course of a command.
func (m twin) do(t *testing.T, x api.Cmd) course {
	t.Helper()
	next := copyOf(t, m.cube)
	r := next.Do(x)
	if !cube.Changes(x.Kind) || r.Why != api.OK {
		return m.without(r)
	}
	b := recordsOf(t, lineOf(lean(x)))
	if m.from+m.used+len(b) > m.to {
		return m.lay(t, next, r)
	}
	c := m.without(r)
	c.then.cube, c.then.used, c.then.records = next, m.used+len(b), m.records+1
	all := slices.Clone(m.bytes)
	copy(all[m.from+m.used:], b)
	for n := (m.from + m.used) / size; n*size < m.from+m.used+len(b); n++ {
		c.write(n, all[n*size:(n+1)*size])
	}
	return c
}

// compact is the course of Compact.
func (m twin) compact(t *testing.T) course {
	t.Helper()
	return m.lay(t, m.cube, api.Reply{})
}

// open is the course of Open: what stands behind the records goes.
func (m twin) open() course {
	c := m.without(api.Reply{})
	end := m.from + m.used
	for n := end / size; n < m.to/size; n++ {
		keep := max(end-n*size, 0)
		if b := m.bytes[n*size : (n+1)*size]; !bytes.Equal(b[keep:], make([]byte, size-keep)) {
			c.write(n, b[:keep])
		}
	}
	return c
}

// torn is the bytes of the file, if the power goes in the write behind so many others, of which so many bytes are written.
func (c course) torn(was []byte, behind, many int) []byte {
	b := slices.Clone(was)
	for i, w := range c.writes[:behind+1] {
		part := w.b
		if i == behind {
			part = w.b[:many]
		}
		copy(b[w.n*size:], part)
	}
	return b
}

// rig is a store, its file, and its twin.
type rig struct {
	f *block.File
	s *store.Store
	m twin
}

// newRig is one of a new store, in a file of so many blocks.
func newRig(t *testing.T, blocks int, cat api.Cat) *rig {
	t.Helper()
	f := fileOf(t, blocks, 0)
	c := create(t, raw(f), cat)
	s, why := store.Create(f, cat)
	if s == nil || why != c.reply.Why || why != api.OK {
		t.Fatalf("Create = %v, %d; want %d", s, why, c.reply.Why)
	}
	r := &rig{f, s, c.then}
	r.holds(t, "Create")
	return r
}

// other is a rig as r is, of its own; the store is opened again.
func (r *rig) other(t *testing.T) *rig {
	t.Helper()
	f := r.f.Copy()
	s, why := store.Open(f)
	if why != api.OK {
		t.Fatal("Open", why)
	}
	return &rig{f, s, r.m}
}

// holds the store and its file against the twin.
func (r *rig) holds(t *testing.T, what string) {
	t.Helper()
	if !bytes.Equal(raw(r.f), r.m.bytes) {
		t.Fatalf("%s: the file is\n%x; want\n%x", what, raw(r.f), r.m.bytes)
	}
	if r.s.Epoch() != r.m.epoch || r.s.Records() != r.m.records || r.s.Dead() {
		t.Fatalf("%s: epoch %d, %d records, dead %v; want %d, %d", what, r.s.Epoch(), r.s.Records(), r.s.Dead(), r.m.epoch, r.m.records)
	}
	if !bytes.Equal(snap.Put(r.s.Cube()), snap.Put(r.m.cube)) {
		t.Fatalf("%s: the cube is not as it must be", what)
	}
}

// call does a call whose course is c, with a power that goes in the write behind so many others, if there are as many (-1: it does not), and tells whether it went.
func (r *rig) call(t *testing.T, what string, c course, behind, many int, call func() api.Reply) bool {
	t.Helper()
	if behind >= 0 {
		r.f.Stop(behind, many)
	}
	was, writes, kept := r.m, r.f.Writes(), r.s.Cube()
	reply := call()
	if behind < 0 || behind >= len(c.writes) {
		r.f.Up()
		r.m = c.then
		if !sameReply(reply, c.reply) || r.f.Writes() != writes+len(c.writes) {
			t.Fatalf("%s = %+v, %d writes; want %+v, %d", what, reply, r.f.Writes()-writes, c.reply, len(c.writes))
		}
		if r.s.Cube() != kept {
			t.Fatalf("%s: whoever was told the cube does not see it any more", what)
		}
		r.holds(t, what)
		return false
	}
	if !sameReply(reply, api.Reply{Why: api.ErrOff}) {
		t.Fatalf("%s with the stop %d, %d = %+v", what, behind, many, reply)
	}
	r.m.bytes = c.torn(was.bytes, behind, many)
	r.dead(t, what, writes+behind+1)
	if r.s.Cube() != kept || !bytes.Equal(snap.Put(kept), snap.Put(was.cube)) || r.s.Epoch() != was.epoch || r.s.Records() != was.records {
		t.Fatalf("%s with the stop %d, %d: the store is not as ahead of it", what, behind, many)
	}
	if bytes.Equal(r.m.bytes, c.then.bytes) {
		r.m = c.then
	}
	return true
}

// dead holds that a store answers ErrOff alone, with the power off and on, and writes nothing.
func (r *rig) dead(t *testing.T, what string, writes int) {
	t.Helper()
	for _, up := range []bool{false, true} {
		if up {
			r.f.Up()
		}
		for kind := range api.CTop + 2 {
			for _, name := range []string{"main", ""} {
				if reply := r.s.Do(api.Cmd{Kind: kind, Scen: name, User: "ann", Other: "other"}); !sameReply(reply, api.Reply{Why: api.ErrOff}) {
					t.Fatalf("%s, dead: Do of %d = %+v", what, kind, reply)
				}
			}
		}
		if why := r.s.Compact(); why != api.ErrOff || !r.s.Dead() {
			t.Fatalf("%s, dead: Compact = %d, Dead %v", what, why, r.s.Dead())
		}
	}
	if !bytes.Equal(raw(r.f), r.m.bytes) || r.f.Writes() != writes {
		t.Fatalf("%s: the file is\n%x; want\n%x", what, raw(r.f), r.m.bytes)
	}
}

// do does a command, with a stop.
func (r *rig) do(t *testing.T, x api.Cmd, behind, many int) bool {
	t.Helper()
	return r.call(t, "Do of "+strconv.Itoa(x.Kind), r.m.do(t, x), behind, many, func() api.Reply { return r.s.Do(x) })
}

// compact is Compact, with a stop.
func (r *rig) compact(t *testing.T, behind, many int) bool {
	t.Helper()
	return r.call(t, "Compact", r.m.compact(t), behind, many, func() api.Reply { return api.Reply{Why: r.s.Compact()} })
}

// open opens the file again, with a stop, and tells whether the power went.
func (r *rig) open(t *testing.T, behind, many int) bool {
	t.Helper()
	c := r.m.open()
	if behind >= 0 {
		r.f.Stop(behind, many)
	}
	writes := r.f.Writes()
	s, why := store.Open(r.f)
	r.f.Up()
	if behind < 0 || behind >= len(c.writes) {
		if s == nil || why != api.OK || r.f.Writes() != writes+len(c.writes) {
			t.Fatalf("Open = %v, %d, %d writes; want %d", s, why, r.f.Writes()-writes, len(c.writes))
		}
		r.s, r.m = s, c.then
		r.holds(t, "Open")
		return false
	}
	r.m.bytes = c.torn(r.m.bytes, behind, many)
	if s != nil || why != api.ErrOff || r.f.Writes() != writes+behind+1 || !bytes.Equal(raw(r.f), r.m.bytes) {
		t.Fatalf("Open with the stop %d, %d = %v, %d", behind, many, s, why)
	}
	return true
}

// sameReply tells whether two replies are alike; a list that is nil and an empty one are.
func sameReply(a, b api.Reply) bool {
	return a.Why == b.Why && a.N == b.N && slices.Equal(a.Names, b.Names) && slices.Equal(a.Rows, b.Rows) && slices.Equal(a.Locks, b.Locks) && slices.Equal(a.Clashes, b.Clashes)
}

// asks asks the store all that can be asked, and holds the answers against the twin's cube.
func (r *rig) asks(t *testing.T) {
	t.Helper()
	both := func(x api.Cmd) api.Reply {
		t.Helper()
		a, b := r.s.Do(x), r.m.cube.Do(x)
		if !sameReply(a, b) {
			t.Fatalf("Do %+v = %+v; want %+v", x, a, b)
		}
		return a
	}
	space := r.m.cube.Graph().Book().Space()
	names := both(api.Cmd{Kind: api.CScens}).Names
	for _, name := range names {
		both(api.Cmd{Kind: api.CHolds, Scen: name})
		both(api.Cmd{Kind: api.CLocks, Scen: name})
		for _, other := range names {
			both(api.Cmd{Kind: api.CDiff, Scen: name, Other: other})
		}
		for i := range space.Cells() {
			at, _ := space.Cell(i)
			both(api.Cmd{Kind: api.CGet, Scen: name, Cell: at})
			both(api.Cmd{Kind: api.CTop, Scen: name, Cell: at, N: 4})
			both(api.Cmd{Kind: api.CFree, Scen: name, Cell: at, User: "ann"})
			both(api.Cmd{Kind: api.CSlice, Scen: name, Cell: at})
		}
	}
	r.holds(t, "asked")
}

// anyCmd is a command of any kind, mostly one that changes something and can be done.
func anyCmd(r *rand.Rand, c *cube.Cube) api.Cmd {
	space := c.Graph().Book().Space()
	names := append(c.Graph().Names(), "main", "p", "q", "zz")
	users := []string{"ann", "bob", "ann", "no name"}
	at, _ := space.Cell(r.Intn(space.Cells()))
	kinds := []int{api.CSet, api.CSet, api.CSet, api.CHold, api.CRelease, api.CLock, api.CUnlock, api.CUndo, api.CUndo, api.CRedo, api.CBranch, api.CDrop, api.CMerge, api.CMerge, api.CGet, api.CDiff, r.Intn(22) - 1}
	return api.Cmd{
		Kind:  kinds[r.Intn(len(kinds))],
		User:  users[r.Intn(len(users))],
		Scen:  names[r.Intn(len(names))],
		Other: names[r.Intn(len(names))],
		Cell:  at,
		N:     int64(r.Intn(2000) - 1000),
		How:   r.Intn(3),
		Meas:  r.Intn(2),
	}
}

// set is a command that makes a cell of main n.
func set(k int, n int64) api.Cmd {
	return api.Cmd{Kind: api.CSet, Scen: "main", User: "ann", Cell: api.Cell{At: [api.MaxDims]int{k}}, N: n}
}

// script is commands that can all be done to deep, of all kinds that change something, with fields that they do not name.
func script() []api.Cmd {
	at := func(k int) api.Cell { return api.Cell{At: [api.MaxDims]int{k}} }
	return []api.Cmd{
		{Kind: api.CSet, Scen: "main", User: "ann", Other: "nothing", N: 100, Meas: 9},
		{Kind: api.CHold, Scen: "main", Cell: at(3), User: "none", N: 4, How: 1},
		{Kind: api.CLock, Scen: "main", Cell: at(2), User: "bob", Meas: 1, Other: "x"},
		{Kind: api.CBranch, Scen: "main", Other: "plan", User: "bob", Cell: at(1), N: 8},
		{Kind: api.CSet, Scen: "plan", User: "bob", Cell: at(0), N: -40, How: api.Prop},
		{Kind: api.CUndo, Scen: "main", Other: "plan", N: 3},
		{Kind: api.CRedo, Scen: "main", User: "zoe", How: 2},
		{Kind: api.CUnlock, Scen: "main", Cell: at(2), User: "bob", N: 1},
		{Kind: api.CRelease, Scen: "main", Cell: at(3), Other: "plan"},
		{Kind: api.CSet, Scen: "plan", User: "bob", Cell: api.Cell{Meas: 1, At: [api.MaxDims]int{1}}, N: 1 << 40, How: api.Weight, Other: "main"},
		{Kind: api.CMerge, Scen: "plan", Other: "main", User: "bob", How: api.Theirs, N: 7, Meas: 3, Cell: at(2)},
		{Kind: api.CUndo, Scen: "main"},
		{Kind: api.CMerge, Scen: "plan", Other: "main", User: "ann"},
		{Kind: api.CDrop, Scen: "plan", User: "bob", Other: "main"},
		{Kind: api.CSet, Scen: "main", User: "ann", N: 0},
	}
}
