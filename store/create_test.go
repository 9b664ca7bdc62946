package store_test

import (
	"bytes"
	"encoding/binary"
	"math"
	"slices"
	"strings"
	"testing"

	"moiety/api"
	"moiety/block"
	"moiety/cube"
	"moiety/log"
	"moiety/snap"
	"moiety/store"
)

// blocksFor is the fewest blocks, from 8 on, of a file in whose areas so many blocks of a cube have room.
func blocksFor(many int) int { return max(8, 2+2*(many+1)) }

// blocksOf is how many blocks the bytes of a cube need.
func blocksOf(c *cube.Cube) int { return len(padded(snap.Put(c))) / size }

// long is a name of so many bytes.
func long(n int, with string) string { return strings.Repeat(with, n) }

// catOfBytes is a catalogue whose new cube has just so many bytes.
func catOfBytes(t *testing.T, n int) api.Cat {
	t.Helper()
	// Each byte more of a name is one more of the cube.
	for more := range 4 * (api.MaxName - 1) {
		part := func(i int) int { return 1 + min(max(more-i*(api.MaxName-1), 0), api.MaxName-1) }
		one := api.Dim{Name: long(part(0), "d"), Nodes: []api.Node{{Name: long(part(1), "n"), Up: -1}}}
		c := api.Cat{Dims: []api.Dim{one}, Meas: []string{long(part(2), "m"), long(part(3), "k")}, Leaves: 2, Scens: 8}
		if len(snap.Put(newCube(t, c))) == n {
			return c
		}
	}
	t.Fatal("no catalogue of so many bytes", n)
	return api.Cat{}
}

// refuses holds that Create has an error, and changes nothing.
func refuses(t *testing.T, what string, f *block.File, cat api.Cat, want api.Errno) {
	t.Helper()
	was, writes := raw(f), f.Writes()
	s, why := store.Create(f, cat)
	if s != nil || why != want {
		t.Errorf("%s: Create = %v, %d; want %d", what, s, why, want)
	}
	if !bytes.Equal(raw(f), was) || f.Writes() != writes {
		t.Errorf("%s: Create changes the file", what)
	}
}

// closed holds that Open has an error, and changes nothing.
func closed(t *testing.T, what string, f *block.File, want api.Errno) {
	t.Helper()
	was, writes := raw(f), f.Writes()
	s, why := store.Open(f)
	if s != nil || why != want {
		t.Errorf("%s: Open = %v, %d; want %d", what, s, why, want)
	}
	if !bytes.Equal(raw(f), was) || f.Writes() != writes {
		t.Errorf("%s: Open changes the file", what)
	}
}

// P27.2: heads and areas, in files of an even and an odd number of blocks, whatever stood there.
func TestCreate(t *testing.T) {
	for name, cat := range cats() {
		fewest := blocksFor(blocksOf(newCube(t, cat)))
		for _, blocks := range []int{fewest, fewest + 1, fewest + 2, 40, 41} {
			for _, with := range []byte{0, 0xaa, 0xff} {
				f := fileOf(t, blocks, with)
				c := create(t, raw(f), cat)
				writes := f.Writes()
				s, why := store.Create(f, cat)
				if s == nil || why != api.OK || f.Writes() != writes+len(c.writes) {
					t.Fatalf("%s: Create in %d blocks = %v, %d, %d writes; want %d", name, blocks, s, why, f.Writes()-writes, len(c.writes))
				}
				r := &rig{f, s, c.then}
				r.asks(t)
				if s.Epoch() != 1 || s.Records() != 0 || s.Dead() {
					t.Errorf("%s: epoch %d, %d records, dead %v", name, s.Epoch(), s.Records(), s.Dead())
				}
				r.open(t, -1, 0)
				r.asks(t)
			}
		}
	}
}

// P27.2: all blocks by hand, those that are not the epoch's, too.
func TestCreateBlockByBlock(t *testing.T) {
	const blocks = 13 // areas of 5 blocks, and one that is nobody's
	f := fileOf(t, blocks, 'x')
	if _, why := store.Create(f, deep()); why != api.OK {
		t.Fatal("Create", why)
	}
	picture := snap.Put(newCube(t, deep()))
	if len(picture) <= size || len(picture) >= 2*size {
		t.Fatal("a cube of two blocks", len(picture))
	}
	none, other := make([]byte, size), bytes.Repeat([]byte{'x'}, size)
	head := make([]byte, size)
	head[0], head[8], head[24] = 1, byte(len(picture)), 1
	want := [][]byte{none, head, other, other, other, other, other, picture[:size], append(slices.Clone(picture[size:]), make([]byte, 2*size-len(picture))...), none, none, none, other}
	for n := range blocks {
		if b, why := f.Read(n); why != api.OK || !bytes.Equal(b, want[n]) {
			t.Errorf("block %d is %x, %d; want %x", n, b, why, want[n])
		}
	}
}

// P27.2: the errors, the one named first ahead.
func TestCreateRefuses(t *testing.T) {
	badCat := api.Cat{Meas: []string{"m", "1"}}
	_, _, bad := cube.New(badCat)
	if bad == api.OK {
		t.Fatal("a catalogue that can be")
	}
	if s, why := store.Create(nil, badCat); s != nil || why != api.ErrNil {
		t.Error("nil", s, why)
	}
	headed := func(blocks int) *block.File {
		f := fileOf(t, blocks, 0)
		f.Write(1, headOf(1, 0))
		return f
	}
	for blocks := 1; blocks < 8; blocks++ {
		refuses(t, "few blocks", fileOf(t, blocks, 0), tiny(), api.ErrArg)
		refuses(t, "few blocks, and much else", powerless(headed(max(blocks, 2))), badCat, api.ErrArg)
	}
	refuses(t, "off", powerless(fileOf(t, 8, 0)), tiny(), api.ErrOff)
	refuses(t, "off, a head, a bad catalogue", powerless(headed(8)), badCat, api.ErrOff)
	refuses(t, "a head, a bad catalogue", headed(8), badCat, api.ErrState)
	refuses(t, "a head, no room", headed(8), catOfBytes(t, 65), api.ErrState)
	refuses(t, "a bad catalogue", fileOf(t, 8, 0), badCat, bad)
	stops := fileOf(t, 8, 0)
	stops.Stop(0, 9)
	refuses(t, "a bad catalogue, and a stop", stops, badCat, bad)
	refuses(t, "no room, and a stop", stops, catOfBytes(t, 65), api.ErrFull)
	if stops.Off() {
		t.Error("the power went")
	}
}

// P27.2: each error that cube.New has of a catalogue.
func TestCreateOfACatalogueThatCanNotBe(t *testing.T) {
	node := func(name string, up int) api.Node { return api.Node{Name: name, Up: up} }
	one := func(nodes ...api.Node) []api.Dim { return []api.Dim{{Name: "d", Nodes: nodes}} }
	for want, cat := range map[api.Errno]api.Cat{
		api.ErrName:  {Dims: one(node("1", -1)), Meas: []string{"m"}, Leaves: 1, Scens: 1},
		api.ErrTwice: {Dims: one(node("a", -1)), Meas: []string{"m", "m"}, Leaves: 1, Scens: 1},
		api.ErrSize:  {Dims: one(node("a", -1)), Meas: []string{"m", "n", "o", "p", "q"}, Leaves: 1, Scens: 1},
		api.ErrRange: {Dims: one(node("a", -1)), Meas: []string{"m"}, Leaves: 1, Scens: api.MaxScens + 1},
		api.ErrLoop:  {Dims: one(node("a", 1), node("b", 0)), Meas: []string{"m"}, Leaves: 1, Scens: 1},
	} {
		if _, _, why := cube.New(cat); why != want {
			t.Errorf("cube.New of %+v: %d; want %d", cat, why, want)
		}
		refuses(t, "a catalogue", fileOf(t, 20, 'x'), cat, want)
	}
	_, _, why := cube.New(api.Cat{})
	refuses(t, "an empty one", fileOf(t, 20, 0), api.Cat{}, why)
}

// P27.2: a cube whose bytes, and a block more, have just room, and none.
func TestCreateWithJustRoom(t *testing.T) {
	for _, bytes := range []int{32, 33, 63, 64} {
		for _, blocks := range []int{8, 9} {
			r := newRig(t, blocks, catOfBytes(t, bytes))
			r.do(t, set(0, 5), -1, 0)
			r.open(t, -1, 0)
			r.asks(t)
		}
	}
	for _, blocks := range []int{8, 9} {
		refuses(t, "a byte more", fileOf(t, blocks, 0), catOfBytes(t, 65), api.ErrFull)
	}
	newRig(t, 10, catOfBytes(t, 65))
	two := catOf(8, 2, []int{-1, 0, 0, 1, 1, 1, 1}, []int{-1, 0, 0, 0, 0, 0, 0})
	many := blocksOf(newCube(t, two))
	newRig(t, blocksFor(many), two)
	newRig(t, blocksFor(many)+1, two)
	refuses(t, "a block less in each area", fileOf(t, blocksFor(many)-1, 'x'), two, api.ErrFull)
	newRig(t, api.MaxBlocks, two)
}

// headCase is what a block has, whether that makes it a head, and of which epoch.
type headCase struct {
	what  string
	place int
	b     []byte
	is    bool
}

// headCases is heads, and what is almost one, in a file of so many blocks.
func headCases(blocks int) []headCase {
	var l []headCase
	room := uint64((blocks-2)/2-1) * size
	for _, e := range []uint64{1, 2, 3, 4, 255, 256, 257, 1 << 31, 1 << 32, 1<<53 + 1, 1 << 62, math.MaxInt64 - 1, math.MaxInt64} {
		at := int(e % 2)
		for _, n := range []uint64{0, 1, 31, 32, 33, room - 1, room} {
			l = append(l, headCase{"a head", at, headOf(e, n), true})
		}
		for _, n := range []uint64{room + 1, room + 32, room + 33, 1 << 20, 1 << 32, 1<<63 - 1, 1 << 63, math.MaxUint64} {
			l = append(l, headCase{"too many bytes", at, headOf(e, n), false})
		}
		l = append(l, headCase{"the wrong place", 1 - at, headOf(e, 32), false})
		for i := range size {
			if i >= 8 && i < 16 {
				continue
			}
			for _, bit := range []byte{1, 2, 128} {
				b := headOf(e, 32)
				b[i] ^= bit
				l = append(l, headCase{"a byte is another one", at, b, false}, headCase{"a byte is another one", 1 - at, b, false})
			}
		}
		twice := headOf(e, 32)
		binary.LittleEndian.PutUint64(twice[24:], e+2)
		l = append(l, headCase{"e and e + 2", at, twice, false})
		turned := slices.Clone(headOf(e, 32))
		slices.Reverse(turned)
		l = append(l, headCase{"the highest byte first", at, turned, false})
	}
	return append(l,
		headCase{"noughts", 0, make([]byte, size), false}, headCase{"noughts", 1, make([]byte, size), false},
		headCase{"an e of 0", 0, headOf(0, 32), false}, headCase{"an e of 0", 1, headOf(0, 32), false},
		headCase{"an e of 0, and no bytes", 0, headOf(0, 0), false},
	)
}

// P27.2, P27.3: what is a head, and what is almost one.
func TestWhatIsAHead(t *testing.T) {
	cat := catOfBytes(t, 33)
	for _, blocks := range []int{8, 9, 10, 25} {
		for _, c := range headCases(blocks) {
			f := fileOf(t, blocks, 0)
			f.Write(c.place, c.b)
			if c.is {
				refuses(t, c.what, f, cat, api.ErrState)
				// There are no bytes of a cube.
				closed(t, c.what, f, api.ErrForm)
				continue
			}
			closed(t, c.what, f, api.ErrNone)
			laid := create(t, raw(f), cat)
			if _, why := store.Create(f, cat); why != api.OK || !bytes.Equal(raw(f), laid.then.bytes) {
				t.Errorf("%s, %x at %d: Create = %d", c.what, c.b, c.place, why)
			}
		}
	}
}

// P27.2: one of the two blocks is enough, whatever the other one is.
func TestCreateWithAHeadBesides(t *testing.T) {
	for e := uint64(1); e < 6; e++ {
		for _, other := range [][]byte{make([]byte, size), bytes.Repeat([]byte{0xff}, size), headOf(e+1, 0), headOf(e+101, 64)} {
			f := fileOf(t, 8, 0)
			f.Write(int(e%2), headOf(e, 0))
			f.Write(1-int(e%2), other)
			refuses(t, "a head", f, tiny(), api.ErrState)
		}
	}
	f := fileOf(t, 20, 0)
	for n := 2; n < 20; n++ {
		f.Write(n, headOf(uint64(n), 0))
	}
	closed(t, "heads in other blocks", f, api.ErrNone)
	if _, why := store.Create(f, tiny()); why != api.OK {
		t.Error("heads in other blocks", why)
	}
}

// P27.2, P27.3: Create, and what it created, behind each other.
func TestCreateOfAStore(t *testing.T) {
	r := newRig(t, 12, tiny())
	refuses(t, "a store", r.f, tiny(), api.ErrState)
	r.do(t, set(0, 4), -1, 0)
	r.compact(t, -1, 0)
	refuses(t, "two heads", r.f, deep(), api.ErrState)
	r.holds(t, "behind Create that has an error")
	if why := log.Clear(r.f, 0, 2); why != api.OK {
		t.Fatal("Clear", why)
	}
	closed(t, "no head any more", r.f, api.ErrNone)
	c := create(t, raw(r.f), deep())
	s, why := store.Create(r.f, deep())
	if why != api.OK {
		t.Fatal("Create once more", why)
	}
	r.s, r.m = s, c.then
	r.asks(t)
}

// Rule 5: a catalogue is not kept, nor changed.
func TestCatalogueOfOnesOwn(t *testing.T) {
	cat, same := deep(), deep()
	f := fileOf(t, 20, 0)
	s, why := store.Create(f, cat)
	if why != api.OK {
		t.Fatal("Create", why)
	}
	cat.Meas[0] = "other"
	cat.Dims[0].Nodes[0].Name = "other"
	cat.Dims[0].Name = "other"
	if !bytes.Equal(snap.Put(s.Cube()), snap.Put(newCube(t, same))) {
		t.Error("the catalogue is kept")
	}
}
