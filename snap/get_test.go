package snap_test

import (
	"bytes"
	"math/rand"
	"slices"
	"strconv"
	"strings"
	"testing"

	"moiety/api"
	"moiety/dims"
	"moiety/snap"
)

// sound is bytes of a cube with something of all that is read, at each place.
func sound() cubeOf {
	full := func(n int64) stateOf {
		return stateOf{
			leaves: []leafOf{{0, n, 0}, {2, 0, 1}, {5, -n, 1}},
			held:   []int64{1, 5},
			locks:  []lockOf{{0, "ann"}, {3, "ann"}, {7, "bob"}, {8, "cy"}},
		}
	}
	return cubeOf{dims.Put(deep(4)), []scenOf{
		{name: "a", parent: "main", base: full(1), past: []stateOf{full(2), {}}, now: full(3), future: []stateOf{full(4), full(500)}},
		{name: "main", past: []stateOf{full(6)}, now: full(7)},
		{name: "q", parent: "a", now: stateOf{held: []int64{0}}, future: []stateOf{full(8)}},
	}}
}

// places is where a state of sound stands, of those with all that a state has.
func places() map[string]func(c *cubeOf) *stateOf {
	return map[string]func(c *cubeOf) *stateOf{
		"base":       func(c *cubeOf) *stateOf { return &c.scens[0].base },
		"past":       func(c *cubeOf) *stateOf { return &c.scens[0].past[0] },
		"now":        func(c *cubeOf) *stateOf { return &c.scens[0].now },
		"next":       func(c *cubeOf) *stateOf { return &c.scens[0].future[0] },
		"last":       func(c *cubeOf) *stateOf { return &c.scens[0].future[1] },
		"main":       func(c *cubeOf) *stateOf { return &c.scens[1].now },
		"main, past": func(c *cubeOf) *stateOf { return &c.scens[1].past[0] },
		"q, last":    func(c *cubeOf) *stateOf { return &c.scens[2].future[0] },
	}
}

// P26.2
func TestGetOfNothing(t *testing.T) {
	fails(t, "nil", nil, api.ErrShort)
	fails(t, "empty", []byte{}, api.ErrShort)
	fails(t, "a nought", []byte{0}, api.ErrShort)
	fails(t, "no catalogue and no scenarios", []byte{0, 0}, api.ErrForm)
	fails(t, "noughts", make([]byte, 1000), api.ErrForm)
	fails(t, "no end", bytes.Repeat([]byte{0xff}, 1000), api.ErrShort)
}

// P26.2: what is told of sound bytes.
func TestGetOfSound(t *testing.T) {
	l := sound()
	c := gets(t, "sound", l.bytes())
	if !slices.Equal(look(t, c).bytes(), l.bytes()) {
		t.Error("the cube is not as its bytes")
	}
	if a := c.Graph().Book().View().Pages().Arena(); a.Cap() != api.MaxArena {
		t.Error("the arena has room for", a.Cap())
	}
	if !dims.Same(c.Cat(), deep(4)) {
		t.Error("Cat", c.Cat())
	}
	puts(t, "as it is loaded", l.load(t), l.bytes())
	if why := judged(l.bytes()); why != api.OK {
		t.Error("judged", why)
	}
}

// P26.4: of no bytes that a cube has some first ones are any.
func TestGetOfBytesCutOff(t *testing.T) {
	for what, b := range map[string][]byte{"sound": sound().bytes(), "new": snap.Put(newCube(t, deep(1))), "busy": snap.Put(busy(t))} {
		for cut := range len(b) {
			fails(t, what+" cut off at "+strconv.Itoa(cut), b[:cut], api.ErrShort)
		}
		for _, more := range []string{"\x00", "\x01", "\x80", "\xff\xff", string(b)} {
			fails(t, what+" and more", slices.Concat(b, []byte(more)), api.ErrForm)
		}
	}
}

// P26.2: each of the reader's faults, in each place where something is read; the other parts are as they were.
func TestGetWithFaults(t *testing.T) {
	parts := sound().parts()
	endless := bytes.Repeat([]byte{0xff}, 20)
	far := append(bytes.Repeat([]byte{0xff}, 9), 2)
	for i, x := range parts {
		ahead, rest := join(parts[:i]), join(parts[i+1:])
		with := func(b []byte) []byte { return slices.Concat(ahead, b, rest) }
		what := x.what + " " + strconv.Itoa(i)
		fails(t, what+" is not there", ahead, api.ErrShort)
		fails(t, what+" is torn", append(slices.Clone(ahead), x.bytes[:len(x.bytes)-1]...), api.ErrShort)
		fails(t, what+" has no end", append(slices.Clone(ahead), 0x80), api.ErrShort)
		fails(t, what+" has no end, but many bytes", append(slices.Clone(ahead), endless...), api.ErrShort)
		fails(t, what+" has more bytes than needed", with([]byte{0x80, 0}), api.ErrForm)
		fails(t, what+" has more than 64 bits", with(far), api.ErrForm)
		if x.kind == aCount {
			for _, n := range []int64{-1, least, greatest, int64(x.most) + 1, 1 << 32} {
				fails(t, what+" is "+strconv.FormatInt(n, 10), with(num(n)), api.ErrSize)
			}
		}
		if x.kind == aText {
			for _, n := range []int64{-1, least, greatest, api.MaxText + 1, 1 << 32} {
				fails(t, what+" is of "+strconv.FormatInt(n, 10), with(num(n)), api.ErrSize)
			}
			fails(t, what+" is of too many bytes, that are there", with(txt(strings.Repeat("a", api.MaxText+1))), api.ErrSize)
			fails(t, what+" is of more bytes than are left", with(num(api.MaxText)), api.ErrShort)
			fails(t, what+" is a very long one", with(txt(strings.Repeat("a", api.MaxText))), api.ErrForm)
		}
	}
}

// P26.2: of several faults the first one; a fault ahead of all that can not be, wherever that stands.
func TestGetFaultNamedFirst(t *testing.T) {
	parts := sound().parts()
	for i, x := range parts {
		for _, k := range []int{0, i / 2, i + 1, len(parts) - 1} {
			if k == i || k >= len(parts) {
				continue
			}
			both := slices.Clone(parts)
			both[i].bytes, both[k].bytes = num(-1), []byte{0x80, 0}
			want := api.ErrForm
			if i < k && x.kind != aNumber {
				want = api.ErrSize
			}
			fails(t, x.what+" with another fault at "+strconv.Itoa(k), join(both), want)
		}
	}
	for what, turn := range wrong() {
		l := sound()
		turn(&l)
		b := l.bytes()
		fails(t, what+", cut off", b[:len(b)-1], api.ErrShort)
		fails(t, what+", and more", append(b, 0), api.ErrForm)
		// The last count is that of q's future's locks, each of which has three bytes or more.
		many := l.parts()
		last := len(many) - 1 - slices.IndexFunc(reversed(many), func(x part) bool { return x.kind == aCount })
		many[last].bytes = num(int64(many[last].most) + 1)
		fails(t, what+", and a count", join(many), api.ErrSize)
		many[last].bytes = []byte{0x80, 0}
		fails(t, what+", and a wrong number", join(many), api.ErrForm)
	}
}

func reversed(l []part) []part {
	l = slices.Clone(l)
	slices.Reverse(l)
	return l
}

// cat is a turn of the catalogue.
func cat(turn func(c *api.Cat)) func(c *cubeOf) {
	return func(c *cubeOf) {
		was := deep(4)
		turn(&was)
		c.cat = dims.Put(was)
	}
}

// wrong is what makes bytes none of a cube, without a fault of the reader: each condition but those on states, broken alone.
func wrong() map[string]func(c *cubeOf) {
	return map[string]func(c *cubeOf){
		"no catalogue":                  func(c *cubeOf) { c.cat = nil },
		"a catalogue cut off":           func(c *cubeOf) { c.cat = c.cat[:len(c.cat)-1] },
		"a catalogue and more":          func(c *cubeOf) { c.cat = append(c.cat, 0) },
		"a catalogue of other bytes":    func(c *cubeOf) { c.cat = []byte("no catalogue") },
		"a catalogue's count too great": func(c *cubeOf) { c.cat = append(num(api.MaxDims+1), c.cat[1:]...) },
		"a catalogue's number":          func(c *cubeOf) { c.cat = append([]byte{0x80, 0}, c.cat[1:]...) },
		"no dimensions":                 cat(func(c *api.Cat) { c.Dims = nil }),
		"no measures":                   cat(func(c *api.Cat) { c.Meas = nil }),
		"a measure twice":               cat(func(c *api.Cat) { c.Meas[1] = "m0" }),
		"a dimension's name":            cat(func(c *api.Cat) { c.Dims[0].Name = "0" }),
		"a member's name":               cat(func(c *api.Cat) { c.Dims[0].Nodes[1].Name = "" }),
		"a member above itself":         cat(func(c *api.Cat) { c.Dims[0].Nodes[0].Up = 4 }),
		"too many leaves":               cat(func(c *api.Cat) { *c = catOf(4, 2, apart(32), apart(32)) }),
		"Leaves 0":                      cat(func(c *api.Cat) { c.Leaves = 0 }),
		"Leaves beyond":                 cat(func(c *api.Cat) { c.Leaves = api.MaxLeaves + 1 }),
		"Scens 0":                       cat(func(c *api.Cat) { c.Scens = 0 }),
		"Scens beyond":                  cat(func(c *api.Cat) { c.Scens = api.MaxScens + 1 }),
		"more scenarios than Scens":     cat(func(c *api.Cat) { c.Scens = 2 }),
		"many more than Scens":          cat(func(c *api.Cat) { c.Scens = 1 }),
		"no scenarios":                  func(c *cubeOf) { c.scens = nil },
		"names that fall":               func(c *cubeOf) { c.scens[1], c.scens[2] = c.scens[2], c.scens[1] },
		"names that fall, first":        func(c *cubeOf) { c.scens[0], c.scens[1] = c.scens[1], c.scens[0] },
		"a name twice":                  func(c *cubeOf) { c.scens = slices.Insert(c.scens, 2, c.scens[2]) },
		"main twice":                    func(c *cubeOf) { c.scens = slices.Insert(c.scens, 2, c.scens[1]) },
		"a name of digits":              func(c *cubeOf) { c.scens = slices.Insert(c.scens, 0, scenOf{name: "1"}) },
		"an empty name":                 func(c *cubeOf) { c.scens = slices.Insert(c.scens, 0, scenOf{}) },
		"a name with a blank":           func(c *cubeOf) { c.scens = slices.Insert(c.scens, 1, scenOf{name: "a b"}) },
		"a name that is too long":       func(c *cubeOf) { c.scens = slices.Insert(c.scens, 1, scenOf{name: "a23456789012b"}) },
		"a name of no letters":          func(c *cubeOf) { c.scens = append(c.scens, scenOf{name: "\xff"}) },
		"without main":                  func(c *cubeOf) { c.scens[1].name, c.scens[0].parent = "maim", "maim" },
		"main alone is not there":       func(c *cubeOf) { c.scens = []scenOf{{name: "a"}} },
		"a parent that is not there":    func(c *cubeOf) { c.scens[2].parent = "b" },
		"a parent that is no name":      func(c *cubeOf) { c.scens[2].parent = "a " },
		"a parent that is longer":       func(c *cubeOf) { c.scens[2].parent = "maina" },
		"its own parent":                func(c *cubeOf) { c.scens[2].parent = "q" },
		"main its own parent":           func(c *cubeOf) { c.scens[1].parent = "main" },
		"a base without a parent":       func(c *cubeOf) { c.scens[0].parent = "" },
		"a base of main, of leaves":     func(c *cubeOf) { c.scens[1].base.leaves = []leafOf{{0, 1, 0}} },
		"a base of main, of holds":      func(c *cubeOf) { c.scens[1].base.held = []int64{0} },
		"a base of main, of locks":      func(c *cubeOf) { c.scens[1].base.locks = []lockOf{{0, "ann"}} },
		"12 and 1":                      func(c *cubeOf) { c.scens[1].past, c.scens[1].future = make([]stateOf, 12), make([]stateOf, 1) },
		"1 and 12":                      func(c *cubeOf) { c.scens[2].past, c.scens[2].future = make([]stateOf, 1), make([]stateOf, 12) },
		"7 and 6":                       func(c *cubeOf) { c.scens[0].past, c.scens[0].future = make([]stateOf, 7), make([]stateOf, 6) },
		"12 and 12":                     func(c *cubeOf) { c.scens[0].past, c.scens[0].future = make([]stateOf, 12), make([]stateOf, 12) },
	}
}

// P26.2: each condition, broken alone.
func TestGetOfWrongCubes(t *testing.T) {
	for what, turn := range wrong() {
		l := sound()
		turn(&l)
		fails(t, what, l.bytes(), api.ErrForm)
		if why := judged(l.bytes()); why != api.ErrForm {
			t.Error("judged", what, why)
		}
	}
}

// wrongStates is what makes a state none that can be, whichever it is.
func wrongStates() map[string]func(s *stateOf) {
	l := map[string]func(s *stateOf){
		"a code twice":              func(s *stateOf) { s.leaves[1].code = 0 },
		"the last code twice":       func(s *stateOf) { s.leaves[1].code = 5 },
		"codes that fall":           func(s *stateOf) { s.leaves[0], s.leaves[1] = s.leaves[1], s.leaves[0] },
		"the last code falls":       func(s *stateOf) { s.leaves[2].code = 1 },
		"an entry that is nothing":  func(s *stateOf) { s.leaves[1].held = 0 },
		"a value that is nothing":   func(s *stateOf) { s.leaves[0].n = 0 },
		"the last entry is nothing": func(s *stateOf) { s.leaves[2] = leafOf{5, 0, 0} },
		"a cell held twice":         func(s *stateOf) { s.held[1] = 1 },
		"cells held that fall":      func(s *stateOf) { s.held[0], s.held[1] = s.held[1], s.held[0] },
		"a leaf held as a cell":     func(s *stateOf) { s.held[1] = 2 },
		"a held leaf, as a cell":    func(s *stateOf) { s.held[1] = 9 },
		"the last leaf as a cell":   func(s *stateOf) { s.held = []int64{0, 9} },
		"a lock twice":              func(s *stateOf) { s.locks[1] = s.locks[0] },
		"a cell of two users":       func(s *stateOf) { s.locks[3].index = 7 },
		"users in order, one cell":  func(s *stateOf) { s.locks = []lockOf{{7, "ann"}, {7, "bob"}} },
		"locks that fall":           func(s *stateOf) { s.locks[0], s.locks[1] = s.locks[1], s.locks[0] },
		"the last lock falls":       func(s *stateOf) { s.locks[3].index = 4 },
		"a leaf of two users":       func(s *stateOf) { s.locks[1].user = "bob" },
		"a leaf within two users'":  func(s *stateOf) { s.locks = []lockOf{{5, "ann"}, {6, "bob"}} },
		"a leaf far within":         func(s *stateOf) { s.locks = []lockOf{{5, "ann"}, {6, "ann"}, {9, "bob"}} },
		"a leaf ahead of its cell":  func(s *stateOf) { s.locks = []lockOf{{0, "bob"}, {4, "ann"}} },
	}
	for _, n := range []int64{-1, 6, 7, least, greatest, 1 << 32, 1<<32 + 2} {
		l["the code "+strconv.FormatInt(n, 10)] = func(s *stateOf) {
			s.leaves[2].code = n
			if n < 0 {
				s.leaves[0], s.leaves[1], s.leaves[2] = s.leaves[2], s.leaves[0], s.leaves[1]
			}
		}
	}
	for _, n := range []int64{-1, 2, 3, least, greatest, 1 << 32, 1<<32 + 1} {
		l["held by "+strconv.FormatInt(n, 10)] = func(s *stateOf) { s.leaves[2].held = n }
		l["not held by "+strconv.FormatInt(n, 10)] = func(s *stateOf) { s.leaves[0].held = n }
	}
	for _, n := range []int64{-1, 10, 11, least, greatest, 1 << 32, 1<<32 + 6} {
		l["the cell "+strconv.FormatInt(n, 10)] = func(s *stateOf) {
			s.held = []int64{1, n}
			if n < 0 {
				s.held = []int64{n, 1}
			}
		}
		l["the locked cell "+strconv.FormatInt(n, 10)] = func(s *stateOf) {
			s.locks = []lockOf{{1, "ann"}, {n, "ann"}}
			if n < 0 {
				s.locks = []lockOf{{n, "ann"}, {1, "ann"}}
			}
		}
	}
	for _, user := range []string{"", "1", "_a", "a b", "ä", "a23456789012b", "\xff", "ann "} {
		l["the user "+strconv.Quote(user)] = func(s *stateOf) { s.locks[2].user = user }
		l["the user alone "+strconv.Quote(user)] = func(s *stateOf) { s.locks = []lockOf{{0, user}} }
	}
	return l
}

// P26.2: each condition on a state, broken alone, wherever it stands.
func TestGetOfWrongStates(t *testing.T) {
	for where, place := range places() {
		for what, turn := range wrongStates() {
			l := sound()
			turn(place(&l))
			fails(t, where+": "+what, l.bytes(), api.ErrForm)
			if why := judged(l.bytes()); why != api.ErrForm {
				t.Error("judged", where, what, why)
			}
		}
	}
}

// P26.2: a scenario's state must be one that can be; others, its base, its past and its future, are not asked for that.
func TestGetOfStatesThatCanNotBe(t *testing.T) {
	turns := map[string]func(s *stateOf){
		"a sum beyond":              func(s *stateOf) { s.leaves = []leafOf{{0, greatest, 0}, {1, 1, 0}} },
		"a sum below":               func(s *stateOf) { s.leaves = []leafOf{{0, least, 0}, {2, -1, 0}} },
		"a sum of the last measure": func(s *stateOf) { s.leaves = []leafOf{{4, greatest, 1}, {5, greatest, 0}} },
		"an inner sum beyond":       func(s *stateOf) { s.leaves = []leafOf{{0, greatest, 0}, {1, 1, 0}, {2, -1, 0}} },
		"too many leaves":           func(s *stateOf) { s.leaves = []leafOf{{0, 1, 0}, {1, 1, 0}, {2, 1, 0}} },
		"too many, some held":       func(s *stateOf) { s.leaves = []leafOf{{0, 1, 1}, {1, 0, 1}, {2, 1, 0}, {5, -1, 1}} },
	}
	for where, place := range places() {
		for what, turn := range turns {
			l := sound()
			small := deep(4)
			small.Leaves = 2
			l.cat = dims.Put(small)
			gets(t, "as many leaves as may be", l.bytes())
			turn(place(&l))
			want := api.OK
			if where == "now" || where == "main" {
				want = api.ErrForm
				fails(t, where+": "+what, l.bytes(), want)
			} else {
				gets(t, where+": "+what, l.bytes())
			}
			if why := judged(l.bytes()); why != want {
				t.Error("judged", where, what, why)
			}
		}
	}
	// What fits, though a sum in between would not; leaves that are held without a value do not count.
	for _, leaves := range [][]leafOf{
		{{0, greatest, 0}, {1, -1, 0}, {2, 1, 0}},
		{{0, greatest, 0}, {3, greatest, 0}},
		{{0, least, 0}},
		{{0, 1, 1}, {1, 1, 0}, {2, 0, 1}, {3, 0, 1}, {5, 0, 1}},
	} {
		l := sound()
		if len(leaves) != 3 {
			small := deep(4)
			small.Leaves = 2
			l.cat = dims.Put(small)
		}
		l.scens[0].now = stateOf{leaves: leaves}
		gets(t, "what can be", l.bytes())
	}
}

// P26.2: what can be, though it comes of few cubes.
func TestGetOfRightCubes(t *testing.T) {
	turns := map[string]func(c *cubeOf){
		"main alone":               func(c *cubeOf) { c.scens = []scenOf{{name: "main"}} },
		"as many as Scens":         cat(func(c *api.Cat) { c.Scens = 3 }),
		"main off another one":     func(c *cubeOf) { c.scens[1].parent, c.scens[1].base = "q", c.scens[1].now },
		"each other's parents":     func(c *cubeOf) { c.scens[1].parent = "a" },
		"all in a ring":            func(c *cubeOf) { c.scens[0].parent, c.scens[1].parent = "main", "q" },
		"a base of nothing":        func(c *cubeOf) { c.scens[0].base = stateOf{} },
		"a base like no state":     func(c *cubeOf) { c.scens[2].base = stateOf{leaves: []leafOf{{4, 44, 1}}} },
		"none off another one":     func(c *cubeOf) { c.scens[0].parent, c.scens[0].base, c.scens[2].parent = "", stateOf{}, "" },
		"one user over and within": func(c *cubeOf) { c.scens[0].now.locks = []lockOf{{0, "b"}, {1, "b"}, {3, "b"}, {4, "b"}} },
		"the last cell locked":     func(c *cubeOf) { c.scens[0].now.locks = []lockOf{{9, "b"}} },
		"all leaves held":          func(c *cubeOf) { c.scens[0].now.leaves = allHeld() },
		"all above held":           func(c *cubeOf) { c.scens[0].now.held = []int64{0, 1, 5, 6} },
		"a long user":              func(c *cubeOf) { c.scens[0].now.locks = []lockOf{{9, "a23456789012"}} },
		"a long name":              func(c *cubeOf) { c.scens[2].name = "z23456789012" },
		"12 and 0":                 func(c *cubeOf) { c.scens[1].past, c.scens[1].future = make([]stateOf, 12), nil },
		"0 and 12":                 func(c *cubeOf) { c.scens[1].past, c.scens[1].future = nil, make([]stateOf, 12) },
		"7 and 5":                  func(c *cubeOf) { c.scens[0].past, c.scens[0].future = make([]stateOf, 7), make([]stateOf, 5) },
	}
	for what, turn := range turns {
		l := sound()
		turn(&l)
		if why := judged(l.bytes()); why != api.OK {
			t.Error("judged", what, why)
		}
		c := gets(t, what, l.bytes())
		if !slices.Equal(look(t, c).bytes(), l.bytes()) {
			t.Error(what, "is not as its bytes")
		}
	}
}

func allHeld() []leafOf {
	var l []leafOf
	for code := range int64(6) {
		l = append(l, leafOf{code, code % 2, 1})
	}
	return l
}

// P26.2: each count at its limit; one above it, though all that it counts is there, is ErrSize.
func TestGetAtTheLimits(t *testing.T) {
	wide := dims.Put(catOf(api.MaxScens, 1, apart(32), apart(32)))
	// 20 cells that are no leaves: each of 20 members has one below it.
	var ups []int
	for i := range 20 {
		ups = append(ups, -1, 2*i)
	}
	high := dims.Put(catOf(api.MaxScens, 1, ups[:32], []int{-1, 0}))
	counts := map[string]func(s *stateOf, n int64){
		"leaves": func(s *stateOf, n int64) {
			for code := range n {
				s.leaves = append(s.leaves, leafOf{code, code - 5000, code % 2})
			}
		},
		"held": func(s *stateOf, n int64) {
			for i := range n {
				s.held = append(s.held, 2*i)
			}
		},
		"locks": func(s *stateOf, n int64) {
			for i := range n {
				s.locks = append(s.locks, lockOf{i, "ann"})
			}
		},
	}
	most := map[string]int64{"leaves": api.MaxLeaves, "held": api.MaxHolds, "locks": api.MaxLocks}
	for where, place := range places() {
		for what, fill := range counts {
			l := sound()
			l.cat = high
			if what == "leaves" {
				l.cat = wide
			}
			for _, clear := range places() {
				*clear(&l) = stateOf{}
			}
			l.scens[2].now = stateOf{}
			fill(place(&l), most[what])
			gets(t, where+": as many "+what+" as may be", l.bytes())
			*place(&l) = stateOf{}
			fill(place(&l), most[what]+1)
			fails(t, where+": one more of "+what, l.bytes(), api.ErrSize)
		}
	}
	l := cubeOf{cat: wide}
	for _, name := range []string{"a", "b", "c", "d", "e", "f", "main", "z"} {
		l.scens = append(l.scens, scenOf{name: name, past: make([]stateOf, api.MaxUndo)})
	}
	gets(t, "as many scenarios as may be", l.bytes())
	more := cubeOf{wide, append(slices.Clone(l.scens), scenOf{name: "zz"})}
	fails(t, "one more", more.bytes(), api.ErrSize)
	l.scens[3].past = make([]stateOf, api.MaxUndo+1)
	fails(t, "a past of one more", l.bytes(), api.ErrSize)
	l.scens[3].past, l.scens[3].future = nil, make([]stateOf, api.MaxUndo+1)
	fails(t, "a future of one more", l.bytes(), api.ErrSize)
}

// P26.2, P26.3: the greatest cube has room in its arena, and goes on: as many scenarios as may be, each with as many states as may be, of as many leaves as may be, none like another one.
func TestGetOfTheGreatest(t *testing.T) {
	l := cubeOf{cat: dims.Put(catOf(api.MaxScens, 1, apart(32), apart(32)))}
	n := int64(0)
	full := func() stateOf {
		var s stateOf
		for code := range int64(api.MaxLeaves) {
			n++
			s.leaves = append(s.leaves, leafOf{code, n, 1})
		}
		return s
	}
	for _, name := range []string{"a", "b", "c", "d", "e", "f", "main", "z"} {
		x := scenOf{name: name, now: full()}
		for range api.MaxUndo / 2 {
			x.past, x.future = append(x.past, full()), append(x.future, full())
		}
		x.parent, x.base = "z", full()
		if name == "z" {
			x.parent = "a"
		}
		l.scens = append(l.scens, x)
	}
	c := gets(t, "the greatest", l.bytes())
	for _, x := range l.scens {
		must(t, c, of(x.name, on(api.CRelease, cell(0, 3, 4))), of(x.name, api.Cmd{Kind: api.CSet, Cell: cell(0, 3, 4), N: 5}))
	}
}

// P26.2, P6, rules 4 and 5: Get neither changes nor keeps what it is given.
func TestGetKeepsNothing(t *testing.T) {
	want := sound().bytes()
	b := slices.Clone(want)
	c := gets(t, "sound", b)
	other := gets(t, "sound", b)
	if !slices.Equal(b, want) {
		t.Error("Get changes what it is given")
	}
	for i := range b {
		b[i] = 0xff
	}
	puts(t, "spoilt", c, want)
	must(t, c, of("q", api.Cmd{Kind: api.CDrop}))
	puts(t, "the other one", other, want)
}

// P26.2, P6: each byte changed, each bit of it and into some bytes that mean something: what the chapters say, and never a cube of other bytes.
func TestGetOfEachByteChanged(t *testing.T) {
	for what, was := range map[string][]byte{"sound": sound().bytes(), "busy": snap.Put(busy(t))} {
		for i, c := range was {
			others := []byte{0, 1, 2, 3, 4, c + 1, c - 1, 'a', 'm', 0x7f, 0x80, 0xff}
			for bit := range 8 {
				others = append(others, c^1<<bit)
			}
			for _, other := range others {
				b := slices.Clone(was)
				b[i] = other
				want := judged(b)
				c, why := snap.Get(b)
				if why != want || (c != nil) != (why == api.OK) {
					t.Fatalf("%s, the byte %d is %#x: Get = %v, %d; want %d", what, i, other, c, why, want)
				}
				if c != nil {
					puts(t, what, c, b)
				}
			}
		}
	}
}

// P26.2, P6: any bytes.
func TestGetOfAnyBytes(t *testing.T) {
	r := rand.New(rand.NewSource(26))
	parts := sound().parts()
	for range 20000 {
		l := slices.Clone(parts)
		for range 1 + r.Intn(3) {
			i := r.Intn(len(l))
			switch r.Intn(5) {
			case 0:
				l[i].bytes = num(int64(r.Intn(20) - 4))
			case 1:
				l[i].bytes = txt([]string{"", "a", "main", "q", "bob", "1"}[r.Intn(6)])
			case 2:
				l = slices.Delete(l, i, min(i+1+r.Intn(3), len(l)))
			case 3:
				l = slices.Insert(l, i, l[r.Intn(len(l))])
			case 4:
				l[i].bytes = l[r.Intn(len(l))].bytes
			}
		}
		b := join(l)
		if r.Intn(8) == 0 {
			b = b[:r.Intn(len(b)+1)]
		}
		want := judged(b)
		c, why := snap.Get(b)
		if why != want || (c != nil) != (why == api.OK) {
			t.Fatalf("Get of %x = %v, %d; want %d", b, c, why, want)
		}
		if c != nil {
			puts(t, "any", c, b)
		}
	}
}
