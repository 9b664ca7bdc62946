package state_test

import (
	"math"
	"math/big"
	"math/rand"
	"slices"
	"strconv"
	"testing"

	"moiety/api"
	"moiety/arena"
	"moiety/coord"
	"moiety/dims"
	"moiety/region"
	"moiety/state"
)

const (
	least    = math.MinInt64
	greatest = math.MaxInt64
)

// catOf is a catalogue of so many measures, and of dimensions whose members stand below those of each list.
func catOf(measures int, ups ...[]int) api.Cat {
	cat := api.Cat{Leaves: 1, Scens: 1}
	for i := range measures {
		cat.Meas = append(cat.Meas, "m"+strconv.Itoa(i))
	}
	for k, l := range ups {
		d := api.Dim{Name: "d" + strconv.Itoa(k)}
		for i, up := range l {
			d.Nodes = append(d.Nodes, api.Node{Name: "n" + strconv.Itoa(i), Up: up})
		}
		cat.Dims = append(cat.Dims, d)
	}
	return cat
}

// deep is two measures of all 0; a 1 and b 2 below it; c 3 and d 4 below a. Its leaves' codes: c 0, d 1, b 2; 3, 4, 5.
func deep() api.Cat {
	return catOf(2, []int{-1, 0, 0, 1, 1})
}

// many is three measures of 12 leaves in all, over which far more cells stand than may be held.
func many() api.Cat {
	return catOf(3, []int{-1, 0, 1, 2, 3, -1, 5, 6, 7, 8}, []int{-1, 0, 0})
}

// flat is all, and so many leaves below it, of one measure.
func flat(leaves int) api.Cat {
	return catOf(1, append([]int{-1}, make([]int, leaves)...))
}

// cats are of one to four dimensions, of which some have members ahead of those above them.
func cats() map[string]api.Cat {
	tops := []int{5, -1, 5, 4, -1, -1, 4}
	return map[string]api.Cat{
		"one leaf": catOf(1, []int{-1}),
		"deep":     deep(),
		"one":      catOf(4, tops),
		"two":      catOf(2, []int{-1, 0, 0, 1}, []int{-1, 0, 0}),
		"three":    catOf(1, tops, []int{1, 2, -1}, []int{-1, -1}),
		"four":     catOf(2, []int{-1, 0, 1}, tops, []int{-1}, []int{2, 2, -1}),
	}
}

func users() []string { return []string{"ann", "bob", "Cy_3"} }
func noNames() []string {
	return []string{"", "1", "_a", "a b", "ä", "a23456789012b", "\xff"}
}

func cell(measure int, at ...int) api.Cell {
	c := api.Cell{Meas: measure}
	copy(c.At[:], at)
	return c
}

// wrong are cells that can not be: by their measure, by a member, by a place of a dimension that there is not.
func wrong(cat api.Cat) []api.Cell {
	l := []api.Cell{cell(-1), cell(len(cat.Meas)), cell(math.MinInt), cell(math.MaxInt)}
	for k := range api.MaxDims {
		members := 1
		if k < len(cat.Dims) {
			members = len(cat.Dims[k].Nodes)
		}
		for _, i := range []int{-1, members, math.MinInt, math.MaxInt} {
			x := cell(0)
			x.At[k] = i
			l = append(l, x)
		}
	}
	return l
}

// off are codes that no leaf has.
func off(s *coord.Space) []int {
	return []int{-1, -2, math.MinInt, s.Leaves(), s.Leaves() + 1, s.Cells() + s.Leaves(), math.MaxInt}
}

func val(code int, n int64) state.Val { return state.Val{Code: code, N: n} }

func dimsOf(t *testing.T, cat api.Cat) *dims.Dims {
	t.Helper()
	d, _, why := dims.New(cat)
	if why != api.OK {
		t.Fatal("dims", why)
	}
	return d
}

func bookOf(t *testing.T, cat api.Cat, room int) *state.Book {
	t.Helper()
	b, why := state.New(dimsOf(t, cat), room)
	if b == nil || why != api.OK {
		t.Fatalf("New = %v, %d", b, why)
	}
	return b
}

// got is the state of a call that must be answered without an error.
func got(t *testing.T, s state.State, why api.Errno) state.State {
	t.Helper()
	if why != api.OK {
		t.Fatalf("error %d", why)
	}
	return s
}

// written, held and locked are states made of s by calls that must be right.
func written(t *testing.T, b *state.Book, s state.State, l ...state.Val) state.State {
	t.Helper()
	x, why := b.Write(s, l...)
	return got(t, x, why)
}

func held(t *testing.T, b *state.Book, s state.State, l ...api.Cell) state.State {
	t.Helper()
	for _, c := range l {
		x, why := b.Hold(s, c)
		s = got(t, x, why)
	}
	return s
}

func locked(t *testing.T, b *state.Book, s state.State, user string, l ...api.Cell) state.State {
	t.Helper()
	for _, c := range l {
		x, why := b.Lock(s, c, user)
		s = got(t, x, why)
	}
	return s
}

// refused asks whether an answer is the zero state, and the error.
func refused(t *testing.T, what string, s state.State, why, want api.Errno) {
	t.Helper()
	if why != want || s.Root != 0 || len(s.Holds.List()) != 0 || len(s.Locks.List()) != 0 {
		t.Errorf("%s = %v, %d; want the zero state, %d", what, s, why, want)
	}
}

// place is a node of an arena, and how often it is asked for.
type place struct {
	node arena.Node
	refs int
}

// arenaOf is all that can be asked of a book's arena, of its first nodes: no test has more at a time.
func arenaOf(b *state.Book) []place {
	a := b.View().Pages().Arena()
	l := []place{{refs: a.Used()}}
	for id := 1; id <= min(a.Cap(), 200); id++ {
		n, _ := a.At(id)
		l = append(l, place{n, a.Refs(id)})
	}
	return l
}

func used(b *state.Book) int {
	return b.View().Pages().Arena().Used()
}

// model is a state as lists: of values, of the leaves that are held, of the other cells that are, and of the locks.
type model struct {
	cat   api.Cat
	vals  []int64
	leafs []bool
	holds []api.Cell
	locks []api.Lock
}

func modelOf(cat api.Cat, b *state.Book) model {
	n := b.Space().Leaves()
	return model{cat: cat, vals: make([]int64, n), leafs: make([]bool, n)}
}

func (m model) copy() model {
	return model{m.cat, slices.Clone(m.vals), slices.Clone(m.leafs), slices.Clone(m.holds), slices.Clone(m.locks)}
}

// within says by the catalogue's lists alone whether c is within e.
func (m model) within(c, e api.Cell) bool {
	for k, d := range m.cat.Dims {
		i := c.At[k]
		for i != -1 && i != e.At[k] {
			i = d.Nodes[i].Up
		}
		if i == -1 {
			return false
		}
	}
	return c.Meas == e.Meas
}

func (m model) barred(leaf api.Cell, code int) bool {
	return m.leafs[code] || slices.ContainsFunc(m.holds, func(c api.Cell) bool { return m.within(leaf, c) })
}

func (m model) foreign(leaf api.Cell, user string) bool {
	return slices.ContainsFunc(m.locks, func(l api.Lock) bool { return l.User != user && m.within(leaf, l.Cell) })
}

func (m model) isHeld(b *state.Book, c api.Cell) bool {
	code := b.Space().Code(c)
	return code >= 0 && m.leafs[code] || slices.Contains(m.holds, c)
}

// ask asks everything of a state that the model tells.
func (m model) ask(t *testing.T, b *state.Book, s state.State) {
	t.Helper()
	space := b.Space()
	var cells []api.Cell
	for i := range space.Cells() {
		c, _ := space.Cell(i)
		m.askValue(t, b, s, c)
		if m.isHeld(b, c) {
			cells = append(cells, c)
		}
	}
	if l := b.Held(s); !slices.Equal(l, cells) {
		t.Fatalf("Held = %v; want %v", l, cells)
	}
	var barred []int
	full := 0
	for code := range space.Leaves() {
		leaf, _ := space.Leaf(code)
		if m.barred(leaf, code) {
			barred = append(barred, code)
		}
		if m.vals[code] != 0 {
			full++
		}
	}
	if l := b.Barred(s); !slices.Equal(l.All(), barred) || !l.Same(region.Of(barred...)) {
		t.Fatalf("Barred = %v; want %v", l.All(), barred)
	}
	if n := b.Full(s); n != full {
		t.Fatalf("Full = %d; want %d", n, full)
	}
	if l := s.Locks.List(); !slices.Equal(l, m.locks) {
		t.Fatalf("Locks = %v; want %v", l, m.locks)
	}
	m.askFree(t, b, s)
}

func (m model) askValue(t *testing.T, b *state.Book, s state.State, c api.Cell) {
	t.Helper()
	sum := new(big.Int)
	for code, n := range m.vals {
		if leaf, _ := b.Space().Leaf(code); m.within(leaf, c) {
			sum.Add(sum, big.NewInt(n))
		}
	}
	want, wantWhy := int64(0), api.ErrOver
	if sum.IsInt64() {
		want, wantWhy = sum.Int64(), api.OK
	}
	if n, why := b.Value(s, c); n != want || why != wantWhy {
		t.Fatalf("Value(%v) = %d, %d; want %d, %d", c, n, why, want, wantWhy)
	}
}

func (m model) askFree(t *testing.T, b *state.Book, s state.State) {
	t.Helper()
	for _, user := range append(users(), "", "no name") {
		var free []int
		for code := range b.Space().Leaves() {
			if leaf, _ := b.Space().Leaf(code); !m.barred(leaf, code) && !m.foreign(leaf, user) {
				free = append(free, code)
			}
		}
		for i := range b.Space().Cells() {
			c, _ := b.Space().Cell(i)
			var want []int
			for _, code := range free {
				if leaf, _ := b.Space().Leaf(code); m.within(leaf, c) {
					want = append(want, code)
				}
			}
			f, why := b.Free(s, c, user)
			if why != api.OK || !slices.Equal(f.All(), want) {
				t.Fatalf("Free(%v, %q) = %v, %d; want %v", c, user, f.All(), why, want)
			}
		}
	}
}

// P15.4: the chapter's example.
func TestExample(t *testing.T) {
	b := bookOf(t, flat(2), 100)
	all, a := cell(0, 0), cell(0, 1)
	x := held(t, b, state.State{}, all)
	y := held(t, b, state.State{}, a)
	for _, user := range users() {
		if f, why := b.Free(x, all, user); why != api.OK || f.Many() != 0 {
			t.Errorf("Free below all = %v, %d", f.All(), why)
		}
		if f, why := b.Free(y, all, user); why != api.OK || !slices.Equal(f.All(), []int{1}) {
			t.Errorf("Free beside a = %v, %d", f.All(), why)
		}
	}
}

// P15.1: no catalogue, of rooms that are too small, right and too great; rooms that can not be.
func TestNew(t *testing.T) {
	d := dimsOf(t, deep())
	for _, room := range []int{math.MinInt, -1, 0, 1, 100, api.MaxArena, api.MaxArena + 1, math.MaxInt} {
		if b, why := state.New(nil, room); b != nil || why != api.ErrNil {
			t.Errorf("New of no catalogue, %d = %v, %d", room, b, why)
		}
		b, why := state.New(d, room)
		if room < 1 || room > api.MaxArena {
			if b != nil || why != api.ErrArg {
				t.Errorf("New(%d) = %v, %d", room, b, why)
			}
			continue
		}
		if b == nil || why != api.OK {
			t.Fatalf("New(%d) = %v, %d", room, b, why)
		}
		v := b.View()
		if b.Space().Dims() != d || v == nil || v.Space() != b.Space() || v.Pages().Codes() != 6 {
			t.Errorf("Space, View of %d", room)
		}
		if a := v.Pages().Arena(); a.Cap() != room || a.Used() != 0 {
			t.Errorf("arena of %d: %d, %d", room, a.Cap(), a.Used())
		}
	}
}

// P15.1, P6: a catalogue that dims.New did not make has no leaves, of which there can be no trees.
func TestNewOfEmptyCatalogue(t *testing.T) {
	for _, room := range []int{0, 1, 100} {
		if b, why := state.New(&dims.Dims{}, room); b != nil || why != api.ErrArg {
			t.Errorf("New(%d) = %v, %d", room, b, why)
		}
	}
}

// P15.1: two books have nothing in common.
func TestTwoBooks(t *testing.T) {
	x, y := bookOf(t, deep(), 50), bookOf(t, deep(), 50)
	written(t, x, state.State{}, val(0, 3))
	if used(x) == 0 || used(y) != 0 {
		t.Error("Used", used(x), used(y))
	}
}

// P15.1 to P15.4, P6: every call of a book that is nil, or that New did not make, of states with and without something.
func TestNoBook(t *testing.T) {
	b := bookOf(t, deep(), 100)
	rich := written(t, b, state.State{}, val(0, 3), val(4, -1))
	rich = locked(t, b, held(t, b, rich, cell(0, 1), cell(1, 3)), "ann", cell(0, 2))
	for _, x := range []*state.Book{nil, {}} {
		if x.Space() != nil || x.View() != nil {
			t.Error("Space, View")
		}
		for _, s := range []state.State{{}, rich, {Root: -1}, {Root: math.MaxInt}} {
			if x.Keep(s) != api.ErrNil || x.Drop(s) != api.ErrNil {
				t.Error("Keep, Drop")
			}
			if len(x.Held(s)) != 0 || x.Barred(s).Many() != 0 || x.Full(s) != 0 || x.Same(s, s) {
				t.Error("Held, Barred, Full, Same")
			}
			noBookCalls(t, x, s)
		}
	}
	if !b.Same(rich, rich) {
		t.Error("Same")
	}
}

func noBookCalls(t *testing.T, x *state.Book, s state.State) {
	t.Helper()
	for _, l := range [][]state.Val{nil, {val(0, 1)}, {val(-1, 1), val(0, 1)}} {
		w, why := x.Write(s, l...)
		refused(t, "Write", w, why, api.ErrNil)
	}
	for _, c := range append(wrong(deep()), cell(0), cell(0, 3), cell(1, 3)) {
		if n, why := x.Value(s, c); n != 0 || why != api.ErrNil {
			t.Error("Value", n, why)
		}
		h, why := x.Hold(s, c)
		refused(t, "Hold", h, why, api.ErrNil)
		r, why := x.Release(s, c)
		refused(t, "Release", r, why, api.ErrNil)
		for _, user := range append(users(), noNames()...) {
			l, why := x.Lock(s, c, user)
			refused(t, "Lock", l, why, api.ErrNil)
			u, why := x.Unlock(s, c, user)
			refused(t, "Unlock", u, why, api.ErrNil)
			if f, why := x.Free(s, c, user); f.Many() != 0 || why != api.ErrNil {
				t.Error("Free", f.All(), why)
			}
		}
	}
}

// P15.1: Keep and Drop of the zero state, of one without a tree, and of one with a tree, which is there as often as it is asked for.
func TestKeepDrop(t *testing.T) {
	b := bookOf(t, deep(), 100)
	bare := held(t, b, state.State{}, cell(0, 0))
	for _, s := range []state.State{{}, bare} {
		for range 3 {
			if b.Keep(s) != api.OK {
				t.Error("Keep of no tree")
			}
		}
		for range 5 {
			if b.Drop(s) != api.OK || used(b) != 0 {
				t.Error("Drop of no tree")
			}
		}
	}
	x := written(t, b, state.State{}, val(1, 7))
	if b.Keep(x) != api.OK || b.Drop(x) != api.OK || used(b) == 0 {
		t.Error("Keep, Drop of a tree")
	}
	if n, why := b.Value(x, cell(0, 4)); n != 7 || why != api.OK {
		t.Error("Value", n, why)
	}
	if b.Drop(x) != api.OK || used(b) != 0 {
		t.Error("the last Drop")
	}
	for _, root := range []int{x.Root, -1, math.MinInt, math.MaxInt} {
		s := state.State{Root: root}
		if b.Keep(s) != api.ErrNone || b.Drop(s) != api.ErrNone || used(b) != 0 {
			t.Error("Keep, Drop of what is not there", root)
		}
	}
}

// P15.2: no value, one, many, one code more than once, the value that is there, 0 where all is 0, 0 where it is not.
func TestWrite(t *testing.T) {
	cat := catOf(1, append([]int{-1}, make([]int, 20)...))
	rows := [][]state.Val{
		nil,
		{val(0, 5)},
		{val(19, least)},
		{val(0, 5), val(8, -3), val(19, greatest)},
		{val(19, 1), val(0, 2), val(8, 3)},
		{val(4, 1), val(4, 2), val(4, 3)},
		{val(4, 1), val(5, 9), val(4, 0)},
		{val(4, 0), val(5, 0)},
		{val(2, 6)},
		{val(2, 0), val(9, 0)},
		{val(2, 0), val(2, 6), val(9, 0), val(9, 7)},
	}
	for _, l := range rows {
		for _, first := range [][]state.Val{nil, {val(2, 6), val(9, 7)}} {
			b := bookOf(t, cat, 100)
			x := written(t, b, state.State{}, first...)
			m := modelOf(cat, b)
			for _, v := range first {
				m.vals[v.Code] = v.N
			}
			was := m.copy()
			y := written(t, b, x, l...)
			for _, v := range l {
				m.vals[v.Code] = v.N
			}
			m.ask(t, b, y)
			was.ask(t, b, x)
			if same := slices.Equal(m.vals, was.vals); b.Same(x, y) != same {
				t.Errorf("Same behind %v = %t", l, !same)
			}
			b.Drop(x)
			m.ask(t, b, y)
			b.Drop(y)
			if used(b) != 0 {
				t.Errorf("Used behind %v = %d", l, used(b))
			}
		}
	}
}

// P15.2, P10.6: where all values are 0, and none is held, there is no tree.
func TestWriteNothing(t *testing.T) {
	b := bookOf(t, flat(20), 100)
	for _, l := range [][]state.Val{nil, {val(3, 0)}, {val(0, 0), val(19, 0)}, {val(3, 5), val(3, 0)}} {
		if x := written(t, b, state.State{}, l...); x.Root != 0 || used(b) != 0 {
			t.Errorf("Write(%v): root %d, Used %d", l, x.Root, used(b))
		}
	}
}

// P15.2: each state that Write tells is asked for once more, also if it is the one that it is asked of.
func TestWriteAsked(t *testing.T) {
	b := bookOf(t, deep(), 100)
	x := written(t, b, state.State{}, val(0, 3))
	refs := func() int { return b.View().Pages().Arena().Refs(x.Root) }
	for i, l := range [][]state.Val{nil, {val(0, 3)}, {val(0, 3), val(0, 3), val(5, 0)}} {
		if y := written(t, b, x, l...); y.Root != x.Root || refs() != i+2 {
			t.Errorf("Write(%v): root %d of %d, Refs %d", l, y.Root, x.Root, refs())
		}
	}
	y := written(t, b, x, val(1, 4), val(2, 5))
	if refs() != 4 || b.View().Pages().Arena().Refs(y.Root) != 1 {
		t.Error("Refs", refs())
	}
	// The same entries, by a way round, are another tree.
	z := written(t, b, x, val(0, 8), val(0, 3))
	if !b.Same(x, z) || refs() != 4 {
		t.Error("by a way round", refs())
	}
	for _, s := range []state.State{x, x, x, x, y, z} {
		b.Drop(s)
	}
	if used(b) != 0 {
		t.Error("Used", used(b))
	}
}

// P15.2: a code that is none among good ones: nothing is written, whatever stands ahead of it, and also where there would be no room.
func TestWriteRange(t *testing.T) {
	for name, cat := range cats() {
		for _, room := range []int{6, 500} {
			b := bookOf(t, cat, room)
			m := modelOf(cat, b)
			x := written(t, b, state.State{}, val(0, 3))
			m.vals[0] = 3
			was := arenaOf(b)
			last := b.Space().Leaves() - 1
			for _, code := range off(b.Space()) {
				for _, l := range [][]state.Val{
					{val(code, 1)}, {val(code, 0)}, {val(code, 1), val(0, 1)}, {val(0, 1), val(code, 1)},
					{val(0, 1), val(last, 2), val(code, 0), val(0, 4)}, {val(last, 9), val(0, 1), val(last, 2), val(code, 1)},
				} {
					w, why := b.Write(x, l...)
					refused(t, name, w, why, api.ErrRange)
				}
			}
			if !slices.Equal(arenaOf(b), was) {
				t.Errorf("%s: the arena is not as it was", name)
			}
			m.ask(t, b, x)
		}
	}
}

// P15.2: there is no room at the first value, at a middle one, at the last one; the arena is then as it was.
func TestWriteFull(t *testing.T) {
	// Two levels: a state of one value has 2 nodes; each value makes 2 more, and those of the one ahead of it that are not shared are gone.
	rows := []struct {
		room int
		full bool
	}{
		{2, true}, {3, true}, // no room for 0
		{4, true}, {5, true}, // none for 8
		{6, true}, // none for 16
		{7, false}, {8, false},
	}
	values := []state.Val{val(0, 5), val(8, 6), val(16, 7)}
	for _, r := range rows {
		b := bookOf(t, flat(20), r.room)
		m := modelOf(flat(20), b)
		x := written(t, b, state.State{}, val(0, 3))
		m.vals[0] = 3
		was := arenaOf(b)
		y, why := b.Write(x, values...)
		if !r.full {
			m.ask(t, b, x)
			for _, v := range values {
				m.vals[v.Code] = v.N
			}
			m.ask(t, b, got(t, y, why))
			continue
		}
		refused(t, "Write with room "+strconv.Itoa(r.room), y, why, api.ErrFull)
		if !slices.Equal(arenaOf(b), was) {
			t.Errorf("room %d: the arena is not as it was", r.room)
		}
		m.ask(t, b, x)
		// What needs no node is written still.
		if z := written(t, b, x, val(0, 3), val(9, 0)); z.Root != x.Root {
			t.Error("Write of what is there", z.Root)
		}
	}
}

// P15.2: of 1000 values each has room only because those of the one ahead of it are let go.
func TestWriteLetsGo(t *testing.T) {
	b := bookOf(t, flat(20), 6)
	var l []state.Val
	for i := range 1000 {
		l = append(l, val(i%8, int64(i)))
	}
	x := written(t, b, state.State{}, l...)
	y := written(t, b, x, l...)
	if used(b) != 4 || b.Full(x) != 8 || !b.Same(x, y) {
		t.Error("Used, Full", used(b), b.Full(x))
	}
}

// Rule 4, rule 5: the list that is handed in is neither changed nor kept.
func TestWriteList(t *testing.T) {
	b := bookOf(t, deep(), 100)
	l := []state.Val{val(2, 4), val(0, 3), val(2, 5)}
	x := written(t, b, state.State{}, l...)
	if !slices.Equal(l, []state.Val{val(2, 4), val(0, 3), val(2, 5)}) {
		t.Error("the list is changed", l)
	}
	clear(l)
	if n, _ := b.Value(x, cell(0, 0)); n != 8 {
		t.Error("Value", n)
	}
}

// P15.2, P15.5: Write leaves what is held held, and what is locked locked, and does not ask for it.
func TestWriteHeld(t *testing.T) {
	cat := deep()
	b := bookOf(t, cat, 100)
	m := modelOf(cat, b)
	x := held(t, b, state.State{}, cell(0, 3), cell(0, 0), cell(1, 2))
	x = locked(t, b, x, "ann", cell(0, 2))
	m.leafs[0], m.leafs[5] = true, true
	m.holds = []api.Cell{cell(0, 0)}
	m.locks = []api.Lock{{Cell: cell(0, 2), User: "ann"}}
	for _, l := range [][]state.Val{{val(0, 4)}, {val(2, 3)}, {val(5, 1), val(0, -4), val(1, 1)}, {val(0, 0), val(5, 0)}, {val(3, 8), val(0, 0)}} {
		x = written(t, b, x, l...)
		for _, v := range l {
			m.vals[v.Code] = v.N
		}
		m.ask(t, b, x)
	}
}

// P15.2: Value is as the view says: of cells that can not be, and of sums that do not fit.
func TestValue(t *testing.T) {
	for name, cat := range cats() {
		b := bookOf(t, cat, 500)
		last := b.Space().Leaves() - 1
		m := modelOf(cat, b)
		m.vals[0], m.vals[last/2], m.vals[last] = greatest, greatest, greatest
		x := written(t, b, state.State{}, val(0, greatest), val(last/2, greatest), val(last, greatest))
		m.ask(t, b, x)
		for _, c := range wrong(cat) {
			for _, s := range []state.State{{}, x} {
				if n, why := b.Value(s, c); n != 0 || why != api.ErrRange {
					t.Errorf("%s: Value(%v) = %d, %d", name, c, n, why)
				}
			}
		}
		for i := range b.Space().Cells() {
			c, _ := b.Space().Cell(i)
			n, why := b.Value(x, c)
			if seen, seenWhy := b.View().Value(x.Root, c); n != seen || why != seenWhy {
				t.Errorf("%s: Value(%v) = %d, %d; the view's %d, %d", name, c, n, why, seen, seenWhy)
			}
		}
	}
}

// P15.2: values that are 0 count for nothing, though they are held.
func TestFullHeld(t *testing.T) {
	b := bookOf(t, deep(), 100)
	x := held(t, b, state.State{}, cell(0, 3), cell(0, 4), cell(1, 0))
	if n := b.Full(x); n != 0 {
		t.Error("Full of what is held", n)
	}
	x = written(t, b, x, val(0, least), val(2, 1))
	if n := b.Full(x); n != 2 {
		t.Error("Full", n)
	}
	x = written(t, b, x, val(0, 0))
	if n := b.Full(x); n != 1 {
		t.Error("Full behind 0", n)
	}
	if n := b.Full(state.State{}); n != 0 {
		t.Error("Full of the zero state", n)
	}
}

// P15.3: Hold and Release of each cell of states that hold others; twice; by all cells' being as they were.
func TestHoldRelease(t *testing.T) {
	for name, cat := range cats() {
		t.Run(name, func(t *testing.T) {
			b := bookOf(t, cat, 500)
			base := modelOf(cat, b)
			last := b.Space().Leaves() - 1
			x := written(t, b, state.State{}, val(last, 5))
			base.vals[last] = 5
			for i := range b.Space().Cells() {
				c, _ := b.Space().Cell(i)
				r, why := b.Release(x, c)
				refused(t, "Release", r, why, api.ErrNone)
				y := held(t, b, x, c)
				m := base.copy()
				if code := b.Space().Code(c); code >= 0 {
					m.leafs[code] = true
				} else {
					m.holds = []api.Cell{c}
				}
				m.ask(t, b, y)
				base.ask(t, b, x)
				h, why := b.Hold(y, c)
				refused(t, "Hold twice", h, why, api.ErrTwice)
				z, why := b.Release(y, c)
				base.ask(t, b, got(t, z, why))
				m.ask(t, b, y)
				if !b.Same(z, x) || b.Same(z, y) {
					t.Fatal("Same behind Hold and Release", c)
				}
				b.Drop(y)
				b.Drop(z)
			}
			b.Drop(x)
			if used(b) != 0 {
				t.Error("Used", used(b))
			}
		})
	}
}

// P15.3: cells that can not be, of states with nothing, and with as many holds as may be.
func TestCellsWrong(t *testing.T) {
	cat := many()
	b := bookOf(t, cat, 500)
	full := held(t, b, state.State{}, tops(b)[:api.MaxHolds]...)
	full = written(t, b, full, val(0, 3))
	was := arenaOf(b)
	for _, s := range []state.State{{}, full} {
		for _, c := range wrong(cat) {
			h, why := b.Hold(s, c)
			refused(t, "Hold", h, why, api.ErrRange)
			r, why := b.Release(s, c)
			refused(t, "Release", r, why, api.ErrRange)
			l, why := b.Lock(s, c, "ann")
			refused(t, "Lock", l, why, api.ErrRange)
			u, why := b.Unlock(s, c, "ann")
			refused(t, "Unlock", u, why, api.ErrRange)
			if f, why := b.Free(s, c, "ann"); f.Many() != 0 || why != api.ErrRange {
				t.Errorf("Free(%v) = %v, %d", c, f.All(), why)
			}
		}
	}
	if !slices.Equal(arenaOf(b), was) {
		t.Error("the arena is not as it was")
	}
}

// tops are all cells of a book that are no leaves, by rising indexes.
func tops(b *state.Book) []api.Cell {
	var l []api.Cell
	for i := range b.Space().Cells() {
		if c, _ := b.Space().Cell(i); b.Space().Code(c) < 0 {
			l = append(l, c)
		}
	}
	return l
}

// P15.3: the 16th cell that is no leaf and the 17th; leaves can be held whatever the number of the others, and do not count.
func TestHoldsFull(t *testing.T) {
	cat := many()
	b := bookOf(t, cat, 1000)
	m := modelOf(cat, b)
	var x state.State
	leaves := func(from, to int) {
		for code := from; code < to; code++ {
			leaf, _ := b.Space().Leaf(code)
			x = held(t, b, x, leaf)
			m.leafs[code] = true
		}
	}
	leaves(0, b.Space().Leaves()-2)
	l := tops(b)
	x = held(t, b, x, l[:api.MaxHolds-1]...)
	x = held(t, b, x, l[api.MaxHolds-1])
	m.holds = slices.Clone(l[:api.MaxHolds])
	m.ask(t, b, x)
	for i, c := range l {
		want := api.ErrFull
		if i < api.MaxHolds {
			want = api.ErrTwice
		}
		h, why := b.Hold(x, c)
		refused(t, "Hold of the 17th", h, why, want)
	}
	leaves(b.Space().Leaves()-2, b.Space().Leaves())
	m.ask(t, b, x)
	y, why := b.Release(x, l[3])
	y = got(t, y, why)
	m.ask(t, b, x)
	y = held(t, b, y, l[api.MaxHolds])
	m.holds = append(slices.Delete(m.holds, 3, 4), l[api.MaxHolds])
	m.ask(t, b, y)
}

// P15.3: there is no room to hold a leaf, or to release it; that of another cell needs none. The arena is then as it was.
func TestHoldFull(t *testing.T) {
	leaf, other, all := cell(0, 1), cell(0, 9), cell(0, 0)
	for room := 2; room < 6; room++ {
		b := bookOf(t, flat(20), room)
		x := held(t, b, state.State{}, leaf)
		x = held(t, b, x, all)
		was := arenaOf(b)
		y, why := b.Hold(x, other)
		if room >= 4 {
			got(t, y, why)
			continue
		}
		refused(t, "Hold", y, why, api.ErrFull)
		w, why := b.Write(x, val(0, 1))
		refused(t, "Write", w, why, api.ErrFull)
		if !slices.Equal(arenaOf(b), was) {
			t.Errorf("room %d: the arena is not as it was", room)
		}
		twice, why := b.Hold(x, leaf)
		refused(t, "Hold of what is held", twice, why, api.ErrTwice)
		none, why := b.Release(x, other)
		refused(t, "Release of what is not", none, why, api.ErrNone)
		// To release the only entry needs no node: the tree is gone.
		z, why := b.Release(x, leaf)
		if z = got(t, z, why); z.Root != 0 {
			t.Error("Release of the only leaf", z.Root)
		}
		z, why = b.Release(x, all)
		if z = got(t, z, why); z.Root != x.Root {
			t.Error("Release of all", z.Root)
		}
	}
}

// P15.3: there is no room to release a leaf that has a value.
func TestReleaseFull(t *testing.T) {
	leaf := cell(0, 1)
	b := bookOf(t, flat(20), 4)
	x := written(t, b, state.State{}, val(0, 5))
	y := held(t, b, x, leaf)
	was := arenaOf(b)
	z, why := b.Release(y, leaf)
	refused(t, "Release", z, why, api.ErrFull)
	if !slices.Equal(arenaOf(b), was) {
		t.Error("the arena is not as it was")
	}
	if l := b.Held(y); !slices.Equal(l, []api.Cell{leaf}) {
		t.Error("Held", l)
	}
	b.Drop(x)
	z, why = b.Release(y, leaf)
	if z = got(t, z, why); len(b.Held(z)) != 0 || b.Full(z) != 1 {
		t.Error("Release with room", b.Held(z), b.Full(z))
	}
}

// P15.3: Lock and Unlock as layer 14 says: users that are no names, other users, within an own lock, twice, what is not locked.
func TestLock(t *testing.T) {
	cat := deep()
	b := bookOf(t, cat, 100)
	x := held(t, b, written(t, b, state.State{}, val(0, 3)), cell(0, 0), cell(1, 2))
	x = locked(t, b, x, "ann", cell(0, 1))
	was := arenaOf(b)
	rows := []struct {
		user string
		c    api.Cell
		add  api.Errno
		drop api.Errno
	}{
		{"", cell(0, 1), api.ErrName, api.ErrName},
		{"a b", cell(9), api.ErrName, api.ErrName},
		{"ann", cell(9), api.ErrRange, api.ErrRange},
		{"ann", cell(0, 1), api.ErrTwice, api.OK},
		{"bob", cell(0, 1), api.ErrLocked, api.ErrLocked},
		{"bob", cell(0, 0), api.ErrLocked, api.ErrNone},
		{"bob", cell(0, 3), api.ErrLocked, api.ErrNone},
		{"bob", cell(0, 2), api.OK, api.ErrNone},
		{"bob", cell(1, 0), api.OK, api.ErrNone},
		{"ann", cell(0, 3), api.OK, api.ErrNone},
		{"ann", cell(0, 0), api.OK, api.ErrNone},
	}
	for _, r := range rows {
		for _, drop := range []bool{false, true} {
			call, want := b.Lock, r.add
			if drop {
				call, want = b.Unlock, r.drop
			}
			y, why := call(x, r.c, r.user)
			if want != api.OK {
				refused(t, "Lock, Unlock by "+r.user, y, why, want)
				continue
			}
			if y = got(t, y, why); y.Root != x.Root || !y.Holds.Same(x.Holds) || b.Same(y, x) {
				t.Error("Lock, Unlock of", r)
			}
			b.Drop(y)
		}
	}
	if !slices.Equal(arenaOf(b), was) {
		t.Error("the arena is not as it was")
	}
}

// P15.3: as many locks as may be, and one more.
func TestLocksFull(t *testing.T) {
	cat := many()
	b := bookOf(t, cat, 100)
	x := locked(t, b, state.State{}, "ann", tops(b)[:api.MaxLocks]...)
	l, why := b.Lock(x, tops(b)[api.MaxLocks], "ann")
	refused(t, "Lock of the 17th", l, why, api.ErrFull)
	if len(x.Locks.List()) != api.MaxLocks {
		t.Error("Locks", x.Locks.List())
	}
}

// P15.3, P15.5: each state that Hold, Release, Lock and Unlock tell is asked for once more, and has the same tree, if no leaf is held.
func TestAskedOnceMore(t *testing.T) {
	b := bookOf(t, deep(), 100)
	x := written(t, b, state.State{}, val(0, 3))
	y := held(t, b, x, cell(0, 0))
	z := locked(t, b, y, "ann", cell(0, 0))
	v, why := b.Unlock(z, cell(0, 0), "ann")
	v = got(t, v, why)
	w, why := b.Release(v, cell(0, 0))
	w = got(t, w, why)
	if n := b.View().Pages().Arena().Refs(x.Root); n != 5 || w.Root != x.Root || !b.Same(w, x) || !b.Same(v, y) {
		t.Error("Refs", n)
	}
	leaf := held(t, b, x, cell(0, 4))
	if b.View().Pages().Arena().Refs(leaf.Root) != 1 || leaf.Root == x.Root {
		t.Error("Refs of a leaf's")
	}
	for _, s := range []state.State{x, y, z, v, w, leaf} {
		if b.Drop(s) != api.OK {
			t.Error("Drop")
		}
	}
	if used(b) != 0 {
		t.Error("Used", used(b))
	}
}

// P15.4: Held by rising indexes, leaves and others together, in whatever order they came to be held.
func TestHeld(t *testing.T) {
	cat := deep()
	b := bookOf(t, cat, 200)
	want := []api.Cell{cell(0, 0), cell(0, 2), cell(0, 3), cell(1, 1), cell(1, 2), cell(1, 4)}
	r := rand.New(rand.NewSource(1))
	for range 30 {
		var x state.State
		for _, i := range r.Perm(len(want)) {
			y := held(t, b, x, want[i])
			b.Drop(x)
			x = y
		}
		l := b.Held(x)
		if !slices.Equal(l, want) {
			t.Fatal("Held", l)
		}
		// Rule 4: what a caller writes into an answer is seen by no later one.
		_ = append(l[:2], cell(7))
		clear(l)
		if l := b.Held(x); !slices.Equal(l, want) {
			t.Fatal("Held behind a write into it", l)
		}
		b.Drop(x)
	}
	if l := b.Held(state.State{}); len(l) != 0 {
		t.Error("Held of the zero state", l)
	}
}

// P15.4: Barred and Free of a leaf that is held itself, below a cell that is, below two; locked by the user, by another one, and both held and locked.
func TestBarredFree(t *testing.T) {
	b := bookOf(t, deep(), 200)
	rows := []struct {
		held       []api.Cell
		ann, bob   []api.Cell
		barred     []int
		annF, bobF []int
	}{
		{nil, nil, nil, nil, []int{0, 1, 2}, []int{0, 1, 2}},
		{[]api.Cell{cell(0, 3)}, nil, nil, []int{0}, []int{1, 2}, []int{1, 2}},
		{[]api.Cell{cell(0, 1)}, nil, nil, []int{0, 1}, []int{2}, []int{2}},
		{[]api.Cell{cell(0, 1), cell(0, 0)}, nil, nil, []int{0, 1, 2}, nil, nil},
		{[]api.Cell{cell(0, 1), cell(0, 3)}, nil, nil, []int{0, 1}, []int{2}, []int{2}},
		{[]api.Cell{cell(0, 2), cell(0, 3), cell(0, 4)}, nil, nil, []int{0, 1, 2}, nil, nil},
		{[]api.Cell{cell(1, 0)}, nil, nil, []int{3, 4, 5}, []int{0, 1, 2}, []int{0, 1, 2}},
		{nil, []api.Cell{cell(0, 3)}, nil, nil, []int{0, 1, 2}, []int{1, 2}},
		{nil, []api.Cell{cell(0, 1)}, []api.Cell{cell(0, 2)}, nil, []int{0, 1}, []int{2}},
		{nil, []api.Cell{cell(0, 0)}, nil, nil, []int{0, 1, 2}, nil},
		{[]api.Cell{cell(0, 3)}, []api.Cell{cell(0, 1)}, nil, []int{0}, []int{1, 2}, []int{2}},
		{[]api.Cell{cell(0, 1)}, []api.Cell{cell(0, 3)}, []api.Cell{cell(0, 2)}, []int{0, 1}, nil, []int{2}},
	}
	for _, r := range rows {
		x := held(t, b, state.State{}, r.held...)
		x = locked(t, b, locked(t, b, x, "ann", r.ann...), "bob", r.bob...)
		if l := b.Barred(x).All(); !slices.Equal(l, r.barred) {
			t.Errorf("%v: Barred = %v", r.held, l)
		}
		for user, want := range map[string][]int{"ann": r.annF, "bob": r.bobF} {
			if f, why := b.Free(x, cell(0, 0), user); why != api.OK || !slices.Equal(f.All(), want) {
				t.Errorf("%v: Free for %s = %v, %d; want %v", r.held, user, f.All(), why, want)
			}
		}
	}
}

// P15.4: Free of a cell that is a leaf, and of one beside what is held.
func TestFreeCells(t *testing.T) {
	b := bookOf(t, deep(), 200)
	x := held(t, b, state.State{}, cell(0, 3), cell(1, 1))
	rows := []struct {
		c    api.Cell
		free []int
	}{
		{cell(0, 0), []int{1, 2}}, {cell(0, 1), []int{1}}, {cell(0, 2), []int{2}}, {cell(0, 3), nil}, {cell(0, 4), []int{1}},
		{cell(1, 0), []int{5}}, {cell(1, 1), nil}, {cell(1, 2), []int{5}}, {cell(1, 3), nil},
	}
	for _, r := range rows {
		for _, user := range append(users(), noNames()...) {
			if f, why := b.Free(x, r.c, user); why != api.OK || !slices.Equal(f.All(), r.free) {
				t.Errorf("Free(%v, %q) = %v, %d; want %v", r.c, user, f.All(), why, r.free)
			}
		}
	}
}

// P15.4: Same of states that came to be in another order; of other entries, held and not; of other holds and other locks.
func TestSame(t *testing.T) {
	b := bookOf(t, deep(), 400)
	a, c := cell(0, 1), cell(0, 3)
	x := written(t, b, state.State{}, val(0, 3), val(4, 2))
	x = locked(t, b, held(t, b, x, a, c), "ann", cell(0, 0), cell(1, 0))
	y := locked(t, b, state.State{}, "ann", cell(1, 0), cell(0, 0))
	y = written(t, b, y, val(4, 2), val(5, 8))
	y = held(t, b, y, c, a)
	y = written(t, b, y, val(0, 3), val(5, 0))
	if !b.Same(x, y) || !b.Same(y, x) || x.Root == y.Root {
		t.Error("Same in another order")
	}
	others := []state.State{
		{},
		written(t, b, x, val(0, 4)),
		written(t, b, x, val(5, 1)),
		written(t, b, x, val(4, 0)),
		held(t, b, x, cell(0, 4)),
		held(t, b, x, cell(0, 0)),
		locked(t, b, x, "ann", cell(0, 1)),
		locked(t, b, x, "ann", cell(0, 3)),
	}
	for _, less := range []func() (state.State, api.Errno){
		func() (state.State, api.Errno) { return b.Release(x, a) },
		func() (state.State, api.Errno) { return b.Release(x, c) },
		func() (state.State, api.Errno) { return b.Unlock(x, cell(1, 0), "ann") },
	} {
		s, why := less()
		others = append(others, got(t, s, why))
	}
	less, why := b.Unlock(x, cell(1, 0), "ann")
	others = append(others, locked(t, b, got(t, less, why), "bob", cell(1, 0)))
	for i, s := range others {
		if b.Same(x, s) || b.Same(s, y) || !b.Same(s, s) {
			t.Error("Same with another one", i)
		}
	}
	if !b.Same(state.State{}, state.State{}) || !b.Same(state.State{}, written(t, b, state.State{}, val(3, 0))) {
		t.Error("Same of nothing")
	}
}

// P15.3, P15.5: Hold and Lock change no values, Write and Lock no holds; the state that a call is asked of is as it was.
func TestNeverChanged(t *testing.T) {
	cat := deep()
	b := bookOf(t, cat, 300)
	m := modelOf(cat, b)
	x := written(t, b, state.State{}, val(0, 3), val(5, -2))
	x = locked(t, b, held(t, b, x, cell(0, 3), cell(1, 1)), "ann", cell(0, 0))
	m.vals[0], m.vals[5], m.leafs[0] = 3, -2, true
	m.holds = []api.Cell{cell(1, 1)}
	m.locks = []api.Lock{{Cell: cell(0, 0), User: "ann"}}
	was := m.copy()
	var all []state.State
	add := func(s state.State, why api.Errno) { all = append(all, got(t, s, why)) }
	for i := range b.Space().Cells() {
		c, _ := b.Space().Cell(i)
		if code := b.Space().Code(c); code >= 0 {
			add(b.Write(x, val(code, 9), val(0, -9)))
		}
		if m.isHeld(b, c) {
			add(b.Release(x, c))
		} else {
			add(b.Hold(x, c))
		}
		if c == cell(0, 0) {
			add(b.Unlock(x, c, "ann"))
		} else {
			add(b.Lock(x, c, "ann"))
		}
		was.ask(t, b, x)
	}
	for _, s := range all {
		was.ask(t, b, x)
		b.Drop(s)
	}
	was.ask(t, b, x)
}

// P6: roots that the book did not tell, of which nothing more is promised, make no call panic.
func TestOtherRoots(t *testing.T) {
	cat := flat(20)
	b := bookOf(t, cat, 60)
	x := held(t, b, written(t, b, state.State{}, val(0, 3), val(19, 4)), cell(0, 2))
	a := b.View().Pages().Arena()
	var n arena.Node
	for i := range n.Kids {
		n.Kids[i] = x.Root
	}
	wide, why := a.Make(n)
	if why != api.OK {
		t.Fatal("Make", why)
	}
	leaf := arena.Node{Leaf: true}
	for i := range leaf.Vals {
		leaf.Vals[i] = api.Entry{Val: 1, Held: true}
	}
	low, _ := a.Make(leaf)
	over, _ := a.Make(arena.Node{Kids: [arena.Fan]int{7: low}})
	for _, root := range []int{math.MinInt, -1, 1, 2, 3, wide, low, over, 59, 60, math.MaxInt} {
		s := state.State{Root: root, Holds: x.Holds}
		for _, c := range append(wrong(cat), cell(0), cell(0, 1), cell(0, 20)) {
			b.Value(s, c)
			b.Hold(s, c)
			b.Release(s, c)
			b.Lock(s, c, "ann")
			b.Unlock(s, c, "ann")
			b.Free(s, c, "ann")
		}
		b.Write(s)
		b.Write(s, val(0, 1), val(19, 1))
		b.Held(s)
		b.Barred(s)
		b.Full(s)
		b.Same(s, x)
		b.Same(x, s)
	}
}

// live is a state that is asked for once, and what it must be.
type live struct {
	s state.State
	m model
}

// walk is a book and states of it that are asked for.
type walk struct {
	b    *state.Book
	r    *rand.Rand
	live []live
}

// P15.1 to P15.6: many calls, right ones and wrong ones, of many states that live beside each other, against lists.
func TestWalks(t *testing.T) {
	for name, cat := range cats() {
		for _, room := range []int{40, api.MaxArena} {
			t.Run(name+strconv.Itoa(room), func(t *testing.T) {
				b := bookOf(t, cat, room)
				w := &walk{b, rand.New(rand.NewSource(11)), []live{{state.State{}, modelOf(cat, b)}}}
				for range 300 {
					w.step(t, w.live[w.r.Intn(len(w.live))], room < api.MaxArena)
					if len(w.live) > 12 {
						w.dropOne(t)
					}
				}
				for len(w.live) > 0 {
					w.dropOne(t)
				}
				if used(b) != 0 {
					t.Errorf("Used = %d", used(b))
				}
			})
		}
	}
}

// dropOne lets go of a state, behind asking all of it.
func (w *walk) dropOne(t *testing.T) {
	t.Helper()
	i := w.r.Intn(len(w.live))
	w.live[i].m.ask(t, w.b, w.live[i].s)
	if why := w.b.Drop(w.live[i].s); why != api.OK {
		t.Fatal("Drop", why)
	}
	w.live = slices.Delete(w.live, i, i+1)
}

// step does one call, to the state and to the model.
func (w *walk) step(t *testing.T, from live, tight bool) {
	t.Helper()
	was := arenaOf(w.b)
	m := from.m.copy()
	c, _ := w.b.Space().Cell(w.r.Intn(w.b.Space().Cells()))
	user := users()[w.r.Intn(len(users()))]
	var s state.State
	why, want := api.OK, api.OK
	switch w.r.Intn(6) {
	case 0, 1:
		l := w.values()
		s, why = w.b.Write(from.s, l...)
		want = m.write(l)
	case 2:
		s, why = w.b.Hold(from.s, c)
		want = m.hold(w.b, c)
	case 3:
		if l := w.b.Held(from.s); len(l) > 0 && w.r.Intn(2) == 0 {
			c = l[w.r.Intn(len(l))]
		}
		s, why = w.b.Release(from.s, c)
		want = m.release(w.b, c)
	case 4:
		s, why = w.b.Lock(from.s, c, user)
		want = m.lock(w.b, c, user)
	case 5:
		if len(m.locks) > 0 && w.r.Intn(2) == 0 {
			c = m.locks[w.r.Intn(len(m.locks))].Cell
		}
		s, why = w.b.Unlock(from.s, c, user)
		want = m.unlock(c, user)
	}
	if tight && want == api.OK && why == api.ErrFull {
		want = api.ErrFull
	}
	if why != want {
		t.Fatalf("error %d; want %d", why, want)
	}
	if why != api.OK {
		refused(t, "a call", s, why, want)
		if !slices.Equal(arenaOf(w.b), was) {
			t.Fatal("the arena is not as it was")
		}
		return
	}
	w.live = append(w.live, live{s, m})
}

// values are some for Write, seldom with a code that is none.
func (w *walk) values() []state.Val {
	var l []state.Val
	for range w.r.Intn(5) {
		n := int64(w.r.Intn(7) - 3)
		if w.r.Intn(8) == 0 {
			n = []int64{least, greatest, least + 1, 1 << 62}[w.r.Intn(4)]
		}
		l = append(l, val(w.r.Intn(w.b.Space().Leaves()), n))
	}
	if bad := off(w.b.Space()); len(l) > 0 && w.r.Intn(8) == 0 {
		l[w.r.Intn(len(l))].Code = bad[w.r.Intn(len(bad))]
	}
	return l
}

func (m *model) write(l []state.Val) api.Errno {
	for _, v := range l {
		if v.Code < 0 || v.Code >= len(m.vals) {
			return api.ErrRange
		}
	}
	for _, v := range l {
		m.vals[v.Code] = v.N
	}
	return api.OK
}

func (m *model) hold(b *state.Book, c api.Cell) api.Errno {
	code := b.Space().Code(c)
	switch {
	case m.isHeld(b, c):
		return api.ErrTwice
	case code >= 0:
		m.leafs[code] = true
	case len(m.holds) == api.MaxHolds:
		return api.ErrFull
	default:
		m.holds = append(m.holds, c)
	}
	return api.OK
}

func (m *model) release(b *state.Book, c api.Cell) api.Errno {
	if !m.isHeld(b, c) {
		return api.ErrNone
	}
	if code := b.Space().Code(c); code >= 0 {
		m.leafs[code] = false
		return api.OK
	}
	m.holds = slices.DeleteFunc(m.holds, func(h api.Cell) bool { return h == c })
	return api.OK
}

func (m *model) lock(b *state.Book, c api.Cell, user string) api.Errno {
	if slices.Contains(m.locks, api.Lock{Cell: c, User: user}) {
		return api.ErrTwice
	}
	for code := range b.Space().Leaves() {
		if leaf, _ := b.Space().Leaf(code); m.within(leaf, c) && m.foreign(leaf, user) {
			return api.ErrLocked
		}
	}
	if len(m.locks) == api.MaxLocks {
		return api.ErrFull
	}
	m.locks = append(m.locks, api.Lock{Cell: c, User: user})
	slices.SortFunc(m.locks, func(x, y api.Lock) int { return b.Space().Index(x.Cell) - b.Space().Index(y.Cell) })
	return api.OK
}

func (m *model) unlock(c api.Cell, user string) api.Errno {
	at := slices.IndexFunc(m.locks, func(l api.Lock) bool { return l.Cell == c })
	if at < 0 {
		return api.ErrNone
	}
	if m.locks[at].User != user {
		return api.ErrLocked
	}
	m.locks = slices.Delete(m.locks, at, at+1)
	return api.OK
}

// P15.2, P15.6: as many leaves as there may be, in as much room as there may be.
func TestLimits(t *testing.T) {
	pairs := make([]int, 32)
	for i := range 16 {
		pairs[2*i], pairs[2*i+1] = -1, 2*i
	}
	cat := catOf(4, pairs, pairs)
	b := bookOf(t, cat, api.MaxArena)
	if b.Space().Leaves() != api.MaxLeaves {
		t.Fatal("Leaves", b.Space().Leaves())
	}
	var l []state.Val
	for code := range api.MaxLeaves {
		l = append(l, val(code, int64(code+1)))
	}
	x := written(t, b, state.State{}, l...)
	leaf, _ := b.Space().Leaf(api.MaxLeaves - 1)
	y := held(t, b, x, leaf)
	if b.Full(x) != api.MaxLeaves || b.Full(y) != api.MaxLeaves || !b.Barred(y).Same(region.Of(api.MaxLeaves-1)) {
		t.Error("Full", b.Full(x), b.Full(y))
	}
	b.Drop(x)
	if n, why := b.Value(y, leaf); n != api.MaxLeaves || why != api.OK {
		t.Error("Value", n, why)
	}
	b.Drop(y)
	if used(b) != 0 {
		t.Error("Used", used(b))
	}
}
