package merge_test

import (
	"math"
	"math/big"
	"slices"
	"strconv"
	"testing"

	"moiety/api"
	"moiety/arena"
	"moiety/dims"
	"moiety/merge"
	"moiety/state"
)

const (
	least    = math.MinInt64
	greatest = math.MaxInt64
)

// catOf is a catalogue of so many measures, and of dimensions whose members stand below those of each list.
func catOf(measures int, ups ...[]int) api.Cat {
	cat := api.Cat{Leaves: 1, Scens: 1}
	for i := range measures {
		cat.Meas = append(cat.Meas, "m"+strconv.Itoa(i))
	}
	for k, l := range ups {
		d := api.Dim{Name: "d" + strconv.Itoa(k)}
		for i, up := range l {
			d.Nodes = append(d.Nodes, api.Node{Name: "n" + strconv.Itoa(i), Up: up})
		}
		cat.Dims = append(cat.Dims, d)
	}
	return cat
}

// The members of deep.
const (
	all = iota
	inA
	inB
	inC
	inD
)

// deep is two measures of all; a and b below it; c and d below a. Its leaves' codes: c 0, d 1, b 2; 3, 4, 5.
func deep() api.Cat {
	return catOf(2, []int{-1, all, all, inA, inA})
}

// apart is so many leaves of one measure, with nothing above them.
func apart(leaves int) api.Cat {
	l := make([]int, leaves)
	for i := range l {
		l[i] = -1
	}
	return catOf(1, l)
}

// grid is 24 leaves below all, in a tree of two levels: the leaves 0, 8 and 16 are those within the first member of the second dimension.
func grid() api.Cat {
	return catOf(1, []int{-1, 0, 0, 0}, []int{-1, -1, -1, -1, -1, -1, -1, -1})
}

// cats are of one to four dimensions, of which some have members ahead of those above them, or alone below them.
func cats() map[string]api.Cat {
	tops := []int{5, -1, 5, 4, -1, -1, 4}
	return map[string]api.Cat{
		"one leaf": catOf(1, []int{-1}),
		"deep":     deep(),
		"one":      catOf(4, tops),
		"two":      catOf(2, []int{-1, 0, 0, 1}, []int{-1, 0, 0}),
		"three":    catOf(1, tops, []int{1, 2, -1}, []int{-1, -1}),
		"four":     catOf(2, []int{-1, 0, 1}, tops, []int{-1}, []int{2, 2, -1}),
	}
}

func users() []string { return []string{"ann", "bob", "Cy_3"} }
func noNames() []string {
	return []string{"", "1", "_a", "a b", "ä", "a23456789012b", "\xff"}
}

// noHows are numbers of nothing that is done with clashes.
func noHows() []int { return []int{-1, 3, 4, math.MinInt, math.MaxInt} }

func cell(measure int, at ...int) api.Cell {
	c := api.Cell{Meas: measure}
	copy(c.At[:], at)
	return c
}

func bookOf(t *testing.T, cat api.Cat, room int) *state.Book {
	t.Helper()
	d, _, why := dims.New(cat)
	if why != api.OK {
		t.Fatal("dims", why)
	}
	b, why := state.New(d, room)
	if why != api.OK {
		t.Fatal("state", why)
	}
	return b
}

// got is the state of a call that must be answered without an error.
func got(t *testing.T, s state.State, why api.Errno) state.State {
	t.Helper()
	if why != api.OK {
		t.Fatalf("error %d", why)
	}
	return s
}

// stateOf is one with these values, from the code 0 on.
func stateOf(t *testing.T, b *state.Book, values ...int64) state.State {
	t.Helper()
	var l []state.Val
	for code, n := range values {
		l = append(l, state.Val{Code: code, N: n})
	}
	s, why := b.Write(state.State{}, l...)
	return got(t, s, why)
}

// held and locked are states made of s by calls that must be right; s itself is let go.
func held(t *testing.T, b *state.Book, s state.State, l ...api.Cell) state.State {
	t.Helper()
	for _, c := range l {
		x, why := b.Hold(s, c)
		b.Drop(s)
		s = got(t, x, why)
	}
	return s
}

func locked(t *testing.T, b *state.Book, s state.State, user string, l ...api.Cell) state.State {
	t.Helper()
	for _, c := range l {
		x, why := b.Lock(s, c, user)
		b.Drop(s)
		s = got(t, x, why)
	}
	return s
}

// place is a node of an arena, and how often it is asked for.
type place struct {
	node arena.Node
	refs int
}

// arenaOf is all that can be asked of a book's arena, of its first nodes: no test that asks has more at a time.
func arenaOf(b *state.Book) []place {
	a := b.View().Pages().Arena()
	l := []place{{refs: a.Used()}}
	for id := 1; id <= min(a.Cap(), 200); id++ {
		n, _ := a.At(id)
		l = append(l, place{n, a.Refs(id)})
	}
	return l
}

// asItWas asks whether the arena is as it was.
func asItWas(t *testing.T, b *state.Book, was []place) {
	t.Helper()
	if now := arenaOf(b); !slices.Equal(now, was) {
		t.Fatalf("the arena is not as it was: %d nodes; want %d", now[0].refs, was[0].refs)
	}
}

func used(b *state.Book) int {
	return b.View().Pages().Arena().Used()
}

func refs(b *state.Book, s state.State) int {
	return b.View().Pages().Arena().Refs(s.Root)
}

// model is a state as lists: of the values of all leaves, of all cells that are held, and of the locks.
type model struct {
	cat    api.Cat
	leaves []api.Cell
	vals   []int64
	held   []api.Cell
	locks  []api.Lock
}

// modelOf reads a state once: what it must be from then on is told by the lists alone.
func modelOf(t *testing.T, cat api.Cat, b *state.Book, s state.State) model {
	t.Helper()
	m := model{cat: cat, held: b.Held(s), locks: s.Locks.List()}
	for code := range b.Space().Leaves() {
		leaf, _ := b.Space().Leaf(code)
		n, why := b.Value(s, leaf)
		if why != api.OK {
			t.Fatal("Value", why)
		}
		m.leaves, m.vals = append(m.leaves, leaf), append(m.vals, n)
	}
	return m
}

// ask asks whether the state is as the lists say.
func (m model) ask(t *testing.T, b *state.Book, s state.State) {
	t.Helper()
	now := modelOf(t, m.cat, b, s)
	if !slices.Equal(now.vals, m.vals) {
		t.Fatalf("values %v; want %v", now.vals, m.vals)
	}
	if !slices.Equal(now.held, m.held) || !slices.Equal(now.locks, m.locks) {
		t.Fatalf("held %v, locked %v; want %v, %v", now.held, now.locks, m.held, m.locks)
	}
}

// within says by the catalogue's lists alone whether c is within e.
func (m model) within(c, e api.Cell) bool {
	for k, d := range m.cat.Dims {
		i := c.At[k]
		for i != -1 && i != e.At[k] {
			i = d.Nodes[i].Up
		}
		if i == -1 {
			return false
		}
	}
	return c.Meas == e.Meas
}

func (m model) bars(c api.Cell) bool {
	return slices.ContainsFunc(m.held, func(h api.Cell) bool { return m.within(c, h) })
}

func (m model) isForeign(c api.Cell, user string) bool {
	return slices.ContainsFunc(m.locks, func(l api.Lock) bool { return l.User != user && m.within(c, l.Cell) })
}

// check is what plan.Check must tell.
func (m model) check(b *state.Book, most int) api.Errno {
	for i := range b.Space().Cells() {
		c, _ := b.Space().Cell(i)
		sum := new(big.Int)
		for code, leaf := range m.leaves {
			if m.within(leaf, c) {
				sum.Add(sum, big.NewInt(m.vals[code]))
			}
		}
		if !sum.IsInt64() {
			return api.ErrOver
		}
	}
	full := 0
	for _, n := range m.vals {
		if n != 0 {
			full++
		}
	}
	if full > most {
		return api.ErrFull
	}
	return api.OK
}

// trio is what comes together, as lists.
type trio struct {
	base, ours, from model
}

func trioOf(t *testing.T, cat api.Cat, b *state.Book, m merge.Merging) trio {
	t.Helper()
	return trio{modelOf(t, cat, b, m.Base), modelOf(t, cat, b, m.Ours), modelOf(t, cat, b, m.From)}
}

// ask asks whether all three are as the lists say.
func (x trio) ask(t *testing.T, b *state.Book, m merge.Merging) {
	t.Helper()
	x.base.ask(t, b, m.Base)
	x.ours.ask(t, b, m.Ours)
	x.from.ask(t, b, m.From)
}

// clash is a leaf with its three values, and whether it clashes, in the words of the chapter.
func (x trio) clash(code int) (api.Clash, bool) {
	leaf := x.ours.leaves[code]
	c := api.Clash{Cell: leaf, Base: x.base.vals[code], Ours: x.ours.vals[code], From: x.from.vals[code], Held: x.ours.bars(leaf)}
	if c.From == c.Base {
		return c, false
	}
	neither := c.Ours != c.Base && c.Ours != c.From
	return c, neither || c.Held
}

func (x trio) clashes() []api.Clash {
	var l []api.Clash
	for code := range x.ours.leaves {
		if c, does := x.clash(code); does {
			l = append(l, c)
		}
	}
	return l
}

// becomes is what a leaf becomes.
func (x trio) becomes(code, how int) int64 {
	c, does := x.clash(code)
	switch {
	case !does && c.From != c.Base:
		return c.From
	case !does:
		return c.Ours
	case how == api.Theirs && !c.Held:
		return c.From
	}
	return c.Ours
}

// merged is what Merge must tell of the three, as far as it does not hang on the arena's room: the state Ours with other values, or the first error.
func (x trio) merged(m merge.Merging) (model, api.Errno) {
	if !slices.Contains(users(), m.User) {
		return model{}, api.ErrName
	}
	if m.How != api.Abort && m.How != api.Ours && m.How != api.Theirs {
		return model{}, api.ErrArg
	}
	if m.How == api.Abort && len(x.clashes()) > 0 {
		return model{}, api.ErrClash
	}
	want := x.ours
	want.vals = nil
	for code, leaf := range x.ours.leaves {
		n := x.becomes(code, m.How)
		if n != x.ours.vals[code] && x.ours.isForeign(leaf, m.User) {
			return model{}, api.ErrLocked
		}
		want.vals = append(want.vals, n)
	}
	return want, api.OK
}

// fails is the code of the first leaf that becomes another one and for which there is no room; -1, if there is room for all.
func (x trio) fails(b *state.Book, s state.State, want model) int {
	var l []state.Val
	for code, n := range want.vals {
		if n == x.ours.vals[code] {
			continue
		}
		l = append(l, state.Val{Code: code, N: n})
		next, why := b.Write(s, l...)
		if why == api.ErrFull {
			return code
		}
		b.Drop(next)
	}
	return -1
}
