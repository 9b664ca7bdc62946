package diff_test

import (
	"math"
	"slices"
	"strconv"
	"testing"

	"moiety/api"
	"moiety/arena"
	"moiety/dims"
	"moiety/state"
)

const (
	least    = math.MinInt64
	greatest = math.MaxInt64
)

// catOf is a catalogue of so many measures, and of dimensions whose members stand below those of each list.
func catOf(measures int, ups ...[]int) api.Cat {
	cat := api.Cat{Leaves: 1, Scens: 1}
	for i := range measures {
		cat.Meas = append(cat.Meas, "m"+strconv.Itoa(i))
	}
	for k, l := range ups {
		d := api.Dim{Name: "d" + strconv.Itoa(k)}
		for i, up := range l {
			d.Nodes = append(d.Nodes, api.Node{Name: "n" + strconv.Itoa(i), Up: up})
		}
		cat.Dims = append(cat.Dims, d)
	}
	return cat
}

// The members of deep.
const (
	all = iota
	inA
	inB
	inC
	inD
)

// deep is two measures of all; a and b below it; c and d below a. Its leaves' codes: c 0, d 1, b 2; 3, 4, 5.
func deep() api.Cat {
	return catOf(2, []int{-1, all, all, inA, inA})
}

// grid is 24 leaves below all, in a tree of two levels: the leaves 0, 8 and 16 are those within the first member of the second dimension.
func grid() api.Cat {
	return catOf(1, []int{-1, 0, 0, 0}, []int{-1, -1, -1, -1, -1, -1, -1, -1})
}

// cats are of one to four dimensions, of which some have members ahead of those above them, or alone below them.
func cats() map[string]api.Cat {
	tops := []int{5, -1, 5, 4, -1, -1, 4}
	return map[string]api.Cat{
		"one leaf": catOf(1, []int{-1}),
		"deep":     deep(),
		"one":      catOf(4, tops),
		"two":      catOf(2, []int{-1, 0, 0, 1}, []int{-1, 0, 0}),
		"three":    catOf(1, tops, []int{1, 2, -1}, []int{-1, -1}),
		"four":     catOf(2, []int{-1, 0, 1}, tops, []int{-1}, []int{2, 2, -1}),
	}
}

func cell(measure int, at ...int) api.Cell {
	c := api.Cell{Meas: measure}
	copy(c.At[:], at)
	return c
}

// wrong are cells that can not be: by their measure, by a member, by a place of a dimension that there is not.
func wrong(cat api.Cat) []api.Cell {
	l := []api.Cell{cell(-1), cell(len(cat.Meas)), cell(math.MinInt), cell(math.MaxInt)}
	for k := range api.MaxDims {
		members := 1
		if k < len(cat.Dims) {
			members = len(cat.Dims[k].Nodes)
		}
		for _, i := range []int{-1, members, math.MinInt, math.MaxInt} {
			x := cell(0)
			x.At[k] = i
			l = append(l, x)
		}
	}
	return l
}

func bookOf(t *testing.T, cat api.Cat, room int) *state.Book {
	t.Helper()
	d, _, why := dims.New(cat)
	if why != api.OK {
		t.Fatal("dims", why)
	}
	b, why := state.New(d, room)
	if why != api.OK {
		t.Fatal("state", why)
	}
	return b
}

// got is the state of a call that must be answered without an error.
func got(t *testing.T, s state.State, why api.Errno) state.State {
	t.Helper()
	if why != api.OK {
		t.Fatalf("error %d", why)
	}
	return s
}

// stateOf is one with these values, from the code 0 on.
func stateOf(t *testing.T, b *state.Book, values ...int64) state.State {
	t.Helper()
	var l []state.Val
	for code, n := range values {
		l = append(l, state.Val{Code: code, N: n})
	}
	s, why := b.Write(state.State{}, l...)
	return got(t, s, why)
}

// held and locked are states made of s by calls that must be right; s itself is let go.
func held(t *testing.T, b *state.Book, s state.State, l ...api.Cell) state.State {
	t.Helper()
	for _, c := range l {
		x, why := b.Hold(s, c)
		b.Drop(s)
		s = got(t, x, why)
	}
	return s
}

func locked(t *testing.T, b *state.Book, s state.State, user string, l ...api.Cell) state.State {
	t.Helper()
	for _, c := range l {
		x, why := b.Lock(s, c, user)
		b.Drop(s)
		s = got(t, x, why)
	}
	return s
}

// model is a state as lists: of the values of all leaves, of all cells that are held, and of the locks.
type model struct {
	vals  []int64
	held  []api.Cell
	locks []api.Lock
}

func modelOf(t *testing.T, b *state.Book, s state.State) model {
	t.Helper()
	m := model{held: b.Held(s), locks: s.Locks.List()}
	for code := range b.Space().Leaves() {
		leaf, _ := b.Space().Leaf(code)
		n, why := b.Value(s, leaf)
		if why != api.OK {
			t.Fatal("Value", why)
		}
		m.vals = append(m.vals, n)
	}
	return m
}

// ask asks whether the state is as the lists say.
func (m model) ask(t *testing.T, b *state.Book, s state.State) {
	t.Helper()
	now := modelOf(t, b, s)
	if !slices.Equal(now.vals, m.vals) || !slices.Equal(now.held, m.held) || !slices.Equal(now.locks, m.locks) {
		t.Fatalf("the state is %v; want %v", now, m)
	}
}

// place is a node of an arena, and how often it is asked for.
type place struct {
	node arena.Node
	refs int
}

// arenaOf is all that can be asked of a book's arena, of its first nodes: no test that asks has more at a time.
func arenaOf(b *state.Book) []place {
	a := b.View().Pages().Arena()
	l := []place{{refs: a.Used()}}
	for id := 1; id <= min(a.Cap(), 200); id++ {
		n, _ := a.At(id)
		l = append(l, place{n, a.Refs(id)})
	}
	return l
}

// asItWas asks whether the arena is as it was.
func asItWas(t *testing.T, b *state.Book, was []place) {
	t.Helper()
	if now := arenaOf(b); !slices.Equal(now, was) {
		t.Fatalf("the arena is not as it was: %d nodes; want %d", now[0].refs, was[0].refs)
	}
}

func used(b *state.Book) int {
	return b.View().Pages().Arena().Used()
}

func refs(b *state.Book, s state.State) int {
	return b.View().Pages().Arena().Refs(s.Root)
}
