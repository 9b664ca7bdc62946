package diff_test

import (
	"math"
	"math/rand"
	"slices"
	"strconv"
	"testing"

	"moiety/api"
	"moiety/diff"
	"moiety/state"
)

func change(c api.Cell, a, b int64) api.Change { return api.Change{Cell: c, A: a, B: b} }

// differ asks whether Diff tells just these changes, and leaves the arena as it was.
func differ(t *testing.T, b *state.Book, s, x state.State, want ...api.Change) {
	t.Helper()
	was := arenaOf(b)
	if l, why := diff.Diff(b, s, x); why != api.OK || !slices.Equal(l, want) {
		t.Errorf("Diff = %v, %d; want %v", l, why, want)
	}
	asItWas(t, b, was)
}

// refused asks whether Apply tells that error and the zero state, and leaves all as it was.
func refused(t *testing.T, b *state.Book, s state.State, want api.Errno, l ...api.Change) {
	t.Helper()
	m, was := modelOf(t, b, s), arenaOf(b)
	askRefused(t, b, s, want, l...)
	m.ask(t, b, s)
	asItWas(t, b, was)
}

func askRefused(t *testing.T, b *state.Book, s state.State, want api.Errno, l ...api.Change) {
	t.Helper()
	x, why := diff.Apply(b, s, l...)
	if why != want || x.Root != 0 || len(x.Holds.List()) != 0 || len(x.Locks.List()) != 0 {
		t.Errorf("Apply(%v) = %v, %d; want the zero state, %d", l, x, why, want)
	}
}

// done asks whether Apply tells a state with just these values, and s's holds and locks, and leaves s as it was; the state is let go.
func done(t *testing.T, b *state.Book, s state.State, want []int64, l ...api.Change) {
	t.Helper()
	m, was := modelOf(t, b, s), arenaOf(b)
	x, why := diff.Apply(b, s, l...)
	if why != api.OK {
		t.Errorf("Apply(%v) = %d", l, why)
		return
	}
	m.ask(t, b, s)
	m.vals = want
	m.ask(t, b, x)
	b.Drop(x)
	asItWas(t, b, was)
}

// P19.1: the chapter's example.
func TestExample(t *testing.T) {
	b := bookOf(t, deep(), 100)
	s, x := stateOf(t, b, 1), stateOf(t, b, 3)
	differ(t, b, s, x, change(cell(0, inC), 1, 3))
	l, _ := diff.Diff(b, s, x)
	if back := diff.Back(l); !slices.Equal(back, []api.Change{change(cell(0, inC), 3, 1)}) {
		t.Error("Back", back)
	}
}

// P19.1: leaves with a value in one state only, in both, alike and not, at both ends; by rising codes, which are not the order of the members, or of the values.
func TestDiff(t *testing.T) {
	b := bookOf(t, deep(), 100)
	c, d, e := cell(0, inC), cell(0, inD), cell(0, inB)
	c1, d1, e1 := cell(1, inC), cell(1, inD), cell(1, inB)
	rows := []struct {
		s, t []int64
		want []api.Change
	}{
		{nil, nil, nil},
		{[]int64{1, 2, 3, 4, 5, 6}, []int64{1, 2, 3, 4, 5, 6}, nil},
		{nil, []int64{0, 0, 7}, []api.Change{change(e, 0, 7)}},
		{[]int64{0, 0, 7}, nil, []api.Change{change(e, 7, 0)}},
		{[]int64{0, 5}, []int64{0, 0, 0, 0, 5}, []api.Change{change(d, 5, 0), change(d1, 0, 5)}},
		{[]int64{1, -1}, []int64{-1, 1}, []api.Change{change(c, 1, -1), change(d, -1, 1)}},
		{[]int64{least, greatest, 0, least, greatest}, []int64{greatest, least, least, 0, 0, greatest}, []api.Change{
			change(c, least, greatest), change(d, greatest, least), change(e, 0, least),
			change(c1, least, 0), change(d1, greatest, 0), change(e1, 0, greatest)}},
		{[]int64{9, 8, 7, 6, 5, 4}, []int64{9, 1, 7, 2, 5, 3}, []api.Change{change(d, 8, 1), change(c1, 6, 2), change(e1, 4, 3)}},
		{[]int64{1, 2, 3, 4, 5, 6}, []int64{6, 5, 4, 3, 2, 1}, []api.Change{
			change(c, 1, 6), change(d, 2, 5), change(e, 3, 4), change(c1, 4, 3), change(d1, 5, 2), change(e1, 6, 1)}},
		// The cells above have the same values in both.
		{[]int64{3, -3}, []int64{-3, 3}, []api.Change{change(c, 3, -3), change(d, -3, 3)}},
	}
	for _, r := range rows {
		differ(t, b, stateOf(t, b, r.s...), stateOf(t, b, r.t...), r.want...)
	}
}

// P19.1: no book, whatever the states are.
func TestNoBook(t *testing.T) {
	b := bookOf(t, deep(), 100)
	for _, s := range []state.State{{}, {Root: 7}, held(t, b, stateOf(t, b, 1, 2), cell(0, all))} {
		if l, why := diff.Diff(nil, s, state.State{}); why != api.ErrNil || len(l) != 0 {
			t.Errorf("Diff = %v, %d", l, why)
		}
		if l, why := diff.Diff(nil, state.State{}, s); why != api.ErrNil || len(l) != 0 {
			t.Errorf("Diff = %v, %d", l, why)
		}
		askRefused(t, nil, s, api.ErrNil)
		askRefused(t, nil, s, api.ErrNil, change(cell(0, inC), 1, 2))
		askRefused(t, nil, s, api.ErrNil, change(cell(-1), 1, 2), change(cell(0, all), 0, 0))
	}
}

// P19.4: a state and itself, and one that came to be by other calls, and is as it.
func TestItself(t *testing.T) {
	b := bookOf(t, deep(), 100)
	for _, s := range []state.State{
		{},
		stateOf(t, b, 1, 2, 3),
		stateOf(t, b, least, 0, greatest, 0, -1),
		locked(t, b, held(t, b, stateOf(t, b, 4, 0, 5), cell(0, inC), cell(1, all)), "ann", cell(0, inB)),
	} {
		differ(t, b, s, s)
	}
	differ(t, b, stateOf(t, b, 1, 2, 3), stateOf(t, b, 1, 2, 3))
}

// P19.1: what is held or locked plays no part: where that alone differs, of leaves and of cells above them, and beside values that differ.
func TestHeldAndLocked(t *testing.T) {
	b := bookOf(t, deep(), 100)
	of := func() state.State { return stateOf(t, b, 1, 0, 3) }
	for _, x := range []state.State{
		held(t, b, of(), cell(0, inC)),
		held(t, b, of(), cell(0, inD)), // its value is 0
		held(t, b, of(), cell(0, all), cell(1, inC), cell(1, inA)),
		locked(t, b, of(), "ann", cell(0, inC), cell(1, all)),
		locked(t, b, held(t, b, of(), cell(0, inB), cell(0, inA)), "bob", cell(0, inB)),
	} {
		differ(t, b, of(), x)
		differ(t, b, x, of())
		differ(t, b, x, stateOf(t, b, 1, 5), change(cell(0, inD), 0, 5), change(cell(0, inB), 3, 0))
		differ(t, b, held(t, b, stateOf(t, b, 1, 5), cell(0, inA)), x, change(cell(0, inD), 5, 0), change(cell(0, inB), 0, 3))
	}
	differ(t, b, held(t, b, state.State{}, cell(0, inC)), state.State{})
}

// P19.1: Back of none, and of many: in order, of any cells, and behind it the list is as it was.
func TestBack(t *testing.T) {
	if l := diff.Back(nil); len(l) != 0 {
		t.Error("Back", l)
	}
	if l := diff.Back([]api.Change{}); len(l) != 0 {
		t.Error("Back", l)
	}
	l := []api.Change{
		change(cell(1, inB), 4, 5), change(cell(0, inC), least, greatest), change(cell(0, inC), 0, 0),
		change(cell(-1, 99, -7), greatest, least), change(cell(0, inC), -2, 0), change(cell(1, inB), 4, 5),
	}
	was := slices.Clone(l)
	want := []api.Change{
		change(cell(1, inB), 5, 4), change(cell(0, inC), greatest, least), change(cell(0, inC), 0, 0),
		change(cell(-1, 99, -7), least, greatest), change(cell(0, inC), 0, -2), change(cell(1, inB), 5, 4),
	}
	back := diff.Back(l)
	if !slices.Equal(back, want) {
		t.Error("Back", back)
	}
	if again := diff.Back(back); !slices.Equal(again, was) {
		t.Error("Back of Back", again)
	}
	clear(append(back, change(cell(0), 7, 7)))
	if !slices.Equal(l, was) {
		t.Error("the list that was handed in is changed", l)
	}
	if again := diff.Back(l); !slices.Equal(again, want) {
		t.Error("Back", again)
	}
	short := diff.Back(l[:2])
	if !slices.Equal(short, want[:2]) || !slices.Equal(l, was) {
		t.Error("Back of the first ones", short, l)
	}
}

// P19.1: Same of lists that differ in a part of a cell, in A, in B, in their order, in how many they are; of none; of alike ones.
func TestSame(t *testing.T) {
	l := []api.Change{change(cell(0, inC), 1, 2), change(cell(1, inB), 3, 4)}
	if !diff.Same(l, slices.Clone(l)) || !diff.Same(l[:1], slices.Clone(l[:1])) {
		t.Error("alike ones are not the same")
	}
	if !diff.Same(nil, nil) || !diff.Same(nil, []api.Change{}) || !diff.Same([]api.Change{}, nil) || !diff.Same(l[:0], nil) {
		t.Error("none are not the same")
	}
	other := [][]api.Change{
		nil, l[:1], l[1:], append(slices.Clone(l), l[1]), append(slices.Clone(l), api.Change{}),
		{l[1], l[0]}, {l[0], l[0]},
	}
	for i := range l {
		for _, turn := range []func(c *api.Change){
			func(c *api.Change) { c.A++ },
			func(c *api.Change) { c.B++ },
			func(c *api.Change) { c.A, c.B = c.B, c.A },
			func(c *api.Change) { c.Cell.Meas++ },
			func(c *api.Change) { c.Cell.At[0]++ },
			func(c *api.Change) { c.Cell.At[1]++ },
			func(c *api.Change) { c.Cell.At[2]++ },
			func(c *api.Change) { c.Cell.At[3]++ },
		} {
			x := slices.Clone(l)
			turn(&x[i])
			other = append(other, x)
		}
	}
	for _, x := range other {
		if diff.Same(l, x) || diff.Same(x, l) {
			t.Error("Same", l, x)
		}
	}
	if diff.Same([]api.Change{{}}, nil) || diff.Same(nil, []api.Change{{}}) {
		t.Error("a zero change is none")
	}
}

// P19.2: changes of one leaf and of more, in any order, to 0 and from it, at both ends; several of one leaf in a row; what is held or locked is not asked, and stays.
func TestApply(t *testing.T) {
	b := bookOf(t, deep(), 100)
	c, d, e := cell(0, inC), cell(0, inD), cell(0, inB)
	s := stateOf(t, b, 1, 2, 0, 4)
	done(t, b, s, []int64{5, 2, 0, 4, 0, 0}, change(c, 1, 5))
	done(t, b, s, []int64{0, 2, 0, 4, 0, 0}, change(c, 1, 0))
	done(t, b, s, []int64{1, 2, 9, 4, 0, 0}, change(e, 0, 9))
	done(t, b, s, []int64{1, -3, 0, 0, 0, 6}, change(cell(1, inB), 0, 6), change(d, 2, -3), change(cell(1, inC), 4, 0))
	done(t, b, s, []int64{3, 2, 0, 4, 0, 0}, change(c, 1, 2), change(c, 2, 3))
	done(t, b, s, []int64{1, 2, 8, 4, 0, 0}, change(c, 1, 2), change(e, 0, 7), change(c, 2, 0), change(e, 7, 8), change(c, 0, 1))
	done(t, b, s, []int64{0, 0, 0, 0, 0, 0}, change(c, 1, 0), change(d, 2, 0), change(cell(1, inC), 4, 0))
	done(t, b, s, []int64{greatest, least, 0, 4, 0, 0}, change(c, 1, least), change(d, 2, least), change(c, least, greatest))
	// A cell above may come to be too great: that is not asked.
	done(t, b, s, []int64{greatest, greatest, greatest, 4, 0, 0}, change(c, 1, greatest), change(d, 2, greatest), change(e, 0, greatest))
	s = locked(t, b, held(t, b, s, c, cell(0, all), cell(1, inB)), "bob", cell(1, inA))
	done(t, b, s, []int64{5, 2, 0, 0, 0, 3}, change(c, 1, 5), change(cell(1, inC), 4, 0), change(cell(1, inB), 0, 3))
	done(t, b, s, []int64{0, 2, 0, 4, 0, 0}, change(c, 1, 0))
	done(t, b, state.State{}, []int64{0, 0, 0, 0, 0, 2}, change(cell(1, inB), 0, 2))
}

// P19.2: no changes, and changes of nothing: the state itself, asked for once more.
func TestApplyNothing(t *testing.T) {
	b := bookOf(t, deep(), 100)
	s := locked(t, b, held(t, b, stateOf(t, b, 1, 2), cell(0, inC), cell(0, all)), "ann", cell(1, all))
	m := modelOf(t, b, s)
	for _, l := range [][]api.Change{
		nil, {}, {change(cell(0, inC), 1, 1)}, {change(cell(0, inB), 0, 0), change(cell(0, inD), 2, 2)},
	} {
		x, why := diff.Apply(b, s, l...)
		m.ask(t, b, got(t, x, why))
		if x.Root != s.Root || refs(b, s) != 2 || used(b) != 1 {
			t.Error("Apply", l, x.Root, s.Root, refs(b, s), used(b))
		}
		b.Drop(x)
		if x, why := diff.Apply(b, state.State{}, change(cell(0, inC), 0, 0)); why != api.OK || x.Root != 0 {
			t.Error("Apply", x, why)
		}
	}
	if x, why := diff.Apply(b, state.State{}); why != api.OK || x.Root != 0 || used(b) != 1 {
		t.Error("Apply", x, why)
	}
}

// P19.2: the state that Apply tells is asked for once, the one that it is asked of as often as it was; when both are let go, there are no nodes.
func TestAskedOnceMore(t *testing.T) {
	b := bookOf(t, deep(), 100)
	s := stateOf(t, b, 1, 2)
	x, why := diff.Apply(b, s, change(cell(0, inC), 1, 3), change(cell(0, inC), 3, 4), change(cell(0, inB), 0, 5))
	m := modelOf(t, b, got(t, x, why))
	if refs(b, s) != 1 || refs(b, x) != 1 || used(b) != 2 {
		t.Error("Refs", refs(b, s), refs(b, x), used(b))
	}
	b.Drop(s)
	m.ask(t, b, x)
	b.Drop(x)
	if used(b) != 0 {
		t.Error("Used", used(b))
	}
}

// P19.2: a cell that can not be, and one that can be but is no leaf, with any values.
func TestApplyRange(t *testing.T) {
	b := bookOf(t, deep(), 100)
	s := stateOf(t, b, 1, 2, 0, 4)
	for _, c := range append(wrong(deep()), cell(0, all), cell(0, inA), cell(1, all), cell(1, inA)) {
		for _, n := range []int64{0, 1, 3, 4} {
			refused(t, b, s, api.ErrRange, change(c, n, n))
			refused(t, b, s, api.ErrRange, change(c, n, 7))
			refused(t, b, state.State{}, api.ErrRange, change(c, n, 7))
		}
	}
}

// P19.2: a change whose A is not the leaf's value, though B is, or both are alike, or it was ahead of other changes.
func TestApplyClash(t *testing.T) {
	b := bookOf(t, deep(), 100)
	s := stateOf(t, b, 1, 2, 0, 4)
	c, d, e := cell(0, inC), cell(0, inD), cell(0, inB)
	for _, l := range [][]api.Change{
		{change(c, 2, 1)}, {change(c, 0, 1)}, {change(c, 2, 2)}, {change(c, 0, 0)}, {change(c, -1, 5)}, {change(c, 4, 5)},
		{change(e, 1, 5)}, {change(e, greatest, 0)}, {change(d, least, 2)}, {change(cell(1, inC), 1, 5)},
		{change(c, 1, 2), change(c, 1, 3)},
		{change(c, 1, 2), change(c, 1, 2)},
		{change(c, 1, 0), change(d, 2, 3), change(c, 1, 5)},
		{change(c, 2, 3), change(c, 1, 2)},
	} {
		refused(t, b, s, api.ErrClash, l...)
	}
}

// P19.2: a wrong change ahead of right ones, between them, and behind them; of two wrong ones the first is told.
func TestApplyFirstError(t *testing.T) {
	b := bookOf(t, deep(), 100)
	s := held(t, b, stateOf(t, b, 1, 2, 0, 4), cell(0, inB), cell(1, all))
	right := []api.Change{change(cell(0, inC), 1, 5), change(cell(0, inB), 0, 6), change(cell(0, inC), 5, 0), change(cell(1, inC), 4, 9)}
	type fault struct {
		c   api.Change
		why api.Errno
	}
	faults := []fault{
		{change(cell(0, all), 3, 4), api.ErrRange},
		{change(cell(2, inC), 0, 4), api.ErrRange},
		{change(cell(0, inD), 3, 4), api.ErrClash},
		{change(cell(1, inB), 1, 0), api.ErrClash},
	}
	for i := range len(right) + 1 {
		for _, f := range faults {
			one := slices.Insert(slices.Clone(right), i, f.c)
			refused(t, b, s, f.why, one...)
			for j := i + 1; j <= len(one); j++ {
				for _, g := range faults {
					refused(t, b, s, f.why, slices.Insert(slices.Clone(one), j, g.c)...)
				}
			}
		}
	}
	done(t, b, s, []int64{0, 2, 6, 9, 0, 0}, right...)
}

// threes are changes of the three leaves of grid that stand in nodes of their own, of a state whose first leaf is 3.
func threes() []api.Change {
	return []api.Change{change(cell(0, 1, 0), 3, 9), change(cell(0, 2, 0), 0, 6), change(cell(0, 3, 0), 0, 5)}
}

// fails is the place of the first change for which there is no room; as many as there are, if there is room for all.
func fails(b *state.Book, s state.State, l []api.Change) int {
	var values []state.Val
	for i, c := range l {
		values = append(values, state.Val{Code: b.Space().Code(c.Cell), N: c.B})
		x, why := b.Write(s, values...)
		if why == api.ErrFull {
			return i
		}
		b.Drop(x)
	}
	return len(l)
}

// P19.2: there is no room at the first change, at a middle one, at the last one; all is then as it was, and what needs no room is done still.
func TestApplyFull(t *testing.T) {
	// The state has 2 nodes; each change makes 2 more, and those of the one ahead of it that are not shared are gone.
	for room, at := range map[int]int{2: 0, 3: 0, 4: 1, 5: 1, 6: 2, 7: 3, 8: 3} {
		b := bookOf(t, grid(), room)
		s := stateOf(t, b, 3)
		if i := fails(b, s, threes()); i != at {
			t.Errorf("room %d: no room at %d; want %d", room, i, at)
		}
		for many := range 4 {
			l := threes()[:many]
			want := make([]int64, 24)
			want[0] = 3
			for _, c := range l {
				want[b.Space().Code(c.Cell)] = c.B
			}
			if many <= at {
				done(t, b, s, want, l...)
			} else {
				refused(t, b, s, api.ErrFull, l...)
			}
		}
		done(t, b, s, append([]int64{3}, make([]int64, 23)...), change(cell(0, 1, 0), 3, 3), change(cell(0, 3, 7), 0, 0))
	}
}

// P19.2: no room for a change goes ahead of what is wrong with those behind it, and behind what is wrong with itself and with those ahead of it.
func TestNoRoomInOrder(t *testing.T) {
	faults := map[api.Errno]api.Change{
		api.ErrRange: change(cell(0, 0, 0), 0, 1),
		api.ErrClash: change(cell(0, 2, 5), 1, 2),
	}
	for room, at := range map[int]int{2: 0, 3: 0, 4: 1, 5: 1, 6: 2} {
		b := bookOf(t, grid(), room)
		s := stateOf(t, b, 3)
		for why, f := range faults {
			for i := range 4 {
				want := why
				if i > at {
					want = api.ErrFull
				}
				refused(t, b, s, want, slices.Insert(threes(), i, f)...)
			}
		}
	}
}

// P19.2: a change that needs no more room than it gives back is done in a full arena, too: the leaf that becomes 0 leaves no node.
func TestApplyToNothing(t *testing.T) {
	b := bookOf(t, grid(), 2)
	s := stateOf(t, b, 3)
	done(t, b, s, make([]int64, 24), change(cell(0, 1, 0), 3, 0))
	x, why := diff.Apply(b, s, change(cell(0, 1, 0), 3, 0))
	if got(t, x, why).Root != 0 {
		t.Error("Root", x.Root)
	}
}

// Rules 4 and 5: what is written into an answer is seen by no later one, and no list that is handed in is changed or kept.
func TestOwnMemory(t *testing.T) {
	b := bookOf(t, deep(), 100)
	s, x := stateOf(t, b, 1, 2, 3), stateOf(t, b, 1, 5, 0, 7)
	l, _ := diff.Diff(b, s, x)
	want := slices.Clone(l)
	clear(append(l, change(cell(0), 9, 9)))
	differ(t, b, s, x, want...)
	l = slices.Clone(want)
	y, why := diff.Apply(b, s, l...)
	m := modelOf(t, b, got(t, y, why))
	if !slices.Equal(l, want) {
		t.Error("the list that was handed in is changed", l)
	}
	clear(l)
	m.ask(t, b, y)
}

// thereAndBack asks whether Diff is what the lists say, Apply of it to s has the values of x, of Back of it to that those of s; what is held and locked stays that of s. There must be room.
func thereAndBack(t *testing.T, b *state.Book, s, x state.State, from, to model) {
	t.Helper()
	var want []api.Change
	for code := range from.vals {
		if from.vals[code] != to.vals[code] {
			leaf, _ := b.Space().Leaf(code)
			want = append(want, change(leaf, from.vals[code], to.vals[code]))
		}
	}
	differ(t, b, s, x, want...)
	back := diff.Back(want)
	if l, why := diff.Diff(b, x, s); why != api.OK || !diff.Same(l, back) {
		t.Fatalf("Diff = %v, %d; want %v", l, why, back)
	}
	y, why := diff.Apply(b, s, want...)
	model{to.vals, from.held, from.locks}.ask(t, b, got(t, y, why))
	z, why := diff.Apply(b, y, back...)
	from.ask(t, b, got(t, z, why))
	if !b.Same(z, s) {
		t.Fatal("the way back does not end at the first state")
	}
	b.Drop(y)
	b.Drop(z)
}

// P19.3: Apply of a Diff, and of its Back.
func TestThereAndBack(t *testing.T) {
	b := bookOf(t, deep(), 100)
	states := []state.State{
		{},
		stateOf(t, b, 1, 2, 3, 4, 5, 6),
		stateOf(t, b, greatest, least, greatest, least),
		held(t, b, stateOf(t, b, 0, 0, 0, 1, 1, 1), cell(0, inC), cell(1, inC), cell(1, all)),
		locked(t, b, held(t, b, stateOf(t, b, least, 2, 0, 4), cell(0, inB)), "bob", cell(0, all)),
	}
	for _, s := range states {
		for _, x := range states {
			thereAndBack(t, b, s, x, modelOf(t, b, s), modelOf(t, b, x))
		}
	}
}

// live is a state that is asked for once, and what it must be.
type live struct {
	s state.State
	m model
}

// walk is a book and states of it that are asked for.
type walk struct {
	b    *state.Book
	r    *rand.Rand
	cat  api.Cat
	live []live
}

// P19.1 to P19.4: many changes, right ones and wrong ones, of many states that live beside each other, against lists.
func TestWalks(t *testing.T) {
	seen := map[api.Errno]int{}
	for name, cat := range cats() {
		for _, room := range []int{30, api.MaxArena} {
			t.Run(name+strconv.Itoa(room), func(t *testing.T) {
				b := bookOf(t, cat, room)
				w := &walk{b, rand.New(rand.NewSource(19)), cat, nil}
				w.live = []live{{state.State{}, modelOf(t, b, state.State{})}}
				for range 500 {
					w.turn(t)
					seen[w.step(t)]++
					if len(w.live) > 10 {
						w.dropOne(t)
					}
					if room == api.MaxArena {
						x, y := w.any(), w.any()
						thereAndBack(t, b, x.s, y.s, x.m, y.m)
					}
				}
				for len(w.live) > 0 {
					w.dropOne(t)
				}
				if used(b) != 0 {
					t.Errorf("Used = %d", used(b))
				}
			})
		}
	}
	for _, why := range []api.Errno{api.OK, api.ErrRange, api.ErrClash, api.ErrFull} {
		if seen[why] < 50 {
			t.Errorf("the walks came %d times to error %d", seen[why], why)
		}
	}
}

func (w *walk) any() live {
	return w.live[w.r.Intn(len(w.live))]
}

// dropOne lets go of a state, behind asking all of it.
func (w *walk) dropOne(t *testing.T) {
	t.Helper()
	i := w.r.Intn(len(w.live))
	w.live[i].m.ask(t, w.b, w.live[i].s)
	if why := w.b.Drop(w.live[i].s); why != api.OK {
		t.Fatal("Drop", why)
	}
	w.live = slices.Delete(w.live, i, i+1)
}

// turn makes another state by the calls below, so that there are states of all kinds.
func (w *walk) turn(t *testing.T) {
	t.Helper()
	from := w.any()
	c, _ := w.b.Space().Cell(w.r.Intn(w.b.Space().Cells()))
	s, why := state.State{}, api.OK
	switch w.r.Intn(4) {
	case 0:
		s, why = w.b.Write(from.s, state.Val{Code: w.r.Intn(w.b.Space().Leaves()), N: w.number()})
	case 1:
		s, why = w.b.Hold(from.s, c)
	case 2:
		s, why = w.b.Lock(from.s, c, "ann")
	case 3:
		return
	}
	if why == api.OK {
		w.live = append(w.live, live{s, modelOf(t, w.b, s)})
	}
}

// step applies some changes to a state, and tells the error.
func (w *walk) step(t *testing.T) api.Errno {
	t.Helper()
	from := w.any()
	l, m := w.changes(from.m)
	want := api.OK
	if fails(w.b, from.s, l) < len(l) {
		want = api.ErrFull
	} else if w.r.Intn(3) == 0 {
		l, want = w.spoil(l)
	}
	if want != api.OK {
		refused(t, w.b, from.s, want, l...)
		return want
	}
	x, why := diff.Apply(w.b, from.s, l...)
	m.ask(t, w.b, got(t, x, why))
	from.m.ask(t, w.b, from.s)
	w.live = append(w.live, live{x, m})
	return api.OK
}

// changes is some right ones, one behind the other, and what the state is behind them.
func (w *walk) changes(m model) ([]api.Change, model) {
	m.vals = slices.Clone(m.vals)
	var l []api.Change
	for range w.r.Intn(6) {
		code, n := w.r.Intn(len(m.vals)), w.number()
		leaf, _ := w.b.Space().Leaf(code)
		l = append(l, change(leaf, m.vals[code], n))
		m.vals[code] = n
	}
	return l, m
}

// spoil is the changes with a wrong one among them, and its error.
func (w *walk) spoil(l []api.Change) ([]api.Change, api.Errno) {
	i := w.r.Intn(len(l) + 1)
	if i < len(l) && w.r.Intn(2) == 0 {
		l[i].A++
		return l, api.ErrClash
	}
	c := wrong(w.cat)
	return slices.Insert(l, i, change(c[w.r.Intn(len(c))], w.number(), w.number())), api.ErrRange
}

// number is a small one most times, 0 often, and seldom one near an end.
func (w *walk) number() int64 {
	if w.r.Intn(8) > 0 {
		return int64(w.r.Intn(5) - 2)
	}
	return []int64{least, greatest, least + 1, greatest - 3}[w.r.Intn(4)]
}

// P19.1 to P19.3: as many leaves as there may be.
func TestLimits(t *testing.T) {
	pairs := make([]int, 32)
	for i := range 16 {
		pairs[2*i], pairs[2*i+1] = -1, 2*i
	}
	b := bookOf(t, catOf(4, pairs, pairs), api.MaxArena)
	var l, k []state.Val
	for code := range b.Space().Leaves() {
		l = append(l, state.Val{Code: code, N: int64(code%97) - 40})
		k = append(k, state.Val{Code: code, N: int64(code%89) - 40})
	}
	s, why := b.Write(state.State{}, l...)
	got(t, s, why)
	x, why := b.Write(s, k...)
	got(t, x, why)
	thereAndBack(t, b, s, x, modelOf(t, b, s), modelOf(t, b, x))
	thereAndBack(t, b, state.State{}, x, modelOf(t, b, state.State{}), modelOf(t, b, x))
}

// P6: a book that New did not make, and states that are not asked for any more, or never were, make no call panic.
func TestNothing(t *testing.T) {
	zero := &state.Book{}
	diff.Diff(zero, state.State{}, state.State{Root: 3})
	askRefused(t, zero, state.State{}, api.ErrNil, change(cell(0, inC), 0, 1))
	b := bookOf(t, deep(), 100)
	s := held(t, b, stateOf(t, b, 1, 2, 3), cell(0, inC))
	b.Drop(s)
	for _, root := range []int{s.Root, math.MinInt, -1, 1, 5, 100, 101, math.MaxInt} {
		s.Root = root
		diff.Diff(b, s, state.State{})
		diff.Diff(b, state.State{}, s)
		diff.Diff(b, s, s)
		diff.Apply(b, s)
		diff.Apply(b, s, change(cell(0, inC), 0, 1), change(cell(0, inC), 1, 0))
		diff.Apply(b, s, change(cell(0, all), 0, 1))
	}
}
