package plan_test

import (
	"math"
	"math/rand"
	"slices"
	"strconv"
	"testing"

	"moiety/api"
	"moiety/plan"
	"moiety/state"
)

// ann is a write of hers, of the first measure, and of a cell by its member.
func ann(at int, n int64, how int) plan.Write {
	return plan.Write{User: "ann", Cell: cell(0, at), N: n, How: how}
}

// refused asks whether Plan and Set both tell that error and nothing else, and leave all as it was.
func refused(t *testing.T, b *state.Book, s state.State, w plan.Write, want api.Errno) {
	t.Helper()
	was := arenaOf(b)
	if l, why := plan.Plan(b, s, w); why != want || len(l) != 0 {
		t.Errorf("Plan(%v) = %v, %d; want %d", w, l, why, want)
	}
	for _, most := range []int{math.MinInt, 0, 1, math.MaxInt} {
		askRefused(t, b, s, w, most, want)
	}
	if !slices.Equal(arenaOf(b), was) {
		t.Errorf("%v: the arena is not as it was", w)
	}
}

// askRefused asks whether Set tells the zero state and that error.
func askRefused(t *testing.T, b *state.Book, s state.State, w plan.Write, most int, want api.Errno) {
	t.Helper()
	x, why := plan.Set(b, s, w, most)
	if why != want || x.Root != 0 || len(x.Holds.List()) != 0 || len(x.Locks.List()) != 0 {
		t.Errorf("Set(%v, %d) = %v, %d; want the zero state, %d", w, most, x, why, want)
	}
}

// done asks whether Plan tells just those of the values that Set makes, and Set all of them; the state is let go.
func done(t *testing.T, b *state.Book, s state.State, w plan.Write, want ...int64) {
	t.Helper()
	was := arenaOf(b)
	l, why := plan.Plan(b, s, w)
	if why != api.OK {
		t.Fatalf("Plan(%v) = %d", w, why)
	}
	if !slices.Equal(arenaOf(b), was) {
		t.Errorf("Plan(%v): the arena is not as it was", w)
	}
	values := valuesOf(t, b, s)
	for _, v := range l {
		values[v.Code] = v.N
	}
	if !slices.Equal(values, want) {
		t.Errorf("Plan(%v) = %v; want %v", w, l, want)
	}
	x, why := plan.Set(b, s, w, math.MaxInt)
	if got := valuesOf(t, b, got(t, x, why)); !slices.Equal(got, want) {
		t.Errorf("Set(%v) = %v; want %v", w, got, want)
	}
	b.Drop(x)
	if !slices.Equal(arenaOf(b), was) {
		t.Errorf("Set(%v), Drop: the arena is not as it was", w)
	}
}

// P17.1, P17.3: the chapter's example, and those of the whole that write.
func TestExamples(t *testing.T) {
	b := bookOf(t, flat(1, 2), 100)
	done(t, b, stateOf(t, b, 0, 0), ann(all, 7, api.Equal), 4, 3)
	done(t, b, stateOf(t, b, 3, 1), ann(all, 12, api.Prop), 9, 3)
	s := held(t, b, stateOf(t, b, 1, 1), cell(0, 1))
	done(t, b, s, ann(all, 7, api.Equal), 1, 6)
	refused(t, b, s, ann(1, 2, api.Equal), api.ErrHeld)
	s = locked(t, b, s, "bob", cell(0, 2))
	refused(t, b, s, ann(2, 5, api.Equal), api.ErrLocked)
	refused(t, b, s, ann(all, 5, api.Equal), api.ErrFree)
}

// P17.1, P17.4: each way, above the value and below it, of leaves and of cells above them.
func TestWays(t *testing.T) {
	b := bookOf(t, deep(), 100)
	s := stateOf(t, b, 3, 1, 6, 0, 5, -5)
	weighed := func(at int, n int64, measure int) plan.Write {
		return plan.Write{User: "ann", Cell: cell(0, at), N: n, How: api.Weight, Meas: measure}
	}
	done(t, b, s, ann(all, 20, api.Equal), 7, 4, 9, 0, 5, -5)
	done(t, b, s, ann(all, 0, api.Equal), -1, -2, 3, 0, 5, -5)
	done(t, b, s, ann(all, 20, api.Prop), 6, 2, 12, 0, 5, -5)
	done(t, b, s, ann(all, -10, api.Prop), -3, -1, -6, 0, 5, -5)
	done(t, b, s, ann(inA, 0, api.Prop), 0, 0, 6, 0, 5, -5)
	done(t, b, s, ann(inA, 7, api.Equal), 5, 2, 6, 0, 5, -5)
	done(t, b, s, ann(inB, 7, api.Prop), 3, 1, 7, 0, 5, -5)
	done(t, b, s, ann(inD, -2, api.Equal), 3, -2, 6, 0, 5, -5)
	done(t, b, s, weighed(all, 13, 1), 3, 3, 7, 0, 5, -5)
	done(t, b, s, weighed(all, 7, 1), 3, -1, 5, 0, 5, -5)
	done(t, b, s, weighed(all, 20, 0), 6, 2, 12, 0, 5, -5)
	done(t, b, s, plan.Write{User: "bob", Cell: cell(1, all), N: 9, How: api.Weight}, 3, 1, 6, 3, 6, 0)
	done(t, b, s, plan.Write{User: "bob", Cell: cell(1, all), N: -9, How: api.Prop}, 3, 1, 6, 0, 0, -9)
}

// P17.1: spread Equal or Prop, the measure plays no part.
func TestMeasureUnasked(t *testing.T) {
	b := bookOf(t, deep(), 100)
	s := stateOf(t, b, 3, 1, 6)
	for _, measure := range append(noMeas(deep()), 0, 1) {
		done(t, b, s, plan.Write{User: "ann", N: 20, How: api.Equal, Meas: measure}, 7, 4, 9, 0, 0, 0)
		done(t, b, s, plan.Write{User: "ann", N: 20, How: api.Prop, Meas: measure}, 6, 2, 12, 0, 0, 0)
	}
}

// P17.1, P17.5: what is barred, or locked by another user, keeps what it has; what the user has locked, or another measure's holds and locks, do not.
func TestKept(t *testing.T) {
	b := bookOf(t, deep(), 100)
	s := func() state.State { return stateOf(t, b, 3, 1, 6) }
	done(t, b, held(t, b, s(), cell(0, inC)), ann(all, 20, api.Equal), 3, 6, 11, 0, 0, 0)
	done(t, b, held(t, b, s(), cell(0, inC)), ann(inA, 9, api.Equal), 3, 6, 6, 0, 0, 0)
	done(t, b, held(t, b, s(), cell(0, inA)), ann(all, 12, api.Prop), 3, 1, 8, 0, 0, 0)
	done(t, b, held(t, b, s(), cell(0, inA), cell(0, inC)), ann(all, 12, api.Prop), 3, 1, 8, 0, 0, 0)
	done(t, b, held(t, b, s(), cell(1, all), cell(1, inC)), ann(all, 20, api.Prop), 6, 2, 12, 0, 0, 0)
	done(t, b, locked(t, b, s(), "bob", cell(0, inA)), ann(all, 12, api.Equal), 3, 1, 8, 0, 0, 0)
	done(t, b, locked(t, b, s(), "bob", cell(1, all)), ann(all, 20, api.Prop), 6, 2, 12, 0, 0, 0)
	done(t, b, locked(t, b, s(), "ann", cell(0, inA)), ann(all, 20, api.Prop), 6, 2, 12, 0, 0, 0)
	done(t, b, locked(t, b, s(), "ann", cell(0, inA)), ann(inA, 8, api.Prop), 6, 2, 6, 0, 0, 0)
	done(t, b, locked(t, b, s(), "ann", cell(0, inC)), ann(inC, -1, api.Prop), -1, 1, 6, 0, 0, 0)
	both := locked(t, b, held(t, b, s(), cell(0, inD)), "bob", cell(0, inB))
	done(t, b, both, ann(all, 0, api.Prop), -7, 1, 6, 0, 0, 0)
	// A leaf of another measure is weighed, though it is held, or locked by another user.
	weighed := plan.Write{User: "ann", Cell: cell(1, all), N: 20, How: api.Weight}
	done(t, b, held(t, b, s(), cell(0, all)), weighed, 3, 1, 6, 6, 2, 12)
	done(t, b, locked(t, b, s(), "bob", cell(0, inB)), weighed, 3, 1, 6, 6, 2, 12)
}

// P17.1: no book, whatever else is wrong.
func TestNoBook(t *testing.T) {
	for _, user := range append(noNames(), "ann") {
		for _, c := range append(wrong(deep()), cell(0)) {
			for _, how := range append(noWays(), api.Equal) {
				w := plan.Write{User: user, Cell: c, How: how}
				if l, why := plan.Plan(nil, state.State{}, w); why != api.ErrNil || len(l) != 0 {
					t.Errorf("Plan = %v, %d", l, why)
				}
				askRefused(t, nil, state.State{}, w, 0, api.ErrNil)
				askRefused(t, nil, state.State{Root: 7}, w, -1, api.ErrNil)
			}
		}
	}
}

// tight is a state of deep in which, for ann, one cell's value does not fit, others are held, locked, both, or have no free leaf.
func tight(t *testing.T, b *state.Book) state.State {
	t.Helper()
	s := stateOf(t, b, greatest, 0, greatest, 0, 0, 7)
	s = held(t, b, s, cell(0, inC), cell(1, inA))
	return locked(t, b, s, "bob", cell(0, inD), cell(0, inB), cell(1, all))
}

// P17.1: each error alone, and, where several apply at once, the one named first.
func TestErrors(t *testing.T) {
	b := bookOf(t, deep(), 100)
	s := tight(t, b)
	type row struct {
		c   api.Cell
		n   int64
		why api.Errno
	}
	rows := []row{
		{cell(0, all), 1, api.ErrOver},   // none of its leaves is free, too
		{cell(0, inC), 1, api.ErrHeld},   // a leaf that is held itself
		{cell(0, inA), 1, api.ErrFree},   // c is held, d is locked
		{cell(0, inD), 1, api.ErrLocked}, // a leaf that is locked itself
		{cell(0, inB), 1, api.ErrLocked},
		{cell(1, all), 1, api.ErrLocked},
		{cell(1, inA), 1, api.ErrHeld}, // held itself, and within one that is locked
		{cell(1, inC), 1, api.ErrHeld}, // within one that is held, and within one that is locked
		{cell(1, inB), 1, api.ErrLocked},
		// N that is the cell's value helps none of them.
		{cell(0, inC), greatest, api.ErrHeld},
		{cell(0, inA), greatest, api.ErrFree},
		{cell(0, inB), greatest, api.ErrLocked},
		{cell(1, all), 7, api.ErrLocked},
	}
	for _, c := range wrong(deep()) {
		rows = append(rows, row{c, 0, api.ErrRange}, row{c, 1, api.ErrRange})
	}
	for _, r := range rows {
		for how := range 3 {
			refused(t, b, s, plan.Write{User: "ann", Cell: r.c, N: r.n, How: how, Meas: 1}, r.why)
		}
		for _, user := range noNames() {
			refused(t, b, s, plan.Write{User: user, Cell: r.c, N: r.n, How: -1}, api.ErrName)
			refused(t, b, s, plan.Write{User: user, Cell: r.c, N: r.n}, api.ErrName)
		}
		want := api.ErrArg
		if r.why == api.ErrRange {
			want = api.ErrRange
		}
		for _, how := range noWays() {
			refused(t, b, s, plan.Write{User: "ann", Cell: r.c, N: r.n, How: how, Meas: 1}, want)
		}
		for _, measure := range noMeas(deep()) {
			refused(t, b, s, plan.Write{User: "ann", Cell: r.c, N: r.n, How: api.Weight, Meas: measure}, want)
		}
	}
}

// P17.1: a value that does not fit goes ahead of a hold, of a lock, and of no free leaf.
func TestOverFirst(t *testing.T) {
	b := bookOf(t, deep(), 100)
	high := func() state.State { return stateOf(t, b, greatest, 1, 0, least, -1, 0) }
	for _, s := range []state.State{
		high(),
		held(t, b, high(), cell(0, all), cell(1, inA)),
		locked(t, b, high(), "bob", cell(0, all), cell(1, all)),
		held(t, b, high(), cell(0, inC), cell(0, inD), cell(0, inB), cell(1, all)),
	} {
		for _, measure := range []int{0, 1} {
			for _, at := range []int{all, inA} {
				refused(t, b, s, plan.Write{User: "ann", Cell: cell(measure, at), N: 1}, api.ErrOver)
			}
		}
	}
}

// P17.1: a held cell above the written one bars it; one below it, or beside it, does not.
func TestWithinHeld(t *testing.T) {
	b := bookOf(t, catOf(1, []int{-1, 0, 1, 2}, []int{-1, 0, 0}), 100)
	for i := range b.Space().Cells() {
		h, _ := b.Space().Cell(i)
		s := held(t, b, stateOf(t, b, 1, 2), h)
		m := modelOf(t, catOf(1, []int{-1, 0, 1, 2}, []int{-1, 0, 0}), b, s)
		for j := range b.Space().Cells() {
			c, _ := b.Space().Cell(j)
			w := plan.Write{User: "ann", Cell: c, N: 50}
			if _, why := plan.Plan(b, s, w); (why == api.ErrHeld) != m.within(c, h) {
				t.Errorf("Plan of %v, %v is held: %d", c, h, why)
			}
		}
		b.Drop(s)
	}
}

// P17.1, P17.3: N that is the cell's value: no leaves, also where nothing is a basis; Set tells the same state, asked for once more.
func TestSameValue(t *testing.T) {
	b := bookOf(t, deep(), 100)
	for _, s := range []state.State{
		{},
		stateOf(t, b, 3, 1, 6),
		stateOf(t, b, 5, -5, 0, 1),
		held(t, b, stateOf(t, b, 0, 0, 0, 5, 6, 7), cell(0, inC)),
		stateOf(t, b, least, greatest, 1, least, greatest, 1),
	} {
		m := modelOf(t, deep(), b, s)
		for _, at := range []int{all, inA, inB, inD} {
			for how := range 3 {
				w := ann(at, m.sum(cell(0, at)).Int64(), how)
				w.Meas = 1
				if l, why := plan.Plan(b, s, w); why != api.OK || len(l) != 0 {
					t.Errorf("Plan(%v) = %v, %d", w, l, why)
				}
				was := arenaOf(b)
				x, why := plan.Set(b, s, w, 6)
				m.ask(t, b, got(t, x, why))
				if a := b.View().Pages().Arena(); x.Root != s.Root || a.Used() != was[0].refs || x.Root != 0 && a.Refs(x.Root) != 2 {
					t.Error("Set", x.Root, s.Root, a.Used(), a.Refs(x.Root))
				}
				b.Drop(x)
				if !slices.Equal(arenaOf(b), was) {
					t.Error("the arena is not as it was")
				}
			}
		}
	}
}

// P17.3: also of a change of nothing Check is asked.
func TestSameValueChecked(t *testing.T) {
	b := bookOf(t, deep(), 100)
	s := stateOf(t, b, 3, 1, 6)
	was := arenaOf(b)
	askRefused(t, b, s, ann(all, 10, api.Equal), 2, api.ErrFull)
	askRefused(t, b, s, ann(all, 10, api.Equal), -1, api.ErrFull)
	if !slices.Equal(arenaOf(b), was) {
		t.Error("the arena is not as it was")
	}
	high := stateOf(t, b, greatest, 0, 1)
	was = arenaOf(b)
	askRefused(t, b, high, ann(inB, 1, api.Equal), 6, api.ErrOver)
	if !slices.Equal(arenaOf(b), was) {
		t.Error("the arena is not as it was")
	}
}

// P17.1: a change where all weights of the free leaves are 0, or where they are too much, though those of other leaves are not.
func TestNoBasis(t *testing.T) {
	b := bookOf(t, deep(), 100)
	refused(t, b, state.State{}, ann(all, 5, api.Prop), api.ErrZero)
	refused(t, b, state.State{}, plan.Write{User: "ann", N: -5, How: api.Weight, Meas: 1}, api.ErrZero)
	done(t, b, state.State{}, ann(all, 5, api.Equal), 2, 2, 1, 0, 0, 0)
	s := stateOf(t, b, 3, 0, 0, 0, 0, 4)
	refused(t, b, s, ann(inD, 5, api.Prop), api.ErrZero)
	refused(t, b, held(t, b, stateOf(t, b, 3), cell(0, inC)), ann(all, 5, api.Prop), api.ErrZero)
	refused(t, b, locked(t, b, stateOf(t, b, 3), "bob", cell(0, inC)), ann(inA, 5, api.Prop), api.ErrZero)
	refused(t, b, s, plan.Write{User: "ann", Cell: cell(0, inA), N: 5, How: api.Weight, Meas: 1}, api.ErrZero)
	done(t, b, s, plan.Write{User: "ann", Cell: cell(0, all), N: 5, How: api.Weight, Meas: 1}, 3, 0, 2, 0, 0, 4)
	wide := stateOf(t, b, least, greatest, 1, least, greatest, 2)
	done(t, b, wide, ann(all, 1, api.Equal), least+1, greatest, 1, least, greatest, 2)
	// 2^63 and 2^63 - 1 are not too much together: the greatest sum that fits.
	done(t, b, wide, ann(inA, 0, api.Prop), least+1, greatest, 1, least, greatest, 2)
	refused(t, b, wide, ann(all, 1, api.Prop), api.ErrOver)
	refused(t, b, wide, plan.Write{User: "ann", N: 1, How: api.Weight, Meas: 1}, api.ErrOver)
}

// P17.1, P17.4: from the least number to the greatest, and back; by one leaf, and by more.
func TestEnds(t *testing.T) {
	b := bookOf(t, deep(), 100)
	for how := range 2 {
		done(t, b, stateOf(t, b, least), ann(inC, greatest, how), greatest, 0, 0, 0, 0, 0)
		done(t, b, stateOf(t, b, greatest), ann(inC, least, how), least, 0, 0, 0, 0, 0)
		done(t, b, stateOf(t, b, greatest), ann(inC, 0, how), 0, 0, 0, 0, 0, 0)
		done(t, b, stateOf(t, b, 0, 0, least), ann(inB, -1, how), 0, 0, -1, 0, 0, 0)
	}
	done(t, b, stateOf(t, b, 0, 0, least), ann(all, least+1, api.Equal), 1, 0, least, 0, 0, 0)
	done(t, b, stateOf(t, b, -1<<62, -1<<62), ann(inA, greatest, api.Equal), 1<<62, 1<<62-1, 0, 0, 0, 0)
	done(t, b, stateOf(t, b, -1<<62, -1<<62), ann(inA, greatest, api.Prop), 1<<62, 1<<62-1, 0, 0, 0, 0)
	done(t, b, stateOf(t, b, 1<<62, 1<<62-1), ann(inA, least, api.Equal), -1<<62, -1<<62, 0, 0, 0, 0)
}

// P17.1: a leaf whose new value does not fit, at the first, a middle and the last one, though the cell's does; a part of nothing takes it nowhere.
func TestLeafOver(t *testing.T) {
	b := bookOf(t, flat(2, 3), 100)
	for _, values := range [][]int64{{greatest, least, 0}, {least, greatest, 0}, {0, least, greatest}} {
		s := stateOf(t, b, values...)
		refused(t, b, s, ann(all, 5, api.Equal), api.ErrOver)
		refused(t, b, s, ann(all, -7, api.Equal), api.ErrOver)
		refused(t, b, held(t, b, s, cell(0, 1+slices.Index(values, 0))), ann(all, 5, api.Equal), api.ErrOver)
	}
	s := stateOf(t, b, greatest, least, 0, 0, 0, 1)
	w := plan.Write{User: "ann", N: 5, How: api.Weight, Meas: 1}
	done(t, b, s, w, greatest, least, 6, 0, 0, 1)
	done(t, b, s, ann(3, greatest, api.Equal), greatest, least, greatest, 0, 0, 1)
}

// P17.1, P17.5: one leaf is free among many that are not, each of them once.
func TestOneFree(t *testing.T) {
	const leaves = 7
	b := bookOf(t, flat(1, leaves), 100)
	values := []int64{5, -4, 3, 0, 7, 1, 2}
	for free := range leaves {
		s := stateOf(t, b, values...)
		for i := range leaves {
			if i != free && i%2 == 0 {
				s = held(t, b, s, cell(0, 1+i))
			} else if i != free {
				s = locked(t, b, s, "bob", cell(0, 1+i))
			}
		}
		want := slices.Clone(values)
		want[free] += 100
		done(t, b, s, ann(all, 114, api.Equal), want...)
		want[free] = values[free]
		done(t, b, s, ann(all, 14, api.Equal), want...)
		refused(t, b, held(t, b, s, cell(0, 1+free)), ann(all, 114, api.Equal), api.ErrFree)
	}
}

// P17.2: no book; a cell that does not fit though all leaves do; as many leaves as most, one more, a most below 0; both at once.
func TestCheck(t *testing.T) {
	b := bookOf(t, deep(), 100)
	fits := stateOf(t, b, 3, -3, 0, 5)
	over := stateOf(t, b, greatest, 0, 1)
	under := stateOf(t, b, 0, 0, 0, least, -1)
	inner := stateOf(t, b, greatest, 1, -1)
	rows := []struct {
		b    *state.Book
		s    state.State
		most int
		want api.Errno
	}{
		{nil, fits, 6, api.ErrNil}, {nil, over, 0, api.ErrNil}, {nil, state.State{}, -1, api.ErrNil},
		{b, fits, 3, api.OK}, {b, fits, 4, api.OK}, {b, fits, math.MaxInt, api.OK},
		{b, fits, 2, api.ErrFull}, {b, fits, 0, api.ErrFull}, {b, fits, -1, api.ErrFull}, {b, fits, math.MinInt, api.ErrFull},
		{b, state.State{}, 0, api.OK}, {b, state.State{}, -1, api.ErrFull}, {b, state.State{}, math.MinInt, api.ErrFull},
		{b, over, 6, api.ErrOver}, {b, over, 2, api.ErrOver}, {b, over, 1, api.ErrOver}, {b, over, -1, api.ErrOver},
		{b, under, 6, api.ErrOver}, {b, under, 1, api.ErrOver},
		{b, inner, 6, api.ErrOver}, {b, inner, 1, api.ErrOver}, // a does not fit, all does
		{b, stateOf(t, b, greatest, 0, 0, least), 2, api.OK},
		{b, stateOf(t, b, greatest, 0, 0, least), 1, api.ErrFull},
		{b, held(t, b, stateOf(t, b, 1), cell(0, inB), cell(0, all)), 1, api.OK}, // what is held and 0 does not count
		{b, held(t, b, stateOf(t, b, 1), cell(0, inB), cell(0, all)), 0, api.ErrFull},
	}
	was := arenaOf(b)
	for i, r := range rows {
		if why := plan.Check(r.b, r.s, r.most); why != r.want {
			t.Errorf("Check %d = %d; want %d", i, why, r.want)
		}
	}
	if !slices.Equal(arenaOf(b), was) {
		t.Error("the arena is not as it was")
	}
}

// P17.3, P17.7: a cell over, or beside, the written one comes to be too great; also where there are too many leaves, too.
func TestSetOver(t *testing.T) {
	b := bookOf(t, deep(), 100)
	rows := []struct {
		s state.State
		w plan.Write
	}{
		{stateOf(t, b, 0, 0, greatest), ann(inA, 1, api.Equal)},
		{stateOf(t, b, 0, 0, least), ann(inA, -1, api.Equal)},
		{stateOf(t, b, 0, greatest, -5), ann(inC, 1, api.Equal)},
		{stateOf(t, b, 1, greatest-2, 0), ann(inB, 2, api.Equal)},
		{stateOf(t, b, 0, greatest, least), ann(all, 5, api.Prop)},
	}
	for _, r := range rows {
		m := modelOf(t, deep(), b, r.s)
		was := arenaOf(b)
		if l, why := plan.Plan(b, r.s, r.w); r.w.How == api.Equal && (why != api.OK || len(l) == 0) {
			t.Errorf("Plan = %v, %d", l, why)
		}
		for _, most := range []int{6, 1, 0, -1} {
			askRefused(t, b, r.s, r.w, most, api.ErrOver)
		}
		m.ask(t, b, r.s)
		if !slices.Equal(arenaOf(b), was) {
			t.Errorf("%v: the arena is not as it was", r.w)
		}
	}
	// As great as it may be: it can be.
	done(t, b, stateOf(t, b, 0, 0, greatest-1), ann(inA, 1, api.Equal), 1, 0, greatest-1, 0, 0, 0)
}

// P17.3, P17.7: just as many leaves as most come to have a value, and one more.
func TestSetMost(t *testing.T) {
	b := bookOf(t, deep(), 100)
	for _, r := range []struct {
		s    state.State
		w    plan.Write
		full int
	}{
		{state.State{}, ann(all, 9, api.Equal), 3},
		{state.State{}, ann(all, 2, api.Equal), 2},
		{stateOf(t, b, 0, 0, 0, 1, 2, 3), ann(all, 9, api.Equal), 6},
		{stateOf(t, b, 4, 4, 4, 1), ann(all, 0, api.Equal), 1},
		{stateOf(t, b, 4, 4, 4), ann(all, 0, api.Prop), 0},
		{stateOf(t, b, 4, 4, 4), ann(all, 10, api.Prop), 3},
	} {
		was := arenaOf(b)
		for _, most := range []int{r.full - 1, r.full - 2, math.MinInt} {
			askRefused(t, b, r.s, r.w, most, api.ErrFull)
		}
		if !slices.Equal(arenaOf(b), was) {
			t.Errorf("%v: the arena is not as it was", r.w)
		}
		for _, most := range []int{r.full, r.full + 1, math.MaxInt} {
			x, why := plan.Set(b, r.s, r.w, most)
			if n := b.Full(got(t, x, why)); n != r.full {
				t.Errorf("%v: %d leaves; want %d", r.w, n, r.full)
			}
			b.Drop(x)
		}
	}
}

// failsAt is the code of the first value for which there is no room; -1, if there is room for all.
func failsAt(b *state.Book, s state.State, l []state.Val) int {
	for i, v := range l {
		x, why := b.Write(s, l[:i+1]...)
		if why == api.ErrFull {
			return v.Code
		}
		b.Drop(x)
	}
	return -1
}

// P17.3, P17.7: there is no room at the first leaf, at a middle one, at the last one; all is then as it was, and what needs no room is done still.
func TestSetFull(t *testing.T) {
	// The leaves 0, 8 and 16 are those within the first member of the second dimension.
	cat := catOf(1, []int{-1, 0, 0, 0}, []int{-1, -1, -1, -1, -1, -1, -1, -1})
	// Two levels: a state of one value has 2 nodes; each leaf makes 2 more, and those of the one ahead of it that are not shared are gone.
	rows := []struct {
		room, fails int
	}{
		{2, 0}, {3, 0}, {4, 8}, {5, 8}, {6, 16}, {7, -1}, {8, -1},
	}
	for _, r := range rows {
		b := bookOf(t, cat, r.room)
		s := stateOf(t, b, 3)
		w := ann(0, 21, api.Equal)
		m := modelOf(t, cat, b, s)
		was := arenaOf(b)
		l, why := plan.Plan(b, s, w)
		if why != api.OK || !slices.Equal(l, []state.Val{val(0, 9), val(8, 6), val(16, 6)}) {
			t.Fatalf("Plan = %v, %d", l, why)
		}
		if at := failsAt(b, s, l); at != r.fails {
			t.Errorf("room %d: no room at %d; want %d", r.room, at, r.fails)
		}
		if r.fails < 0 {
			x, why := plan.Set(b, s, w, 3)
			m.askSet(t, b, got(t, x, why), w)
			m.ask(t, b, s)
			continue
		}
		for _, most := range []int{24, 3, 2, -1} {
			askRefused(t, b, s, w, most, api.ErrFull)
		}
		m.ask(t, b, s)
		if !slices.Equal(arenaOf(b), was) {
			t.Errorf("room %d: the arena is not as it was", r.room)
		}
		if x, why := plan.Set(b, s, ann(0, 3, api.Equal), 1); got(t, x, why).Root != s.Root {
			t.Error("a change of nothing", x.Root)
		}
	}
}

// P17.3: no room goes ahead of a cell that would come to be too great; with room, that is what is told.
func TestNoRoomFirst(t *testing.T) {
	for room, want := range map[int]api.Errno{1: api.ErrFull, 2: api.ErrOver, 9: api.ErrOver} {
		b := bookOf(t, deep(), room)
		s := stateOf(t, b, 0, 0, greatest)
		was := arenaOf(b)
		askRefused(t, b, s, ann(inC, 1, api.Equal), 1, want)
		if !slices.Equal(arenaOf(b), was) {
			t.Errorf("room %d: the arena is not as it was", room)
		}
	}
}

// P17.3: the state that Set tells is asked for once, the one that it is asked of as often as it was, and is as it was; holds and locks are in both.
func TestAskedOnceMore(t *testing.T) {
	b := bookOf(t, deep(), 100)
	s := locked(t, b, held(t, b, stateOf(t, b, 3, 1, 6), cell(0, inC), cell(1, all)), "bob", cell(0, inB))
	m := modelOf(t, deep(), b, s)
	x, why := plan.Set(b, s, ann(all, 12, api.Equal), 3)
	m.ask(t, b, s)
	m.with([]state.Val{val(1, 3)}).ask(t, b, got(t, x, why))
	a := b.View().Pages().Arena()
	if a.Refs(s.Root) != 1 || a.Refs(x.Root) != 1 || s.Root == x.Root {
		t.Error("Refs", a.Refs(s.Root), a.Refs(x.Root))
	}
	b.Drop(s)
	m.with([]state.Val{val(1, 3)}).ask(t, b, x)
	b.Drop(x)
	if used(b) != 0 {
		t.Error("Used", used(b))
	}
}

// Rule 4: what is written into an answer is seen by no later one.
func TestOwnMemory(t *testing.T) {
	b := bookOf(t, deep(), 100)
	s := stateOf(t, b, 3, 1, 6)
	l, _ := plan.Plan(b, s, ann(all, 20, api.Prop))
	clear(append(l, val(9, 9)))
	done(t, b, s, ann(all, 20, api.Prop), 6, 2, 12, 0, 0, 0)
}

// live is a state that is asked for once, and what it must be.
type live struct {
	s state.State
	m model
}

// walk is a book and states of it that are asked for.
type walk struct {
	b    *state.Book
	r    *rand.Rand
	cat  api.Cat
	live []live
}

// P17.1 to P17.7: many writes, right ones and wrong ones, of many states that live beside each other, against lists.
func TestWalks(t *testing.T) {
	seen := map[api.Errno]int{}
	for name, cat := range cats() {
		for _, room := range []int{30, api.MaxArena} {
			t.Run(name+strconv.Itoa(room), func(t *testing.T) {
				b := bookOf(t, cat, room)
				w := &walk{b, rand.New(rand.NewSource(17)), cat, nil}
				w.live = []live{{state.State{}, modelOf(t, cat, b, state.State{})}}
				for range 600 {
					from := w.live[w.r.Intn(len(w.live))]
					if w.r.Intn(3) == 0 {
						w.turn(t, from)
					} else {
						seen[w.step(t, from)]++
					}
					if len(w.live) > 10 {
						w.dropOne(t)
					}
				}
				for len(w.live) > 0 {
					w.dropOne(t)
				}
				if used(b) != 0 {
					t.Errorf("Used = %d", used(b))
				}
			})
		}
	}
	for _, why := range []api.Errno{api.OK, api.ErrName, api.ErrRange, api.ErrArg, api.ErrOver, api.ErrHeld, api.ErrLocked, api.ErrFree, api.ErrZero, api.ErrFull} {
		if seen[why] < 10 {
			t.Errorf("the walks came %d times to error %d", seen[why], why)
		}
	}
}

// dropOne lets go of a state, behind asking all of it.
func (w *walk) dropOne(t *testing.T) {
	t.Helper()
	i := w.r.Intn(len(w.live))
	w.live[i].m.ask(t, w.b, w.live[i].s)
	if why := w.b.Drop(w.live[i].s); why != api.OK {
		t.Fatal("Drop", why)
	}
	w.live = slices.Delete(w.live, i, i+1)
}

// turn makes another state by the calls below, so that there are states of all kinds.
func (w *walk) turn(t *testing.T, from live) {
	t.Helper()
	c := w.cell()
	s, why := state.State{}, api.OK
	switch w.r.Intn(6) {
	case 0:
		s, why = w.b.Write(from.s, val(w.r.Intn(w.b.Space().Leaves()), w.number()))
	case 1:
		s, why = w.b.Hold(from.s, c)
	case 2, 3:
		if l := w.b.Held(from.s); len(l) > 0 {
			c = l[w.r.Intn(len(l))]
		}
		s, why = w.b.Release(from.s, c)
	case 4:
		s, why = w.b.Lock(from.s, c, users()[w.r.Intn(3)])
	case 5:
		if l := from.s.Locks.List(); len(l) > 0 {
			lock := l[w.r.Intn(len(l))]
			s, why = w.b.Unlock(from.s, lock.Cell, lock.User)
		}
	}
	if why == api.OK {
		w.live = append(w.live, live{s, modelOf(t, w.cat, w.b, s)})
	}
}

// step writes a cell, and tells the error.
func (w *walk) step(t *testing.T, from live) api.Errno {
	t.Helper()
	write, most := w.write(from.m), w.r.Intn(w.b.Space().Leaves()+2)
	was := arenaOf(w.b)
	want, wantWhy := from.m.plan(write)
	l, why := plan.Plan(w.b, from.s, write)
	if why != wantWhy || !slices.Equal(l, want) {
		t.Fatalf("Plan(%v) = %v, %d; want %v, %d", write, l, why, want, wantWhy)
	}
	m := from.m.with(want)
	if why == api.OK && failsAt(w.b, from.s, l) >= 0 {
		wantWhy = api.ErrFull
	} else if why == api.OK {
		wantWhy = m.check(w.b, most)
	}
	if !slices.Equal(arenaOf(w.b), was) {
		t.Fatal("the arena is not as it was")
	}
	if wantWhy != api.OK {
		askRefused(t, w.b, from.s, write, most, wantWhy)
		if !slices.Equal(arenaOf(w.b), was) {
			t.Fatal("the arena is not as it was")
		}
		return wantWhy
	}
	x, why := plan.Set(w.b, from.s, write, most)
	m.ask(t, w.b, got(t, x, why))
	from.m.askSet(t, w.b, x, write)
	w.live = append(w.live, live{x, m})
	return api.OK
}

func (w *walk) cell() api.Cell {
	c, _ := w.b.Space().Cell(w.r.Intn(w.b.Space().Cells()))
	return c
}

// number is a small one most times, and seldom one near an end.
func (w *walk) number() int64 {
	if w.r.Intn(8) > 0 {
		return int64(w.r.Intn(41) - 20)
	}
	return []int64{least, greatest, least + 1, greatest - 3, 1 << 62, -1 << 62}[w.r.Intn(6)]
}

// write is one that can be most times, and seldom wrong in one thing or more.
func (w *walk) write(m model) plan.Write {
	x := plan.Write{User: users()[w.r.Intn(3)], Cell: w.cell(), N: w.number(), How: w.r.Intn(3), Meas: w.r.Intn(len(w.cat.Meas))}
	if sum := m.sum(x.Cell); sum.IsInt64() && w.r.Intn(8) == 0 {
		x.N = sum.Int64()
	}
	if l := noNames(); w.r.Intn(20) == 0 {
		x.User = l[w.r.Intn(len(l))]
	}
	if l := wrong(w.cat); w.r.Intn(20) == 0 {
		x.Cell = l[w.r.Intn(len(l))]
	}
	if l := noWays(); w.r.Intn(20) == 0 {
		x.How = l[w.r.Intn(len(l))]
	}
	if l := noMeas(w.cat); w.r.Intn(20) == 0 {
		x.Meas = l[w.r.Intn(len(l))]
	}
	return x
}

// P17.1 to P17.6: as many leaves as there may be, and as many cells nearly.
func TestLimits(t *testing.T) {
	pairs := make([]int, 32)
	for i := range 16 {
		pairs[2*i], pairs[2*i+1] = -1, 2*i
	}
	cat := catOf(4, pairs, pairs)
	b := bookOf(t, cat, api.MaxArena)
	s := state.State{}
	for code := range b.Space().Leaves() {
		x, why := b.Write(s, val(code, int64(code%97)-40))
		b.Drop(s)
		s = got(t, x, why)
	}
	m := modelOf(t, cat, b, s)
	for how := range 3 {
		for at := range 2 {
			w := plan.Write{User: "ann", Cell: cell(0, 2*at, 0), N: 1 << 40, How: how, Meas: 1}
			x, why := plan.Set(b, s, w, api.MaxLeaves)
			m.askSet(t, b, got(t, x, why), w)
			b.Drop(x)
		}
	}
	nodes := make([]int, 32)
	for i := range nodes {
		nodes[i] = -1
	}
	wide := catOf(1, append([]int{-1}, make([]int, 31)...), nodes)
	b = bookOf(t, wide, api.MaxArena)
	m = modelOf(t, wide, b, state.State{})
	w := plan.Write{User: "ann", N: -1000, How: api.Equal}
	x, why := plan.Set(b, state.State{}, w, 31)
	m.askSet(t, b, got(t, x, why), w)
}

// P6: a book that New did not make, and states that are not asked for any more, or never were, make no call panic.
func TestNothing(t *testing.T) {
	zero := &state.Book{}
	for how := range 4 {
		w := ann(all, 5, how)
		plan.Check(zero, state.State{}, 0)
		if l, why := plan.Plan(zero, state.State{}, w); len(l) != 0 || why == api.OK {
			t.Errorf("Plan = %v, %d", l, why)
		}
		if x, why := plan.Set(zero, state.State{}, w, 5); x.Root != 0 || why == api.OK {
			t.Errorf("Set = %v, %d", x, why)
		}
	}
	b := bookOf(t, deep(), 100)
	s := held(t, b, stateOf(t, b, 1, 2, 3), cell(0, inC))
	b.Drop(s)
	for _, root := range []int{s.Root, math.MinInt, -1, 1, 5, 100, 101, math.MaxInt} {
		s.Root = root
		for how := range 3 {
			plan.Plan(b, s, ann(all, 5, how))
			plan.Set(b, s, ann(all, 5, how), 5)
			plan.Set(b, s, ann(inD, 0, how), 5)
		}
		plan.Check(b, s, 5)
	}
}
