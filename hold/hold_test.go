package hold_test

import (
	"math"
	"math/rand"
	"slices"
	"strconv"
	"testing"

	"moiety/api"
	"moiety/coord"
	"moiety/dims"
	"moiety/hold"
	"moiety/region"
)

// catOf is a catalogue of so many measures, and of dimensions whose members stand below those of each list.
func catOf(measures int, ups ...[]int) api.Cat {
	cat := api.Cat{Leaves: 1, Scens: 1}
	for i := range measures {
		cat.Meas = append(cat.Meas, "m"+strconv.Itoa(i))
	}
	for k, l := range ups {
		d := api.Dim{Name: "d" + strconv.Itoa(k)}
		for i, up := range l {
			d.Nodes = append(d.Nodes, api.Node{Name: "n" + strconv.Itoa(i), Up: up})
		}
		cat.Dims = append(cat.Dims, d)
	}
	return cat
}

func spaceOf(t *testing.T, cat api.Cat) *coord.Space {
	t.Helper()
	d, _, why := dims.New(cat)
	if why != api.OK {
		t.Fatal("dims", why)
	}
	s, _ := coord.New(d)
	return s
}

// deep is two measures of all 0; a 1 and b 2 below it; c 3 and d 4 below a.
func deep() api.Cat {
	return catOf(2, []int{-1, 0, 0, 1, 1})
}

// cats are of one to four dimensions, of which some have members ahead of those above them.
func cats() map[string]api.Cat {
	tops := []int{5, -1, 5, 4, -1, -1, 4}
	return map[string]api.Cat{
		"one leaf": catOf(1, []int{-1}),
		"deep":     deep(),
		"one":      catOf(4, tops),
		"two":      catOf(2, []int{-1, 0, 0, 1}, []int{-1, 0, 0}),
		"three":    catOf(1, tops, []int{1, 2, -1}, []int{-1, -1}),
		"four":     catOf(2, []int{-1, 0, 1}, tops, []int{-1}, []int{2, 2, -1}),
	}
}

func cell(measure int, at ...int) api.Cell {
	c := api.Cell{Meas: measure}
	copy(c.At[:], at)
	return c
}

// wrong are cells that can not be: by their measure, by a member, by a place of a dimension that there is not.
func wrong(cat api.Cat) []api.Cell {
	l := []api.Cell{cell(-1), cell(len(cat.Meas)), cell(math.MinInt), cell(math.MaxInt)}
	for k := range api.MaxDims {
		members := 1
		if k < len(cat.Dims) {
			members = len(cat.Dims[k].Nodes)
		}
		for _, i := range []int{-1, members, math.MinInt, math.MaxInt} {
			x := cell(0)
			x.At[k] = i
			l = append(l, x)
		}
	}
	return l
}

// within says by the catalogue's lists alone whether c is within e.
func within(cat api.Cat, c, e api.Cell) bool {
	for k, d := range cat.Dims {
		i := c.At[k]
		for i != -1 && i != e.At[k] {
			i = d.Nodes[i].Up
		}
		if i == -1 {
			return false
		}
	}
	return c.Meas == e.Meas
}

// holds are those of l, added one after another.
func holds(t *testing.T, s *coord.Space, l ...api.Cell) hold.Holds {
	t.Helper()
	var h hold.Holds
	for _, c := range l {
		next, why := h.Add(s, c)
		if why != api.OK {
			t.Fatalf("Add(%v) = %d", c, why)
		}
		h = next
	}
	return h
}

// first are the cells of the first indexes.
func first(s *coord.Space, many int) []api.Cell {
	var l []api.Cell
	for i := range many {
		c, _ := s.Cell(i)
		l = append(l, c)
	}
	return l
}

// ask asks everything of holds that a list of their cells, by rising indexes, tells.
func ask(t *testing.T, cat api.Cat, s *coord.Space, h hold.Holds, want []api.Cell) {
	t.Helper()
	if l := h.List(); !slices.Equal(l, want) {
		t.Fatalf("List = %v; want %v", l, want)
	}
	var codes []int
	for i := range s.Cells() {
		c, _ := s.Cell(i)
		has := slices.Contains(want, c)
		in := slices.ContainsFunc(want, func(held api.Cell) bool { return within(cat, c, held) })
		if h.Has(c) != has || h.Within(s, c) != in {
			t.Fatalf("%v: Has(%v) = %t, Within %t; want %t, %t", want, c, h.Has(c), h.Within(s, c), has, in)
		}
		if code := s.Code(c); in && code >= 0 {
			codes = append(codes, code)
		}
	}
	slices.Sort(codes)
	if r := h.Region(s); !r.Same(region.Of(codes...)) || !slices.Equal(r.All(), codes) {
		t.Fatalf("%v: Region = %v; want %v", want, r.All(), codes)
	}
}

// refused asks whether an answer is no holds, and the error.
func refused(t *testing.T, what string, h hold.Holds, why, want api.Errno) {
	t.Helper()
	if why != want || len(h.List()) != 0 || !h.Same(hold.Holds{}) {
		t.Errorf("%s = %v, %d; want none, %d", what, h.List(), why, want)
	}
}

// P13.2: the chapter's example.
func TestExample(t *testing.T) {
	cat := catOf(1, []int{-1, 0})
	s := spaceOf(t, cat)
	h := holds(t, s, cell(0, 0))
	if !h.Within(s, cell(0, 1)) || h.Has(cell(0, 1)) {
		t.Error("Within, Has of a")
	}
	ask(t, cat, s, h, []api.Cell{cell(0, 0)})
}

// P13.1, P6: no space, of cells that are held, that are not, and that can not be, of few and of as many as there may be.
func TestNoSpace(t *testing.T) {
	cat := catOf(4, []int{-1, 0, 0, 1, 1})
	s := spaceOf(t, cat)
	for _, many := range []int{0, 1, api.MaxHolds} {
		h := holds(t, s, first(s, many)...)
		for _, c := range append(wrong(cat), cell(0), cell(3, 4)) {
			a, why := h.Add(nil, c)
			refused(t, "Add without a space", a, why, api.ErrNil)
			d, why := h.Drop(nil, c)
			refused(t, "Drop without a space", d, why, api.ErrNil)
		}
		ask(t, cat, s, h, first(s, many))
	}
}

// P13.1: cells that can not be, of few holds and of as many as there may be.
func TestCellsWrong(t *testing.T) {
	for name, cat := range cats() {
		s := spaceOf(t, cat)
		for _, many := range []int{0, min(3, s.Cells()), min(api.MaxHolds, s.Cells())} {
			h := holds(t, s, first(s, many)...)
			for _, c := range wrong(cat) {
				a, why := h.Add(s, c)
				refused(t, name+": Add", a, why, api.ErrRange)
				d, why := h.Drop(s, c)
				refused(t, name+": Drop", d, why, api.ErrRange)
				if h.Has(c) || h.Within(s, c) {
					t.Errorf("%s: Has, Within of %v", name, c)
				}
			}
			ask(t, cat, s, h, first(s, many))
		}
	}
}

// P13.1: the 16th cell and the 17th; a cell that is held already is told ahead of that there are too many.
func TestFull(t *testing.T) {
	cat := catOf(4, []int{-1, 0, 0, 1, 1})
	s := spaceOf(t, cat)
	all := first(s, s.Cells())
	h := holds(t, s, all[:api.MaxHolds-1]...)
	for _, c := range all[api.MaxHolds-1:] {
		full, why := h.Add(s, c)
		if why != api.OK {
			t.Fatalf("Add of the 16th = %d", why)
		}
		ask(t, cat, s, full, append(slices.Clone(all[:api.MaxHolds-1]), c))
		for _, x := range all {
			want := api.ErrFull
			if full.Has(x) {
				want = api.ErrTwice
			}
			a, why := full.Add(s, x)
			refused(t, "Add of the 17th", a, why, want)
		}
		less, why := full.Drop(s, all[3])
		if why != api.OK {
			t.Fatalf("Drop of 16 = %d", why)
		}
		again, why := less.Add(s, all[3])
		if why != api.OK || !again.Same(full) {
			t.Errorf("Add behind Drop = %v, %d", again.List(), why)
		}
	}
	ask(t, cat, s, h, all[:api.MaxHolds-1])
}

// P13.1: Add and Drop of a held cell, and of those above, below and beside it, which are not.
func TestJustTheCell(t *testing.T) {
	cat := deep()
	s := spaceOf(t, cat)
	h := holds(t, s, cell(0, 1))
	a, why := h.Add(s, cell(0, 1))
	refused(t, "Add", a, why, api.ErrTwice)
	rows := []struct {
		c      api.Cell
		within bool
	}{
		{cell(0, 0), false}, {cell(0, 2), false}, {cell(0, 3), true}, {cell(0, 4), true}, {cell(1, 1), false}, {cell(1, 3), false},
	}
	for _, r := range rows {
		if h.Has(r.c) || h.Within(s, r.c) != r.within {
			t.Errorf("Has(%v) = %t, Within %t", r.c, h.Has(r.c), h.Within(s, r.c))
		}
		d, why := h.Drop(s, r.c)
		refused(t, "Drop", d, why, api.ErrNone)
		more, why := h.Add(s, r.c)
		if why != api.OK || !more.Has(r.c) || !more.Has(cell(0, 1)) {
			t.Errorf("Add(%v) = %v, %d", r.c, more.List(), why)
		}
	}
	if !h.Has(cell(0, 1)) || !h.Within(s, cell(0, 1)) {
		t.Error("Has, Within of the cell itself")
	}
	d, why := hold.Holds{}.Drop(s, cell(0, 1))
	refused(t, "Drop of none", d, why, api.ErrNone)
}

// P13.2, P13.5: Within and Region of none, of one cell, of two that overlap, of a leaf that is within two.
func TestRegion(t *testing.T) {
	// Leaves: c 0, d 1, b 2 of the one measure, 3, 4, 5 of the other one.
	one := spaceOf(t, deep())
	// Members all 0, a 1, b 2 of both: a cell of one row and a cell of one column have one leaf in common.
	two := spaceOf(t, catOf(1, []int{-1, 0, 0}, []int{-1, 0, 0}))
	rows := []struct {
		cat   api.Cat
		s     *coord.Space
		held  []api.Cell
		codes []int
	}{
		{deep(), one, nil, nil},
		{deep(), one, []api.Cell{cell(0, 2)}, []int{2}},
		{deep(), one, []api.Cell{cell(1, 1)}, []int{3, 4}},
		{deep(), one, []api.Cell{cell(0, 0), cell(0, 1)}, []int{0, 1, 2}},
		{deep(), one, []api.Cell{cell(0, 1), cell(0, 3)}, []int{0, 1}},
		{deep(), one, []api.Cell{cell(0, 2), cell(1, 3)}, []int{2, 3}},
		{catOf(1, []int{-1, 0, 0}, []int{-1, 0, 0}), two, []api.Cell{cell(0, 0, 2), cell(0, 1, 0)}, []int{0, 1, 3}},
		{catOf(1, []int{-1, 0, 0}, []int{-1, 0, 0}), two, []api.Cell{cell(0, 1, 0), cell(0, 2, 0)}, []int{0, 1, 2, 3}},
	}
	for _, r := range rows {
		h := holds(t, r.s, r.held...)
		if l := h.Region(r.s).All(); !slices.Equal(l, r.codes) {
			t.Errorf("%v: Region = %v; want %v", r.held, l, r.codes)
		}
		ask(t, r.cat, r.s, h, r.held)
	}
}

// P13.2, P13.4: whatever the order of the Adds, the list is by rising indexes, and the holds are the same.
func TestOrder(t *testing.T) {
	for name, cat := range cats() {
		t.Run(name, func(t *testing.T) {
			s := spaceOf(t, cat)
			r := rand.New(rand.NewSource(3))
			for range 20 {
				indexes := r.Perm(s.Cells())[:min(s.Cells(), 1+r.Intn(api.MaxHolds))]
				slices.Sort(indexes)
				var rising, mixed []api.Cell
				for _, i := range indexes {
					c, _ := s.Cell(i)
					rising = append(rising, c)
				}
				for _, i := range r.Perm(len(rising)) {
					mixed = append(mixed, rising[i])
				}
				straight, about := holds(t, s, rising...), holds(t, s, mixed...)
				ask(t, cat, s, about, rising)
				if !straight.Same(about) || !about.Same(straight) {
					t.Fatalf("Same of %v and %v", rising, mixed)
				}
			}
		})
	}
}

// P13.2: none and none, the same in another order, fewer, more and other cells.
func TestSame(t *testing.T) {
	s := spaceOf(t, deep())
	a, b, c := cell(0, 0), cell(0, 3), cell(1, 0)
	rows := []struct {
		x, y []api.Cell
		same bool
	}{
		{nil, nil, true},
		{nil, []api.Cell{a}, false},
		{[]api.Cell{a}, []api.Cell{a}, true},
		{[]api.Cell{a}, []api.Cell{b}, false},
		{[]api.Cell{a, b}, []api.Cell{b, a}, true},
		{[]api.Cell{a, b, c}, []api.Cell{c, a, b}, true},
		{[]api.Cell{a, b}, []api.Cell{a}, false},
		{[]api.Cell{a, b}, []api.Cell{b}, false},
		{[]api.Cell{a, b}, []api.Cell{a, c}, false},
		{[]api.Cell{a, b}, []api.Cell{a, b, c}, false},
		// All leaves of the measure are within each of these, and yet other cells are held.
		{[]api.Cell{a}, []api.Cell{a, b}, false},
		{[]api.Cell{cell(0, 1), cell(0, 2)}, []api.Cell{a}, false},
	}
	for _, r := range rows {
		x, y := holds(t, s, r.x...), holds(t, s, r.y...)
		if x.Same(y) != r.same || y.Same(x) != r.same || !x.Same(x) {
			t.Errorf("%v, %v: Same = %t, %t", r.x, r.y, x.Same(y), y.Same(x))
		}
	}
}

// P13.3: what was added and dropped is as if it had never been, of none and of some, in any order.
func TestAsIfNever(t *testing.T) {
	for name, cat := range cats() {
		s := spaceOf(t, cat)
		for _, many := range []int{0, 1, 2, api.MaxHolds - 1} {
			if many >= s.Cells() {
				continue
			}
			before := holds(t, s, first(s, many)...)
			for i := many; i < s.Cells(); i++ {
				c, _ := s.Cell(i)
				added, why := before.Add(s, c)
				if why != api.OK {
					t.Fatalf("%s: Add(%v) = %d", name, c, why)
				}
				after, why := added.Drop(s, c)
				if why != api.OK || !after.Same(before) || !before.Same(after) || added.Same(after) {
					t.Fatalf("%s: Drop(%v) = %v, %d", name, c, after.List(), why)
				}
				ask(t, cat, s, after, first(s, many))
				d, why := after.Drop(s, c)
				refused(t, "Drop of what is dropped", d, why, api.ErrNone)
			}
		}
	}
}

// P13.1: the holds that a call is asked of are as they were, also where several calls are asked of the same ones.
func TestNeverChanged(t *testing.T) {
	cat := deep()
	s := spaceOf(t, cat)
	was := []api.Cell{cell(0, 1), cell(0, 3), cell(1, 1), cell(1, 2)}
	h := holds(t, s, was...)
	low, _ := h.Add(s, cell(0, 0))
	middle, _ := h.Add(s, cell(0, 4))
	high, _ := h.Add(s, cell(1, 4))
	less, _ := h.Drop(s, cell(0, 1))
	last, _ := h.Drop(s, cell(1, 2))
	other, _ := less.Add(s, cell(1, 3))
	ask(t, cat, s, h, was)
	ask(t, cat, s, low, []api.Cell{cell(0, 0), cell(0, 1), cell(0, 3), cell(1, 1), cell(1, 2)})
	ask(t, cat, s, middle, []api.Cell{cell(0, 1), cell(0, 3), cell(0, 4), cell(1, 1), cell(1, 2)})
	ask(t, cat, s, high, []api.Cell{cell(0, 1), cell(0, 3), cell(1, 1), cell(1, 2), cell(1, 4)})
	ask(t, cat, s, less, []api.Cell{cell(0, 3), cell(1, 1), cell(1, 2)})
	ask(t, cat, s, last, []api.Cell{cell(0, 1), cell(0, 3), cell(1, 1)})
	ask(t, cat, s, other, []api.Cell{cell(0, 3), cell(1, 1), cell(1, 2), cell(1, 3)})
}

// P13.1: of holds of every size all that branch off by one Add or one Drop stay what they are, and so do the holds.
func TestBranches(t *testing.T) {
	cat := catOf(4, []int{-1, 0, 0, 1, 1})
	s := spaceOf(t, cat)
	for many := range api.MaxHolds {
		was := first(s, many)
		h := holds(t, s, was...)
		var off []hold.Holds
		var wants [][]api.Cell
		for i := range s.Cells() {
			c, _ := s.Cell(i)
			turn := add
			if i < many {
				turn = drop
			}
			next, want := turn(t, s, h, slices.Clone(was), c)
			off, wants = append(off, next), append(wants, want)
		}
		ask(t, cat, s, h, was)
		for i, x := range off {
			ask(t, cat, s, x, wants[i])
		}
	}
}

// Rule 4: what is written into a list that was told, or appended to it, is seen by no later answer.
func TestOwnMemory(t *testing.T) {
	cat := deep()
	s := spaceOf(t, cat)
	was := []api.Cell{cell(0, 1), cell(0, 3), cell(1, 1)}
	h := holds(t, s, was...)
	less, _ := h.Drop(s, cell(1, 1))
	for _, l := range [][]api.Cell{h.List(), less.List()} {
		_ = append(l, cell(9))
		_ = append(l[:1], cell(8))
		for i := range l {
			l[i] = cell(7, 7)
		}
	}
	ask(t, cat, s, h, was)
	ask(t, cat, s, less, was[:2])
}

// P13.1 to P13.5: many Adds and Drops, right ones and wrong ones, against a list of indexes.
func TestWalks(t *testing.T) {
	for name, cat := range cats() {
		t.Run(name, func(t *testing.T) {
			s := spaceOf(t, cat)
			r := rand.New(rand.NewSource(5))
			var h hold.Holds
			var want []api.Cell
			for step := range 400 {
				c, _ := s.Cell(r.Intn(s.Cells()))
				// It goes up to the limit, then down to none, and so on.
				if up := step/60%2 == 0; r.Intn(4) == 0 != up {
					h, want = add(t, s, h, want, c)
				} else {
					h, want = drop(t, s, h, want, c)
				}
				ask(t, cat, s, h, want)
			}
		})
	}
}

// add adds c to holds and to their list, or asks whether it is refused.
func add(t *testing.T, s *coord.Space, h hold.Holds, list []api.Cell, c api.Cell) (hold.Holds, []api.Cell) {
	t.Helper()
	next, why := h.Add(s, c)
	switch {
	case slices.Contains(list, c):
		refused(t, "Add", next, why, api.ErrTwice)
	case len(list) == api.MaxHolds:
		refused(t, "Add", next, why, api.ErrFull)
	case why != api.OK:
		t.Fatalf("Add(%v) = %d", c, why)
	default:
		list = append(list, c)
		slices.SortFunc(list, func(a, b api.Cell) int { return s.Index(a) - s.Index(b) })
		return next, list
	}
	return h, list
}

// drop drops c of holds and of their list, or asks whether it is refused.
func drop(t *testing.T, s *coord.Space, h hold.Holds, list []api.Cell, c api.Cell) (hold.Holds, []api.Cell) {
	t.Helper()
	next, why := h.Drop(s, c)
	at := slices.Index(list, c)
	switch {
	case at < 0:
		refused(t, "Drop", next, why, api.ErrNone)
	case why != api.OK:
		t.Fatalf("Drop(%v) = %d", c, why)
	default:
		return next, slices.Delete(list, at, at+1)
	}
	return h, list
}

// P13.2: as many cells and leaves as there may be.
func TestLimits(t *testing.T) {
	pairs := make([]int, 32)
	for i := range 16 {
		pairs[2*i], pairs[2*i+1] = -1, 2*i
	}
	cat := catOf(4, pairs, pairs)
	s := spaceOf(t, cat)
	if s.Cells() != api.MaxCells || s.Leaves() != api.MaxLeaves {
		t.Fatal("Cells, Leaves", s.Cells(), s.Leaves())
	}
	var l []api.Cell
	for i := range api.MaxHolds {
		c, _ := s.Cell(i * (s.Cells() - 1) / (api.MaxHolds - 1))
		l = append(l, c)
	}
	ask(t, cat, s, holds(t, s, l...), l)
}

// P6: a nil space, one that coord.New did not make, and one of a catalogue that dims.New did not make have no cell that can be.
func TestNothing(t *testing.T) {
	right := spaceOf(t, deep())
	h := holds(t, right, cell(0, 0), cell(1, 3))
	empty, _ := coord.New(&dims.Dims{})
	for name, s := range map[string]*coord.Space{"nil": nil, "zero": {}, "empty": empty} {
		want := api.ErrRange
		if s == nil {
			want = api.ErrNil
		}
		for _, x := range []hold.Holds{{}, h} {
			for _, c := range append(wrong(deep()), cell(0), cell(0, 1), cell(1, 3)) {
				a, why := x.Add(s, c)
				refused(t, name+": Add", a, why, want)
				d, why := x.Drop(s, c)
				refused(t, name+": Drop", d, why, want)
				if x.Within(s, c) {
					t.Errorf("%s: Within of %v", name, c)
				}
			}
			if x.Region(s).Many() != 0 {
				t.Errorf("%s: Region", name)
			}
		}
	}
	ask(t, deep(), right, h, []api.Cell{cell(0, 0), cell(1, 3)})
}

// P6: holds of another space, of which nothing more is promised, make no call panic.
func TestOtherSpace(t *testing.T) {
	wide, narrow := spaceOf(t, cats()["four"]), spaceOf(t, deep())
	h := holds(t, wide, cell(1, 2, 6, 0, 2), cell(0, 1, 1), cell(0, 0, 6))
	for _, c := range append(wrong(deep()), first(narrow, narrow.Cells())...) {
		if more, why := h.Add(narrow, c); why == api.OK {
			more.List()
			more.Drop(narrow, c)
			more.Region(narrow)
			more.Region(wide)
			more.Within(wide, c)
		}
		h.Drop(narrow, c)
		h.Within(narrow, c)
	}
}
