package coord_test

import (
	"math"
	"slices"
	"strconv"
	"testing"

	"moiety/api"
	"moiety/coord"
	"moiety/dims"
)

// dim is a dimension of members m0, m1 and so on, below those of ups.
func dim(name string, ups ...int) api.Dim {
	d := api.Dim{Name: name}
	for i, up := range ups {
		d.Nodes = append(d.Nodes, api.Node{Name: "m" + strconv.Itoa(i), Up: up})
	}
	return d
}

// pairs is as many tops as are asked for, each ahead of a leaf below it.
func pairs(name string, many int) api.Dim {
	var ups []int
	for i := range many {
		ups = append(ups, -1, 2*i)
	}
	return dim(name, ups...)
}

func cat(measures int, l ...api.Dim) api.Cat {
	return api.Cat{Dims: l, Meas: []string{"m", "n", "o", "p"}[:measures], Leaves: 1, Scens: 1}
}

// example is the chapter's: all, and a and b below it.
func example() api.Cat {
	return cat(1, dim("x", -1, 0, 0))
}

// tops is a tree with three members at its top, some of them behind those below them: in order 1, 4, 3, 6, 5, 0, 2.
func tops(name string) api.Dim {
	return dim(name, 5, -1, 5, 4, -1, -1, 4)
}

// cats are of one dimension and of more, of one measure and of more, and at both limits.
func cats() map[string]api.Cat {
	return map[string]api.Cat{
		"one member":    cat(1, dim("x", -1)),
		"the example":   example(),
		"one dimension": cat(4, tops("x")),
		"two":           cat(2, dim("x", -1, 0, 0, 1), dim("y", -1, 0, 0)),
		"three":         cat(1, tops("x"), dim("y", 1, 2, -1), dim("z", -1, -1)),
		"four":          cat(3, dim("w", -1, 0, 0, 1), tops("x"), dim("y", -1), dim("z", 2, 2, -1)),
		"the limits":    cat(4, pairs("x", 16), pairs("y", 16)),
	}
}

func space(t *testing.T, c api.Cat) *coord.Space {
	t.Helper()
	d, _, why := dims.New(c)
	if why != api.OK {
		t.Fatalf("dims.New(%v): %d", c, why)
	}
	s, why := coord.New(d)
	if s == nil || why != api.OK || s.Dims() != d {
		t.Fatalf("New = %v, %d", s, why)
	}
	return s
}

func cell(measure int, at ...int) api.Cell {
	c := api.Cell{Meas: measure}
	copy(c.At[:], at)
	return c
}

// The model answers by the catalogue's lists alone, in the words of the chapters.

func above(d api.Dim, i int) []int {
	l := []int{i}
	for ; d.Nodes[i].Up != -1; l = append(l, i) {
		i = d.Nodes[i].Up
	}
	return l
}

// leaves are sorted by the ways down to them.
func leaves(d api.Dim) []int {
	down := func(i int) []int {
		l := above(d, i)
		slices.Reverse(l)
		return l
	}
	var l []int
	for i := range d.Nodes {
		if !slices.ContainsFunc(d.Nodes, func(n api.Node) bool { return n.Up == i }) {
			l = append(l, i)
		}
	}
	slices.SortFunc(l, func(a, b int) int { return slices.Compare(down(a), down(b)) })
	return l
}

func places(d api.Dim) []int {
	var l []int
	for i := range d.Nodes {
		l = append(l, i)
	}
	return l
}

// listed is all cells with members of those that a dimension is asked for, the last dimension's going fastest.
func listed(c api.Cat, of func(d api.Dim) []int) []api.Cell {
	var l []api.Cell
	for m := range c.Meas {
		l = append(l, cell(m))
	}
	for k, d := range c.Dims {
		var longer []api.Cell
		for _, x := range l {
			for _, i := range of(d) {
				x.At[k] = i
				longer = append(longer, x)
			}
		}
		l = longer
	}
	return l
}

func within(cat api.Cat, c, e api.Cell) bool {
	for k, d := range cat.Dims {
		if !slices.Contains(above(d, c.At[k]), e.At[k]) {
			return false
		}
	}
	return c.Meas == e.Meas
}

// wrong are cells that can not be.
func wrong(c api.Cat) []api.Cell {
	l := []api.Cell{cell(-1), cell(len(c.Meas)), cell(math.MinInt), cell(math.MaxInt)}
	for k := range api.MaxDims {
		members := 1
		if k < len(c.Dims) {
			members = len(c.Dims[k].Nodes)
		}
		for _, i := range []int{-1, members, math.MinInt, math.MaxInt} {
			x := cell(0)
			x.At[k] = i
			l = append(l, x)
		}
	}
	return l
}

// off are numbers that none of many has.
func off(many int) []int {
	return []int{-1, -2, math.MinInt, many, many + 1, math.MaxInt}
}

// The chapter's example, and one of two dimensions, written out.
func TestWrittenOut(t *testing.T) {
	s := space(t, example())
	if s.Code(cell(0, 2)) != 1 || s.Index(cell(0, 2)) != 2 || !slices.Equal(s.Under(cell(0, 0)), []int{0, 1}) || !slices.Equal(s.Over(1), []api.Cell{cell(0, 0), cell(0, 2)}) {
		t.Error("the example")
	}
	s = space(t, cat(2, dim("x", 1, -1, 1), tops("y")))
	if s.Leaves() != 2*2*5 || s.Cells() != 2*3*7 {
		t.Error("Leaves, Cells", s.Leaves(), s.Cells())
	}
	// Leaves by their ranks: of x 0, 2; of y 1, 3, 6, 0, 2.
	if c := cell(1, 2, 6); s.Code(c) != (1*2+1)*5+2 || s.Index(c) != (1*3+2)*7+6 {
		t.Error("Code, Index", s.Code(c), s.Index(c))
	}
	if l := s.Under(cell(0, 2, 4)); !slices.Equal(l, []int{6, 7}) {
		t.Error("Under", l)
	}
	if l := s.Over(3); !slices.Equal(l, []api.Cell{cell(0, 0, 0), cell(0, 0, 5), cell(0, 1, 0), cell(0, 1, 5)}) {
		t.Error("Over", l)
	}
}

// P7.1, P7.2, P7.5: every code and every index, there and back.
func TestNumbers(t *testing.T) {
	for name, c := range cats() {
		s := space(t, c)
		l, all := listed(c, leaves), listed(c, places)
		if s.Leaves() != len(l) || s.Cells() != len(all) {
			t.Errorf("%s: Leaves %d, Cells %d; want %d, %d", name, s.Leaves(), s.Cells(), len(l), len(all))
		}
		for code, x := range l {
			if got, there := s.Leaf(code); s.Code(x) != code || !there || got != x {
				t.Errorf("%s: Code(%v) = %d; Leaf(%d) = %v, %t", name, x, s.Code(x), code, got, there)
			}
		}
		for i, x := range all {
			if got, there := s.Cell(i); s.Index(x) != i || !there || got != x {
				t.Errorf("%s: Index(%v) = %d; Cell(%d) = %v, %t", name, x, s.Index(x), i, got, there)
			}
			if !slices.Contains(l, x) && s.Code(x) != -1 {
				t.Errorf("%s: Code(%v), which is no leaf, = %d", name, x, s.Code(x))
			}
		}
	}
}

// P7.1: the limits of cells and of leaves.
func TestLimits(t *testing.T) {
	if s := space(t, cats()["the limits"]); s.Cells() != api.MaxCells || s.Leaves() != api.MaxLeaves {
		t.Error("Cells, Leaves", s.Cells(), s.Leaves())
	}
	if s := space(t, cat(1, dim("x", -1))); s.Cells() != 1 || s.Leaves() != 1 {
		t.Error("Cells, Leaves", s.Cells(), s.Leaves())
	}
}

// P7.2, P7.3, P7.4: codes and indexes that there are not.
func TestNumbersOff(t *testing.T) {
	for name, cat := range cats() {
		s := space(t, cat)
		for _, code := range off(s.Leaves()) {
			if c, there := s.Leaf(code); there || c != (api.Cell{}) {
				t.Errorf("%s: Leaf(%d) = %v, %t", name, code, c, there)
			}
			if s.Inside(cell(0), code) || len(s.Over(code)) != 0 || s.Swap(code, 0) != -1 {
				t.Errorf("%s: Inside, Over, Swap of %d", name, code)
			}
		}
		for _, i := range off(s.Cells()) {
			if c, there := s.Cell(i); there || c != (api.Cell{}) {
				t.Errorf("%s: Cell(%d) = %v, %t", name, i, c, there)
			}
		}
	}
}

// P7.2, P7.3: cells that can not be.
func TestCellsWrong(t *testing.T) {
	for name, cat := range cats() {
		s := space(t, cat)
		for _, c := range wrong(cat) {
			if s.Code(c) != -1 || s.Index(c) != -1 || len(s.Under(c)) != 0 {
				t.Errorf("%s: Code, Index, Under of %v: %d, %d, %v", name, c, s.Code(c), s.Index(c), s.Under(c))
			}
			for code := range s.Leaves() {
				if s.Inside(c, code) {
					t.Errorf("%s: Inside(%v, %d)", name, c, code)
				}
			}
			if right := cell(0); s.Within(c, right) || s.Within(right, c) || s.Within(c, c) {
				t.Errorf("%s: Within of %v", name, c)
			}
		}
	}
}

// P7.3, P7.4: the leaves within each cell, the cells that each leaf is within, and of each two whether one is within the other one.
func TestWithin(t *testing.T) {
	for name, cat := range cats() {
		if name == "the limits" {
			continue // too many pairs of cells; TestUnderOver has them
		}
		s := space(t, cat)
		l, all := listed(cat, leaves), listed(cat, places)
		over := make([][]api.Cell, len(l))
		for _, e := range all {
			var under []int
			for code, x := range l {
				in := within(cat, x, e)
				if in {
					under = append(under, code)
					over[code] = append(over[code], e)
				}
				if s.Inside(e, code) != in {
					t.Errorf("%s: Inside(%v, %d) = %t", name, e, code, !in)
				}
			}
			if got := s.Under(e); !slices.Equal(got, under) {
				t.Errorf("%s: Under(%v) = %v; want %v", name, e, got, under)
			}
			for _, c := range all {
				if s.Within(c, e) != within(cat, c, e) {
					t.Errorf("%s: Within(%v, %v) = %t", name, c, e, s.Within(c, e))
				}
			}
		}
		for code, want := range over {
			if got := s.Over(code); !slices.Equal(got, want) {
				t.Errorf("%s: Over(%d) = %v; want %v", name, code, got, want)
			}
		}
	}
}

// P7.3: a leaf, one in the middle, and one at the top.
func TestUnderLevels(t *testing.T) {
	s := space(t, cat(2, dim("x", -1, 0, 1, 1, 0)))
	rows := []struct {
		c    api.Cell
		want []int
	}{
		{cell(1, 3), []int{4}},
		{cell(1, 1), []int{3, 4}},
		{cell(1, 0), []int{3, 4, 5}},
		{cell(0, 0), []int{0, 1, 2}},
	}
	for _, r := range rows {
		if got := s.Under(r.c); !slices.Equal(got, r.want) {
			t.Errorf("Under(%v) = %v; want %v", r.c, got, r.want)
		}
	}
}

// P7.3, P7.4, P7.6: a leaf is one of Under(c) just if c is one of Over of it; both rise.
func TestUnderOver(t *testing.T) {
	for name, cat := range cats() {
		s := space(t, cat)
		under := map[[2]int]int{}
		for i := range s.Cells() {
			c, _ := s.Cell(i)
			l := s.Under(c)
			if len(l) == 0 || !rises(l) {
				t.Errorf("%s: Under(%v) = %v", name, c, l)
			}
			for _, code := range l {
				under[[2]int{code, i}]++
			}
		}
		for code := range s.Leaves() {
			var l []int
			for _, c := range s.Over(code) {
				l = append(l, s.Index(c))
				if under[[2]int{code, s.Index(c)}] != 1 {
					t.Errorf("%s: %v is over %d, and the leaf not under it", name, c, code)
				}
				delete(under, [2]int{code, s.Index(c)})
			}
			if !rises(l) {
				t.Errorf("%s: Over(%d) has the indexes %v", name, code, l)
			}
		}
		for pair := range under {
			t.Errorf("%s: %d is under the cell %d, and that not over it", name, pair[0], pair[1])
		}
	}
}

func rises(l []int) bool {
	return slices.IsSorted(l) && len(slices.Compact(slices.Clone(l))) == len(l)
}

// P7.7: if c is within e, all of Under(c) are of Under(e).
func TestUnderWithin(t *testing.T) {
	for _, name := range []string{"the example", "one dimension", "two", "three"} {
		s := space(t, cats()[name])
		for i := range s.Cells() {
			c, _ := s.Cell(i)
			for k := range s.Cells() {
				e, _ := s.Cell(k)
				if !s.Within(c, e) {
					continue
				}
				wide := s.Under(e)
				for _, code := range s.Under(c) {
					if !slices.Contains(wide, code) {
						t.Errorf("%s: %v is within %v, and has %d besides", name, c, e, code)
					}
				}
			}
		}
	}
}

// P7.4: to the same measure, to another one, and to one that there is not.
func TestSwap(t *testing.T) {
	for name, cat := range cats() {
		s := space(t, cat)
		l := listed(cat, leaves)
		for code, c := range l {
			for m := range cat.Meas {
				want := c
				want.Meas = m
				if got := s.Swap(code, m); got != slices.Index(l, want) || m == c.Meas && got != code {
					t.Errorf("%s: Swap(%d, %d) = %d", name, code, m, got)
				}
			}
			for _, m := range off(len(cat.Meas)) {
				if got := s.Swap(code, m); got != -1 {
					t.Errorf("%s: Swap(%d, %d) = %d", name, code, m, got)
				}
			}
		}
	}
}

// P7.1: no catalogue.
func TestNewNil(t *testing.T) {
	if s, why := coord.New(nil); s != nil || why != api.ErrNil {
		t.Errorf("New(nil) = %v, %d", s, why)
	}
}

// P7.1 to P7.4, P6: a nil space, one that New did not make, and one of a catalogue that dims.New did not make have nothing.
func TestNothing(t *testing.T) {
	empty, why := coord.New(&dims.Dims{})
	if empty == nil || why != api.OK {
		t.Fatal("New of an empty catalogue", why)
	}
	for name, s := range map[string]*coord.Space{"nil": nil, "zero": {}, "empty": empty} {
		if name != "empty" && s.Dims() != nil || s.Leaves() != 0 || s.Cells() != 0 {
			t.Errorf("%s: Dims, Leaves, Cells", name)
		}
		for _, c := range append(wrong(example()), cell(0), cell(0, 1)) {
			if s.Code(c) != -1 || s.Index(c) != -1 || len(s.Under(c)) != 0 || s.Inside(c, 0) || s.Within(c, c) {
				t.Errorf("%s: Code, Index, Under, Inside, Within of %v", name, c)
			}
		}
		for _, i := range append(off(0), 0) {
			leaf, there := s.Leaf(i)
			c, too := s.Cell(i)
			if there || too || leaf != (api.Cell{}) || c != (api.Cell{}) || len(s.Over(i)) != 0 || s.Swap(i, i) != -1 {
				t.Errorf("%s: Leaf, Cell, Over, Swap of %d", name, i)
			}
		}
	}
}

// Rules 4 and 5: what is written into an answer, or appended to it, is seen by no later one.
func TestOwnMemory(t *testing.T) {
	s := space(t, cats()["four"])
	under, over := s.Under(cell(1)), s.Over(7)
	was, were := slices.Clone(under), slices.Clone(over)
	for i := range under {
		under[i] = -9
	}
	for i := range over {
		over[i] = cell(-9, -9)
	}
	_, _ = append(under[:0], 99), append(over[:0], cell(99))
	if !slices.Equal(s.Under(cell(1)), was) || !slices.Equal(s.Over(7), were) {
		t.Error("Under, Over behind writing into them")
	}
}
