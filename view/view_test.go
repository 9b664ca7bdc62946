package view_test

import (
	"math"
	"math/big"
	"math/rand"
	"slices"
	"strconv"
	"testing"

	"moiety/api"
	"moiety/arena"
	"moiety/coord"
	"moiety/dims"
	"moiety/pages"
	"moiety/view"
)

const (
	least    = math.MinInt64
	greatest = math.MaxInt64
)

// dim is a dimension of members m0, m1 and so on, below those of ups.
func dim(name string, ups ...int) api.Dim {
	d := api.Dim{Name: name}
	for i, up := range ups {
		d.Nodes = append(d.Nodes, api.Node{Name: "m" + strconv.Itoa(i), Up: up})
	}
	return d
}

// flat is all, and so many leaves below it.
func flat(name string, leaves int) api.Dim {
	return dim(name, append([]int{-1}, make([]int, leaves)...)...)
}

// tops is three members at the top, some of them behind those below them: its leaves by their ranks are 1, 3, 6, 0, 2.
func tops(name string) api.Dim {
	return dim(name, 5, -1, 5, 4, -1, -1, 4)
}

func cell(measure int, at ...int) api.Cell {
	c := api.Cell{Meas: measure}
	copy(c.At[:], at)
	return c
}

func newSpace(t *testing.T, measures int, l ...api.Dim) *coord.Space {
	t.Helper()
	d, _, why := dims.New(api.Cat{Dims: l, Meas: []string{"m", "n", "o", "p"}[:measures], Leaves: 1, Scens: 1})
	if why != api.OK {
		t.Fatal("dims", why)
	}
	s, why := coord.New(d)
	if why != api.OK {
		t.Fatal("coord", why)
	}
	return s
}

func newPages(t *testing.T, codes int) *pages.Pages {
	t.Helper()
	a, _ := arena.New(api.MaxArena)
	p, why := pages.New(a, codes)
	if why != api.OK {
		t.Fatal("pages", why)
	}
	return p
}

func newView(t *testing.T, measures int, l ...api.Dim) *view.View {
	t.Helper()
	s := newSpace(t, measures, l...)
	v, why := view.New(s, newPages(t, s.Leaves()))
	if v == nil || why != api.OK {
		t.Fatalf("New = %v, %d", v, why)
	}
	return v
}

// plant is the root of a tree with the entries of l, from the code 0 on.
func plant(t *testing.T, v *view.View, l []api.Entry) int {
	t.Helper()
	root := 0
	for code, e := range l {
		next, why := v.Pages().Set(root, code, e)
		if why != api.OK {
			t.Fatal("Set", why)
		}
		v.Pages().Drop(root)
		root = next
	}
	return root
}

func plantValues(t *testing.T, v *view.View, values ...int64) int {
	t.Helper()
	var l []api.Entry
	for _, n := range values {
		l = append(l, api.Entry{Val: n})
	}
	return plant(t, v, l)
}

// model answers by a list of entries, in the words of the chapter.
type model struct {
	s *coord.Space
	l []api.Entry
}

func (m model) codes(c api.Cell) []int {
	var codes []int
	for code := range m.s.Leaves() {
		if m.s.Inside(c, code) {
			codes = append(codes, code)
		}
	}
	return codes
}

func (m model) value(c api.Cell) (int64, api.Errno) {
	sum := new(big.Int)
	for _, code := range m.codes(c) {
		sum.Add(sum, big.NewInt(m.l[code].Val))
	}
	if !sum.IsInt64() {
		return 0, api.ErrOver
	}
	return sum.Int64(), api.OK
}

func (m model) slice(c api.Cell, dim int) ([]view.Row, api.Errno) {
	var rows []view.Row
	for i, n := range m.s.Dims().Cat().Dims[dim].Nodes {
		if n.Up != c.At[dim] {
			continue
		}
		below := c
		below.At[dim] = i
		value, why := m.value(below)
		if why != api.OK {
			return nil, why
		}
		rows = append(rows, view.Row{Cell: below, N: value})
	}
	return rows, api.OK
}

// top takes the greatest one that is left, over and over.
func (m model) top(c api.Cell, n int) []view.Row {
	var rows []view.Row
	for left := m.codes(c); len(left) > 0 && len(rows) < n; {
		best := 0
		for i, code := range left {
			if m.l[code].Val > m.l[left[best]].Val {
				best = i
			}
		}
		leaf, _ := m.s.Leaf(left[best])
		rows = append(rows, view.Row{Cell: leaf, N: m.l[left[best]].Val})
		left = slices.Delete(left, best, best+1)
	}
	return rows
}

func (m model) many(c api.Cell) int {
	many := 0
	for _, code := range m.codes(c) {
		if m.l[code].Val != 0 {
			many++
		}
	}
	return many
}

func (m model) over() (api.Cell, bool) {
	for i := range m.s.Cells() {
		c, _ := m.s.Cell(i)
		if _, why := m.value(c); why != api.OK {
			return c, true
		}
	}
	return api.Cell{}, false
}

// hold asks everything of a tree that the model tells.
func hold(t *testing.T, v *view.View, root int, m model) {
	t.Helper()
	for i := range m.s.Cells() {
		c, _ := m.s.Cell(i)
		want, wantWhy := m.value(c)
		if n, why := v.Value(root, c); n != want || why != wantWhy {
			t.Fatalf("Value(%v) = %d, %d; want %d, %d", c, n, why, want, wantWhy)
		}
		if n, why := v.Many(root, c); n != m.many(c) || why != api.OK {
			t.Fatalf("Many(%v) = %d, %d; want %d", c, n, why, m.many(c))
		}
		for dim := range m.s.Dims().Many() {
			holdSlice(t, v, root, m, c, dim)
		}
		for _, n := range []int{0, 1, 2, 5, m.s.Leaves(), math.MaxInt} {
			if rows, why := v.Top(root, c, n); !slices.Equal(rows, m.top(c, n)) || why != api.OK {
				t.Fatalf("Top(%v, %d) = %v, %d; want %v", c, n, rows, why, m.top(c, n))
			}
		}
	}
	want, wantOver := m.over()
	if c, over := v.Over(root); c != want || over != wantOver {
		t.Fatalf("Over = %v, %t; want %v, %t", c, over, want, wantOver)
	}
}

// holdSlice holds the rows, and that together they are what the cell is.
func holdSlice(t *testing.T, v *view.View, root int, m model, c api.Cell, dim int) {
	t.Helper()
	want, wantWhy := m.slice(c, dim)
	rows, why := v.Slice(root, c, dim)
	if !slices.Equal(rows, want) || why != wantWhy {
		t.Fatalf("Slice(%v, %d) = %v, %d; want %v, %d", c, dim, rows, why, want, wantWhy)
	}
	sum := new(big.Int)
	for _, r := range rows {
		sum.Add(sum, big.NewInt(r.N))
	}
	n, why := v.Value(root, c)
	if len(rows) > 0 && (sum.IsInt64() != (why == api.OK) || why == api.OK && sum.Int64() != n) {
		t.Fatalf("Slice(%v, %d) is %d together; Value %d, %d", c, dim, sum, n, why)
	}
}

// wrong are cells that can not be in a space.
func wrong(s *coord.Space) []api.Cell {
	cat := s.Dims().Cat()
	l := []api.Cell{cell(-1), cell(len(cat.Meas)), cell(math.MinInt), cell(math.MaxInt)}
	for k := range api.MaxDims {
		members := 1
		if k < len(cat.Dims) {
			members = len(cat.Dims[k].Nodes)
		}
		for _, i := range []int{-1, members, math.MinInt, math.MaxInt} {
			c := cell(0)
			c.At[k] = i
			l = append(l, c)
		}
	}
	return l
}

// refuse holds that nothing is told of a cell but why.
func refuse(t *testing.T, v *view.View, root int, c api.Cell, want api.Errno) {
	t.Helper()
	if n, why := v.Value(root, c); n != 0 || why != want {
		t.Errorf("Value(%v) = %d, %d; want %d", c, n, why, want)
	}
	if n, why := v.Many(root, c); n != 0 || why != want {
		t.Errorf("Many(%v) = %d, %d; want %d", c, n, why, want)
	}
	for _, n := range []int{0, 1, -1, math.MinInt, math.MaxInt} {
		if rows, why := v.Slice(root, c, n); len(rows) != 0 || why != want {
			t.Errorf("Slice(%v, %d) = %v, %d; want %d", c, n, rows, why, want)
		}
		if rows, why := v.Top(root, c, n); len(rows) != 0 || why != want {
			t.Errorf("Top(%v, %d) = %v, %d; want %d", c, n, rows, why, want)
		}
	}
}

// P11.2, P11.3: the chapter's example.
func TestExample(t *testing.T) {
	v := newView(t, 1, flat("x", 2))
	root := plantValues(t, v, 3, -1)
	if n, why := v.Value(root, cell(0, 0)); n != 2 || why != api.OK {
		t.Error("Value", n, why)
	}
	a, b := view.Row{Cell: cell(0, 1), N: 3}, view.Row{Cell: cell(0, 2), N: -1}
	if rows, why := v.Slice(root, cell(0, 0), 0); !slices.Equal(rows, []view.Row{a, b}) || why != api.OK {
		t.Error("Slice", rows, why)
	}
	if rows, why := v.Top(root, cell(0, 0), 1); !slices.Equal(rows, []view.Row{a}) || why != api.OK {
		t.Error("Top", rows, why)
	}
}

// P11.1: what there is none of, and codes one more and one less than leaves.
func TestNew(t *testing.T) {
	s := newSpace(t, 2, tops("x"), flat("y", 3))
	right := newPages(t, 30)
	if v, why := view.New(s, right); why != api.OK || v.Space() != s || v.Pages() != right {
		t.Error("New", why)
	}
	for _, codes := range []int{29, 31, 1, api.MaxLeaves} {
		if v, why := view.New(s, newPages(t, codes)); v != nil || why != api.ErrSize {
			t.Errorf("New with %d codes = %v, %d", codes, v, why)
		}
	}
	for _, p := range []*pages.Pages{right, newPages(t, 29), nil} {
		if v, why := view.New(nil, p); v != nil || why != api.ErrNil {
			t.Error("New without a space", v, why)
		}
	}
	if v, why := view.New(s, nil); v != nil || why != api.ErrNil {
		t.Error("New without pages", v, why)
	}
}

// P11.2 to P11.5: all that may be asked of trees with any entries, over catalogues of one to four dimensions.
func TestAny(t *testing.T) {
	views := map[string]*view.View{
		"one leaf": newView(t, 1, dim("x", -1)),
		"one":      newView(t, 4, tops("x")),
		"two":      newView(t, 2, dim("x", -1, 0, 0, 1), flat("y", 2)),
		"three":    newView(t, 1, tops("x"), dim("y", 1, 2, -1), dim("z", -1, -1)),
		"four":     newView(t, 2, dim("w", -1, 0, 1), tops("x"), dim("y", -1), dim("z", 2, 2, -1)),
	}
	values := []int64{0, 0, 0, 1, -1, 2, 7, 7, greatest, least, greatest/2 + 1, least / 2}
	for name, v := range views {
		t.Run(name, func(t *testing.T) {
			hold(t, v, 0, model{v.Space(), make([]api.Entry, v.Space().Leaves())})
			for seed := range 8 {
				r := rand.New(rand.NewSource(int64(seed)))
				l := make([]api.Entry, v.Space().Leaves())
				// Half of the trees have small values alone, so that all sums fit.
				kinds := []int{8, len(values)}[seed%2]
				for code := range l {
					l[code] = api.Entry{Val: values[r.Intn(kinds)], Held: r.Intn(4) == 0}
				}
				hold(t, v, plant(t, v, l), model{v.Space(), l})
			}
		})
	}
}

// P11.2: a leaf, one in the middle and one at the top, in two dimensions, written out.
func TestValueKinds(t *testing.T) {
	// Leaves of x by their ranks: m2, m3, m4; of y: m1, m2.
	v := newView(t, 2, dim("x", -1, 0, 1, 1, 0), flat("y", 2))
	root := plantValues(t, v, 1, 2, 10, 20, 100, 200, -1, -2, -10, -20, -100, -200)
	rows := []struct {
		c    api.Cell
		want int64
	}{
		{cell(0, 2, 1), 1},
		{cell(0, 3, 2), 20},
		{cell(1, 4, 2), -200},
		{cell(0, 2, 0), 3},
		{cell(0, 1, 1), 11},
		{cell(0, 1, 0), 33},
		{cell(0, 0, 2), 222},
		{cell(0, 0, 0), 333},
		{cell(1, 0, 0), -333},
		{cell(1, 1, 2), -22},
	}
	for _, r := range rows {
		if n, why := v.Value(root, r.c); n != r.want || why != api.OK {
			t.Errorf("Value(%v) = %d, %d; want %d", r.c, n, why, r.want)
		}
	}
}

// P11.2: sums at the least and the greatest number, one beyond, and those that fit though what stands in between does not.
func TestValueEdges(t *testing.T) {
	rows := []struct {
		values [4]int64
		want   int64
		why    api.Errno
	}{
		{[4]int64{greatest}, greatest, api.OK},
		{[4]int64{greatest - 1, 0, 1}, greatest, api.OK},
		{[4]int64{greatest, 1}, 0, api.ErrOver},
		{[4]int64{greatest, 1, 0, -1}, greatest, api.OK},
		{[4]int64{greatest, greatest, least, least}, -2, api.OK},
		{[4]int64{greatest, greatest, -greatest, 1}, 0, api.ErrOver},
		{[4]int64{greatest, greatest, greatest, greatest}, 0, api.ErrOver},
		{[4]int64{least}, least, api.OK},
		{[4]int64{least + 1, 0, -1}, least, api.OK},
		{[4]int64{least, 0, 0, -1}, 0, api.ErrOver},
		{[4]int64{least, -1, 1}, least, api.OK},
		{[4]int64{least, least, greatest, greatest}, -2, api.OK},
		{[4]int64{least, least, least, least}, 0, api.ErrOver},
		{[4]int64{least, greatest}, -1, api.OK},
	}
	v := newView(t, 1, flat("x", 4))
	for _, r := range rows {
		root := plantValues(t, v, r.values[:]...)
		if n, why := v.Value(root, cell(0)); n != r.want || why != r.why {
			t.Errorf("%v: Value = %d, %d; want %d, %d", r.values, n, why, r.want, r.why)
		}
		for i, want := range r.values {
			if n, why := v.Value(root, cell(0, i+1)); n != want || why != api.OK {
				t.Errorf("%v: Value of the leaf %d = %d, %d", r.values, i, n, why)
			}
		}
	}
}

// P11.2, P11.3: cells that can not be; ErrRange is ahead of ErrOver, and of ErrArg.
func TestCellsWrong(t *testing.T) {
	for _, dims := range [][]api.Dim{{flat("x", 2)}, {flat("x", 2), tops("y")}, {flat("w", 2), flat("x", 1), flat("y", 1), dim("z", -1, 0)}} {
		v := newView(t, 2, dims...)
		var values []int64
		for range v.Space().Leaves() {
			values = append(values, greatest)
		}
		root := plantValues(t, v, values...)
		for _, c := range wrong(v.Space()) {
			refuse(t, v, root, c, api.ErrRange)
			refuse(t, v, 0, c, api.ErrRange)
		}
	}
}

// P11.2: an entry that is held with the value 0 does not count, a value below 0 does.
func TestManyHeld(t *testing.T) {
	v := newView(t, 1, dim("x", -1, 0, 0, 1, 1, 1))
	root := plant(t, v, []api.Entry{{Held: true}, {Val: -1}, {}, {Val: 4, Held: true}})
	for i, want := range []int{2, 1, 1, 0, 1, 0} {
		if n, why := v.Many(root, cell(0, i)); n != want || why != api.OK {
			t.Errorf("Many of m%d = %d, %d; want %d", i, n, why, want)
		}
	}
}

// P11.2: no cell, one, and several are beyond 64 bits: the first is told, by its index.
func TestOver(t *testing.T) {
	// In x the members 1 and 2 are below 3, and 4 at the top; the leaves are 0 (below 1), 2, 4.
	v := newView(t, 2, dim("x", 1, 3, 3, -1, -1), flat("y", 2))
	rows := []struct {
		values [12]int64
		first  api.Cell
		over   bool
	}{
		{[12]int64{}, api.Cell{}, false},
		{[12]int64{0: greatest, 5: greatest, 6: greatest, 11: least}, api.Cell{}, false},
		{[12]int64{0: greatest, 3: 1}, cell(0, 3, 0), true},
		{[12]int64{0: greatest, 1: 1}, cell(0, 0, 0), true},
		{[12]int64{0: greatest, 1: 1, 2: -1}, cell(0, 0, 0), true},
		{[12]int64{4: least, 5: -1}, cell(0, 4, 0), true},
		{[12]int64{4: least, 5: -1, 1: greatest, 3: greatest}, cell(0, 3, 0), true},
		{[12]int64{6: least, 8: least}, cell(1, 3, 0), true},
		{[12]int64{7: least, 9: least, 6: greatest, 8: greatest}, cell(1, 3, 1), true},
	}
	for _, r := range rows {
		root := plantValues(t, v, r.values[:]...)
		if c, over := v.Over(root); c != r.first || over != r.over {
			t.Errorf("%v: Over = %v, %t; want %v, %t", r.values, c, over, r.first, r.over)
		}
	}
	if c, over := v.Over(0); c != (api.Cell{}) || over {
		t.Error("Over of nothing", c, over)
	}
}

// P11.3: the rows rise by members, also where their leaves' codes do not begin with those of lower places.
func TestSliceRising(t *testing.T) {
	v := newView(t, 1, tops("x"), flat("y", 2))
	root := plantValues(t, v, 1, 2, 3, 4, 5, 6, 7, 8, 9, 10)
	rows := []struct {
		c    api.Cell
		dim  int
		want []view.Row
	}{
		{cell(0, 5, 0), 0, []view.Row{{Cell: cell(0, 0, 0), N: 15}, {Cell: cell(0, 2, 0), N: 19}}},
		{cell(0, 4, 2), 0, []view.Row{{Cell: cell(0, 3, 2), N: 4}, {Cell: cell(0, 6, 2), N: 6}}},
		{cell(0, 5, 0), 1, []view.Row{{Cell: cell(0, 5, 1), N: 16}, {Cell: cell(0, 5, 2), N: 18}}},
		{cell(0, 1, 0), 0, nil},
		{cell(0, 5, 1), 1, nil},
		{cell(0, 1, 1), 0, nil},
		{cell(0, 1, 0), 1, []view.Row{{Cell: cell(0, 1, 1), N: 1}, {Cell: cell(0, 1, 2), N: 2}}},
	}
	for _, r := range rows {
		if got, why := v.Slice(root, r.c, r.dim); !slices.Equal(got, r.want) || why != api.OK {
			t.Errorf("Slice(%v, %d) = %v, %d; want %v", r.c, r.dim, got, why, r.want)
		}
	}
}

// P11.3: dimensions that there are not, though values are beyond 64 bits.
func TestSliceDims(t *testing.T) {
	for many := 1; many <= api.MaxDims; many++ {
		var l []api.Dim
		for k := range many {
			l = append(l, flat("d"+strconv.Itoa(k), 2))
		}
		v := newView(t, 1, l...)
		var values []int64
		for range v.Space().Leaves() {
			values = append(values, greatest)
		}
		root := plantValues(t, v, values...)
		for _, dim := range []int{-1, many, api.MaxDims, api.MaxDims + 1, math.MinInt, math.MaxInt} {
			if rows, why := v.Slice(root, cell(0), dim); len(rows) != 0 || why != api.ErrRange {
				t.Errorf("%d dimensions: Slice in %d = %v, %d", many, dim, rows, why)
			}
		}
	}
}

// P11.3, P11.4: one row is beyond 64 bits; all rows fit and the cell does not; a cell without rows is.
func TestSliceOver(t *testing.T) {
	// The leaves are m3, m4 below m1, and m2.
	v := newView(t, 1, dim("x", -1, 0, 0, 1, 1))
	root := plantValues(t, v, greatest, 1, -5)
	if rows, why := v.Slice(root, cell(0, 0), 0); len(rows) != 0 || why != api.ErrOver {
		t.Error("one row beyond", rows, why)
	}
	want := []view.Row{{Cell: cell(0, 3), N: greatest}, {Cell: cell(0, 4), N: 1}}
	if rows, why := v.Slice(root, cell(0, 1), 0); !slices.Equal(rows, want) || why != api.OK {
		t.Error("the cell alone beyond", rows, why)
	}
	v = newView(t, 1, dim("x", -1), flat("y", 2))
	root = plantValues(t, v, least, -1)
	if rows, why := v.Slice(root, cell(0, 0, 0), 0); len(rows) != 0 || why != api.OK {
		t.Error("no rows", rows, why)
	}
}

// P11.3, P11.5: the edges of n, alike values, and leaves whose entry is nothing.
func TestTop(t *testing.T) {
	v := newView(t, 2, tops("x"))
	// By their codes the leaves are 1, 3, 6, 0, 2; the last one's entry is nothing.
	root := plant(t, v, []api.Entry{{Val: -4}, {Val: 9}, {Held: true}, {Val: 9}, {}, {Val: least}, {Val: greatest}, {Val: -1}})
	row := func(measure, at int, n int64) view.Row { return view.Row{Cell: cell(measure, at), N: n} }
	tries := []struct {
		c    api.Cell
		want []view.Row
	}{
		{cell(0, 5), []view.Row{row(0, 0, 9), row(0, 2, 0)}},
		{cell(0, 4), []view.Row{row(0, 3, 9), row(0, 6, 0)}},
		{cell(0, 1), []view.Row{row(0, 1, -4)}},
		{cell(1, 1), []view.Row{row(1, 1, least)}},
		{cell(1, 4), []view.Row{row(1, 3, greatest), row(1, 6, -1)}},
		{cell(1, 5), []view.Row{row(1, 0, 0), row(1, 2, 0)}},
	}
	for _, r := range tries {
		for _, n := range []int{0, 1, 2, 3, 100, math.MaxInt} {
			want := r.want[:min(n, len(r.want))]
			if rows, why := v.Top(root, r.c, n); !slices.Equal(rows, want) || why != api.OK {
				t.Errorf("Top(%v, %d) = %v, %d; want %v", r.c, n, rows, why, want)
			}
		}
		for _, n := range []int{-1, -2, math.MinInt} {
			if rows, why := v.Top(root, r.c, n); len(rows) != 0 || why != api.ErrArg {
				t.Errorf("Top(%v, %d) = %v, %d", r.c, n, rows, why)
			}
		}
	}
	// Many alike ones: by their codes, whose places do not rise.
	v = newView(t, 1, dim("x", -1, 0, 0), tops("y"), dim("z", 1, -1, 1))
	rows, why := v.Top(0, cell(0, 0, 5, 1), 100)
	want := []view.Row{}
	for _, at := range [][]int{{1, 0, 0}, {1, 0, 2}, {1, 2, 0}, {1, 2, 2}, {2, 0, 0}, {2, 0, 2}, {2, 2, 0}, {2, 2, 2}} {
		want = append(want, view.Row{Cell: cell(0, at...)})
	}
	if !slices.Equal(rows, want) || why != api.OK {
		t.Errorf("Top of nothing = %v, %d; want %v", rows, why, want)
	}
}

// P11.3: a great many leaves with few values: alike ones stand by their codes, wherever the list is cut.
func TestTopAlike(t *testing.T) {
	v := newView(t, 1, flat("x", 20), flat("y", 20))
	l := make([]api.Entry, 400)
	for code := range l {
		l[code].Val = int64(code * code % 5)
	}
	root, m := plant(t, v, l), model{v.Space(), l}
	for _, c := range []api.Cell{cell(0, 0, 0), cell(0, 7, 0), cell(0, 0, 20)} {
		for _, n := range []int{1, 13, 19, 100, 399, 400} {
			if rows, why := v.Top(root, c, n); !slices.Equal(rows, m.top(c, n)) || why != api.OK {
				t.Errorf("Top(%v, %d) = %v, %d; want %v", c, n, rows, why, m.top(c, n))
			}
		}
	}
}

// P11.2, P11.3: as many leaves and cells as there may be, all of the greatest or the least value, but for two.
func TestLimits(t *testing.T) {
	pairs := make([]int, 32)
	for i := range 16 {
		pairs[2*i], pairs[2*i+1] = -1, 2*i
	}
	v := newView(t, 4, dim("x", pairs...), dim("y", pairs...))
	if s := v.Space(); s.Leaves() != api.MaxLeaves || s.Cells() != api.MaxCells {
		t.Fatal("Leaves, Cells", s.Leaves(), s.Cells())
	}
	values := make([]int64, api.MaxLeaves)
	for code := range values {
		values[code] = []int64{greatest, least}[code%2]
	}
	values[0], values[api.MaxLeaves-1] = 0, 5
	root := plantValues(t, v, values...)
	if c, over := v.Over(root); over {
		t.Error("Over", c)
	}
	if n, why := v.Value(root, cell(3, 30, 30)); n != 5 || why != api.OK {
		t.Error("Value", n, why)
	}
	if n, why := v.Many(root, cell(0, 0, 0)); n != 0 || why != api.OK {
		t.Error("Many", n, why)
	}
	v = newView(t, 1, flat("x", 31), flat("y", 31))
	values = make([]int64, 961)
	for code := range values {
		values[code] = least
	}
	root = plantValues(t, v, values...)
	if n, why := v.Value(root, cell(0, 0, 0)); n != 0 || why != api.ErrOver {
		t.Error("Value", n, why)
	}
	if rows, why := v.Top(root, cell(0, 0, 0), 962); len(rows) != 961 || why != api.OK {
		t.Error("Top", len(rows), why)
	}
	if n, why := v.Many(root, cell(0, 0, 0)); n != 961 || why != api.OK {
		t.Error("Many", n, why)
	}
}

// Rule 1: a view tells of each tree what it has, of those that are planted later too; to ask changes no node.
func TestTrees(t *testing.T) {
	v := newView(t, 2, tops("x"), flat("y", 2))
	first := make([]api.Entry, 20)
	first[3], first[19] = api.Entry{Val: 8}, api.Entry{Val: greatest, Held: true}
	a := plant(t, v, first)
	second := slices.Clone(first)
	second[18], second[3] = api.Entry{Val: 1}, api.Entry{}
	b, _ := v.Pages().Set(a, 18, second[18])
	b, _ = v.Pages().Set(b, 3, second[3])
	nodes := v.Pages().Arena()
	used, refs := nodes.Used(), nodes.Refs(a)
	for range 2 {
		hold(t, v, a, model{v.Space(), first})
		hold(t, v, b, model{v.Space(), second})
	}
	if nodes.Used() != used || nodes.Refs(a) != refs {
		t.Error("to ask changes the arena")
	}
}

// Rule 4: what is written into an answer, or appended to it, is in no later one.
func TestOwnMemory(t *testing.T) {
	v := newView(t, 1, flat("x", 5))
	root := plantValues(t, v, 3, 1, 4, 1, 5)
	m := model{v.Space(), []api.Entry{{Val: 3}, {Val: 1}, {Val: 4}, {Val: 1}, {Val: 5}}}
	rows, _ := v.Slice(root, cell(0), 0)
	top, _ := v.Top(root, cell(0), 2)
	for _, l := range [][]view.Row{rows, top} {
		l[0] = view.Row{Cell: cell(9), N: 99}
		_ = append(l, l[0], l[0])
	}
	hold(t, v, root, m)
}

// P11.1 to P11.3, P6: a nil view, and one that New did not make.
func TestNil(t *testing.T) {
	var none *view.View
	if none.Space() != nil || none.Pages() != nil {
		t.Error("Space", none.Space(), "Pages", none.Pages())
	}
	for _, root := range []int{0, 1, -1, math.MinInt, math.MaxInt} {
		for _, c := range []api.Cell{cell(0), cell(-1), cell(0, math.MaxInt)} {
			refuse(t, none, root, c, api.ErrNil)
			refuse(t, &view.View{}, root, c, api.ErrRange)
		}
		for _, v := range []*view.View{none, {}} {
			if c, over := v.Over(root); over || c != (api.Cell{}) {
				t.Error("Over", c, over)
			}
		}
	}
}

// P6: of roots that are none, that are gone, of nodes within a tree, and of trees with other codes in the same arena each call ends.
func TestWrongRoots(t *testing.T) {
	v := newView(t, 1, tops("x"), flat("y", 2))
	nodes := v.Pages().Arena()
	more, _ := pages.New(nodes, 16)
	fewer, _ := pages.New(nodes, 8)
	large, _ := more.Set(0, 15, api.Entry{Val: 1})
	small, _ := fewer.Set(0, 7, api.Entry{Val: 1})
	root := plantValues(t, v, 1, 2, 3)
	inner, _ := nodes.At(root)
	gone := plantValues(t, v, 4, 5, 6)
	if v.Pages().Drop(gone) != api.OK || nodes.Refs(gone) != 0 {
		t.Fatal("it is there still", gone)
	}
	for _, root := range []int{large, small, gone, inner.Kids[0], -1, 999, math.MinInt, math.MaxInt} {
		for i := range v.Space().Cells() {
			c, _ := v.Space().Cell(i)
			v.Value(root, c)
			v.Many(root, c)
			v.Slice(root, c, 0)
			v.Top(root, c, 3)
		}
		v.Over(root)
		refuse(t, v, root, cell(1), api.ErrRange)
	}
	// One level: the trees have eight places for five codes.
	v = newView(t, 1, tops("x"))
	beside, _ := pages.New(v.Pages().Arena(), 8)
	full, _ := beside.Set(0, 7, api.Entry{Val: 1})
	for i := range v.Space().Cells() {
		v.Value(full, cell(0, i))
		v.Many(full, cell(0, i))
		v.Top(full, cell(0, i), 9)
	}
	v.Over(full)
}
