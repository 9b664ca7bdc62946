package query_test

import (
	"math"
	"math/rand"
	"slices"
	"testing"

	"moiety/api"
	"moiety/cube"
	"moiety/query"
	"moiety/state"
)

const (
	least    = math.MinInt64
	greatest = math.MaxInt64
)

// alike holds an answer of two lists, or of an error, against the one that is wanted.
func alike[T comparable](t *testing.T, what string, l []T, why api.Errno, want []T, wantWhy api.Errno) {
	t.Helper()
	if why != wantWhy || !slices.Equal(l, want) {
		t.Errorf("%s = %v, %d; want %v, %d", what, l, why, want, wantWhy)
	}
}

// tabled holds a Table against the one that is wanted.
func tabled(t *testing.T, l [][]int64, why api.Errno, want [][]int64, wantWhy api.Errno) {
	t.Helper()
	if why != wantWhy || !slices.EqualFunc(l, want, slices.Equal[[]int64]) {
		t.Errorf("Table = %v, %d; want %v, %d", l, why, want, wantWhy)
	}
}

// asks holds all that may be asked of a cell against the list.
func (m *model) asks(t *testing.T, c *cube.Cube, cell api.Cell) {
	t.Helper()
	ends := []int{-1, 0, 1, 2, 3, 4, math.MinInt, math.MaxInt}
	for _, a := range ends {
		for _, b := range ends {
			l, why := query.Table(c, "main", cell, a, b)
			want, wantWhy := m.table(cell, a, b)
			tabled(t, l, why, want, wantWhy)
		}
		l, why := query.Rise(c, "main", cell, a)
		want, wantWhy := m.rise(cell, a)
		alike(t, "Rise", l, why, want, wantWhy)
		p, why := query.Portion(c, "main", cell, a)
		parts, wantWhy := m.portion(cell, a)
		alike(t, "Portion", p, why, parts, wantWhy)
	}
	for _, low := range []int64{least, -5, 0, 1, 7, greatest} {
		for _, high := range []int64{least, -6, -5, 0, 1, 9, greatest} {
			l, why := query.Between(c, "main", cell, low, high)
			want, wantWhy := m.between(cell, low, high)
			alike(t, "Between", l, why, want, wantWhy)
		}
	}
}

// P32.1 to P32.3: of all catalogues, with any values, of cells that are leaves and that are not, and of dimensions that there are and are not.
func TestAll(t *testing.T) {
	for _, cat := range cats() {
		for seed := range int64(5) {
			rnd := rand.New(rand.NewSource(seed))
			c, m := filled(t, cat, rnd)
			for _, cell := range m.cells(rnd) {
				m.asks(t, c, cell)
			}
		}
	}
}

// P32.1 to P32.3: the chapter's example, and others by hand.
func TestByHand(t *testing.T) {
	cat := cats()["place"] // all; a and b below it; c and d below a
	c, m := newCube(t, cat), modelOf(cat)
	on := func(measure, i int) api.Cell { return api.Cell{Meas: measure, At: [4]int{i}} }
	for code, n := range []int64{4, 0, 3, 10, -20, 30} { // c, d, b
		m.set(t, c, code, n)
	}
	p, why := query.Portion(c, "main", on(0, 0), 0)
	alike(t, "Portion", p, why, []uint64{571, 429}, api.OK)
	p, why = query.Portion(c, "main", on(0, 1), 0)
	alike(t, "Portion", p, why, []uint64{1000, 0}, api.OK)
	p, why = query.Portion(c, "main", on(1, 1), 0)
	alike(t, "Portion below 0", p, why, []uint64{333, 667}, api.OK)
	p, why = query.Portion(c, "main", on(1, 4), 0)
	alike(t, "Portion of a leaf", p, why, []uint64{1000}, api.OK)
	p, why = query.Portion(c, "main", on(0, 4), 0)
	alike(t, "Portion of a leaf that is 0", p, why, nil, api.ErrZero)
	l, why := query.Rise(c, "main", on(0, 1), 0)
	alike(t, "Rise", l, why, []api.Change{{Cell: on(0, 1), A: 4}, {Cell: on(0, 0), A: 7}}, api.OK)
	l, why = query.Rise(c, "main", on(1, 4), 0)
	alike(t, "Rise", l, why, []api.Change{{Cell: on(1, 4), A: -20}, {Cell: on(1, 1), A: -10}, {Cell: on(1, 0), A: 20}}, api.OK)
	l, why = query.Rise(c, "main", on(1, 0), 0)
	alike(t, "Rise of one below none", l, why, []api.Change{{Cell: on(1, 0), A: 20}}, api.OK)
	l, why = query.Between(c, "main", on(1, 0), -20, 29)
	alike(t, "Between", l, why, []api.Change{{Cell: on(1, 3), A: 10}, {Cell: on(1, 4), A: -20}}, api.OK)
}

// P32.1: the rows are the first dimension's, the values in them the second one's.
func TestTableByHand(t *testing.T) {
	place := api.Dim{Name: "place", Nodes: []api.Node{node("all", -1), node("a", 0), node("b", 0), node("c", 0)}}
	when := api.Dim{Name: "when", Nodes: []api.Node{node("q1", 2), node("q2", 2), node("year", -1), node("later", -1)}}
	cat := api.Cat{Dims: []api.Dim{place, when}, Meas: []string{"m"}, Leaves: 9, Scens: 1}
	c, m := newCube(t, cat), modelOf(cat)
	for code := range m.leaves {
		m.set(t, c, code, int64(code+1)) // a: q1 1, q2 2, later 3; b: 4 5 6; c: 7 8 9
	}
	on := func(i, k int) api.Cell { return api.Cell{At: [4]int{i, k}} }
	for _, x := range []struct {
		cell api.Cell
		a, b int
		want [][]int64
	}{
		{on(0, 2), 0, 1, [][]int64{{1, 2}, {4, 5}, {7, 8}}},
		{on(0, 2), 1, 0, [][]int64{{1, 4, 7}, {2, 5, 8}}},
		{on(0, 3), 0, 1, [][]int64{{3}, {6}, {9}}},
		{on(0, 3), 1, 0, [][]int64{{3, 6, 9}}},
		{on(2, 2), 0, 1, [][]int64{{4, 5}}},
		{on(2, 2), 1, 0, [][]int64{{4}, {5}}},
		{on(3, 0), 0, 1, [][]int64{{7}}},
		{on(0, 1), 1, 0, [][]int64{{2, 5, 8}}},
	} {
		l, why := query.Table(c, "main", x.cell, x.a, x.b)
		tabled(t, l, why, x.want, api.OK)
	}
}

// P32.2: Between of low above high, of both ends of the numbers, of none, of all.
func TestBetweenEnds(t *testing.T) {
	cat := cats()["place"]
	c, m := newCube(t, cat), modelOf(cat)
	for code, n := range []int64{greatest, least, 0, 1, -1} {
		m.set(t, c, code, n)
	}
	all := func(codes ...int) []api.Change {
		var l []api.Change
		for _, code := range codes {
			l = append(l, api.Change{Cell: m.leaves[code].cell, A: m.leaves[code].n})
		}
		return l
	}
	for _, x := range []struct {
		low, high int64
		want      []api.Change
	}{
		{least, greatest, all(0, 1, 2)}, {greatest, greatest, all(0)}, {least, least, all(1)}, {least, 0, all(1, 2)}, {0, greatest, all(0, 2)}, {0, 0, all(2)},
		{least + 1, greatest - 1, all(2)}, {1, greatest - 1, nil}, {least + 1, -1, nil}, {1, 0, nil}, {1, -1, nil}, {greatest, least, nil}, {greatest, greatest - 1, nil},
	} {
		l, why := query.Between(c, "main", api.Cell{}, x.low, x.high)
		alike(t, "Between", l, why, x.want, api.OK)
	}
	for i, x := range m.leaves {
		l, why := query.Between(c, "main", x.cell, x.n, x.n)
		alike(t, "Between of a leaf", l, why, all(i), api.OK)
		l, why = query.Between(c, "main", x.cell, greatest, least)
		alike(t, "Between of a leaf", l, why, nil, api.OK)
	}
}

// P32.3: values that are all 0, below 0, and at both ends of the numbers.
func TestPortionEnds(t *testing.T) {
	d := api.Dim{Name: "d", Nodes: []api.Node{node("all", -1), node("a", 0), node("b", 0), node("c", 0), node("d", 0)}}
	cat := api.Cat{Dims: []api.Dim{d}, Meas: []string{"m"}, Leaves: 9, Scens: 1}
	for _, x := range []struct {
		values []int64
		want   []uint64
		why    api.Errno
	}{
		{[]int64{0, 0, 0, 0}, nil, api.ErrZero},
		{[]int64{0, 0, -1, 0}, []uint64{0, 0, 1000, 0}, api.OK},
		{[]int64{-1, 1, -1, 1}, []uint64{250, 250, 250, 250}, api.OK},
		{[]int64{-1, 1, -1, 0}, []uint64{334, 333, 333, 0}, api.OK},
		{[]int64{1, -2, 1000000, 7}, []uint64{0, 0, 1000, 0}, api.OK},
		{[]int64{least, 0, 0, 0}, []uint64{1000, 0, 0, 0}, api.OK},
		{[]int64{greatest, least, 0, 0}, []uint64{500, 500, 0, 0}, api.OK},
		{[]int64{greatest, least, 1, 0}, nil, api.ErrOver},
		{[]int64{greatest, -greatest, 1, 0}, []uint64{500, 500, 0, 0}, api.OK},
		{[]int64{greatest, -greatest, 1, 1}, nil, api.ErrOver},
		{[]int64{greatest, least, greatest, least}, nil, api.ErrOver},
		{[]int64{1, 2, 3, 4}, []uint64{100, 200, 300, 400}, api.OK},
	} {
		c, m := newCube(t, cat), modelOf(cat)
		for code, n := range x.values {
			if !m.set(t, c, code, n) {
				t.Fatal("a value that can not be", x.values)
			}
		}
		p, why := query.Portion(c, "main", api.Cell{}, 0)
		alike(t, "Portion", p, why, x.want, x.why)
		for code, leaf := range m.leaves {
			p, why := query.Portion(c, "main", leaf.cell, 0)
			if x.values[code] == 0 {
				alike(t, "Portion of a leaf", p, why, nil, api.ErrZero)
			} else {
				alike(t, "Portion of a leaf", p, why, []uint64{1000}, api.OK)
			}
		}
	}
}

// wrong are cells that can not be.
func wrong(cat api.Cat) []api.Cell {
	l := []api.Cell{{Meas: -1}, {Meas: len(cat.Meas)}, {Meas: math.MinInt}, {Meas: math.MaxInt}}
	for k := range api.MaxDims {
		members := 1
		if k < len(cat.Dims) {
			members = len(cat.Dims[k].Nodes)
		}
		for _, i := range []int{-1, members, math.MinInt, math.MaxInt} {
			l = append(l, at(api.Cell{}, k, i))
		}
	}
	return l
}

// fails holds that all calls have the error, and tell nothing beside it.
func fails(t *testing.T, c *cube.Cube, scen string, cell api.Cell, a, b int, want api.Errno) {
	t.Helper()
	table, why := query.Table(c, scen, cell, a, b)
	tabled(t, table, why, nil, want)
	l, why := query.Rise(c, scen, cell, a)
	alike(t, "Rise", l, why, nil, want)
	p, why := query.Portion(c, scen, cell, a)
	alike(t, "Portion", p, why, nil, want)
}

// P32.1 to P32.3: the errors of all, several at once, the one named first ahead.
func TestErrors(t *testing.T) {
	for _, cat := range cats() {
		rnd := rand.New(rand.NewSource(4))
		c, m := filled(t, cat, rnd)
		c.Do(api.Cmd{Kind: api.CBranch, Scen: "main", Other: "gone"})
		c.Do(api.Cmd{Kind: api.CDrop, Scen: "gone"})
		can := api.Cell{}
		for _, cell := range append(wrong(cat), can) {
			for _, a := range []int{-1, 0, 1, len(cat.Dims), math.MinInt, math.MaxInt} {
				for _, scen := range []string{"", "gone", "Main", "main ", "x y", "\xff", "main"} {
					fails(t, nil, scen, cell, a, a, api.ErrNil)
					l, why := query.Between(nil, scen, cell, 1, 0)
					alike(t, "Between of nil", l, why, nil, api.ErrNil)
					if scen != "main" {
						fails(t, c, scen, cell, a, a, api.ErrNone)
						l, why = query.Between(c, scen, cell, 1, 0)
						alike(t, "Between", l, why, nil, api.ErrNone)
					}
				}
				if cell != can || a < 0 || a >= len(cat.Dims) {
					fails(t, c, "main", cell, a, a, api.ErrRange)
					l, why := query.Table(c, "main", cell, 0, a)
					tabled(t, l, why, nil, api.ErrRange)
				}
			}
			if cell != can {
				l, why := query.Between(c, "main", cell, least, greatest)
				alike(t, "Between", l, why, nil, api.ErrRange)
			}
			m.asks(t, c, cell)
		}
		for k := range cat.Dims {
			l, why := query.Table(c, "main", can, k, k)
			tabled(t, l, why, nil, api.ErrArg)
		}
	}
}

// P6: a cube that New did not make has no scenarios.
func TestNotMade(t *testing.T) {
	fails(t, new(cube.Cube), "main", api.Cell{}, 0, 1, api.ErrNone)
}

// P32.4 to P32.6: a Table's values, and those of Between of all numbers, are the cell's value together; Portions are 1000 together.
func TestTogether(t *testing.T) {
	for _, cat := range cats() {
		rnd := rand.New(rand.NewSource(5))
		c, m := filled(t, cat, rnd)
		for _, cell := range m.cells(rnd) {
			n := c.Do(api.Cmd{Kind: api.CGet, Scen: "main", Cell: cell}).N
			for a := range cat.Dims {
				for b := range cat.Dims {
					sum := int64(0)
					l, why := query.Table(c, "main", cell, a, b)
					for _, row := range l {
						for _, x := range row {
							sum += x // beyond 64 bits it comes round again
						}
					}
					if why == api.OK && sum != n {
						t.Error("a Table's values are", sum, "want", n)
					}
				}
				p, why := query.Portion(c, "main", cell, a)
				parts := uint64(0)
				for _, x := range p {
					parts += x
				}
				if why == api.OK && parts != 1000 {
					t.Error("Portions are", parts)
				}
			}
			l, _ := query.Between(c, "main", cell, least, greatest)
			sum := int64(0)
			for _, x := range l {
				sum += x.A
			}
			if sum != n || len(l) != len(m.under(cell)) {
				t.Error("Between of all numbers", sum, n, len(l))
			}
		}
	}
}

// P32.1 to P32.3: values are those of the scenario as it is now, not of another one, and not as it was.
func TestNow(t *testing.T) {
	cat := cats()["two"]
	c, m := filled(t, cat, rand.New(rand.NewSource(6)))
	was := *m
	was.leaves = slices.Clone(m.leaves)
	for _, x := range []api.Cmd{{Kind: api.CBranch, Scen: "main", Other: "p"}, {Kind: api.CSet, User: "ann", Scen: "p", Cell: m.leaves[2].cell, N: 7777}} {
		if r := c.Do(x); r.Why != api.OK {
			t.Fatal(x, r)
		}
	}
	for _, cell := range m.cells(rand.New(rand.NewSource(1))) {
		m.asks(t, c, cell)
	}
	m.set(t, c, 3, m.leaves[3].n+1)
	m.asks(t, c, api.Cell{})
	m.asks(t, c, m.leaves[3].cell)
	c.Do(api.Cmd{Kind: api.CUndo, Scen: "main"})
	was.asks(t, c, api.Cell{})
	was.asks(t, c, m.leaves[3].cell)
	l, why := query.Between(c, "p", api.Cell{}, 7777, 7777)
	alike(t, "Between of p", l, why, nil, api.OK)
	l, why = query.Rise(c, "p", m.leaves[2].cell, 0)
	if why != api.OK || l[0].A != 7777 {
		t.Error("Rise of p", l, why)
	}
}

// Rule 1: of scenarios that are changed beside the cube, so that a sum does not fit, it is told that it does not; of such as do, what they are.
func TestBeside(t *testing.T) {
	cat := cats()["place"]
	c, m := newCube(t, cat), modelOf(cat)
	book := c.Graph().Book()
	s, _ := c.Graph().State("main")
	next, why := book.Write(s, state.Val{Code: 0, N: greatest}, state.Val{Code: 1, N: 1}, state.Val{Code: 2, N: 5})
	if why != api.OK || c.Graph().Put("main", next) != api.OK {
		t.Fatal("put", why)
	}
	m.leaves[0].n, m.leaves[1].n, m.leaves[2].n = greatest, 1, 5
	for _, cell := range m.cells(rand.New(rand.NewSource(2))) {
		m.asks(t, c, cell)
	}
	for seed := range int64(20) {
		rnd := rand.New(rand.NewSource(seed))
		two := cats()["two"]
		c, m := newCube(t, two), modelOf(two)
		book := c.Graph().Book()
		s, _ := c.Graph().State("main")
		for code := range m.leaves {
			m.leaves[code].n = []int64{0, 1, -1, greatest, least}[rnd.Intn(3+int(seed)%3)]
			s, _ = book.Write(s, state.Val{Code: code, N: m.leaves[code].n})
		}
		c.Graph().Put("main", s)
		for _, cell := range m.cells(rnd) {
			m.asks(t, c, cell)
		}
	}
}

// Rule 4: what is answered is one's own, and no two rows share memory; nothing is changed by what is asked.
func TestOnesOwn(t *testing.T) {
	cat := cats()["two"]
	c, m := filled(t, cat, rand.New(rand.NewSource(7)))
	cell := m.leaves[0].cell
	for range 3 {
		for _, x := range []api.Cell{cell, {}, at(cell, 0, 5), at(at(cell, 0, 4), 1, 0)} {
			l, why := query.Table(c, "main", x, 0, 1)
			want, wantWhy := m.table(x, 0, 1)
			for i := range l {
				_ = append(l[i], 99)
			}
			for i := range l {
				tabled(t, l, why, want, wantWhy)
				clear(l[i])
				clear(want[i])
			}
			clear(l)
			rise, _ := query.Rise(c, "main", x, 0)
			clear(rise)
			between, _ := query.Between(c, "main", x, least, greatest)
			clear(between)
			p, _ := query.Portion(c, "main", x, 1)
			clear(p)
			m.asks(t, c, x)
		}
	}
}
