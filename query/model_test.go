package query_test

import (
	"math/big"
	"math/rand"
	"slices"
	"testing"

	"moiety/api"
	"moiety/cube"
)

func node(name string, up int) api.Node { return api.Node{Name: name, Up: up} }

// cats are of one to four dimensions, of one tree and of several, with members ahead of those above them.
func cats() map[string]api.Cat {
	one := api.Dim{Name: "one", Nodes: []api.Node{node("a", -1)}}
	place := api.Dim{Name: "place", Nodes: []api.Node{node("all", -1), node("a", 0), node("b", 0), node("c", 1), node("d", 1)}}
	trees := api.Dim{Name: "trees", Nodes: []api.Node{node("p", 5), node("q", -1), node("r", 5), node("s", 4), node("t", -1), node("u", -1), node("v", 4)}}
	chain := api.Dim{Name: "chain", Nodes: []api.Node{node("f", -1), node("e", 0), node("d", 1), node("c", 2), node("b", 3), node("a", 4)}}
	return map[string]api.Cat{
		"one":   {Dims: []api.Dim{one}, Meas: []string{"m"}, Leaves: 1024, Scens: 4},
		"place": {Dims: []api.Dim{place}, Meas: []string{"m", "n"}, Leaves: 1024, Scens: 4},
		"two":   {Dims: []api.Dim{trees, place}, Meas: []string{"m"}, Leaves: 1024, Scens: 4},
		"three": {Dims: []api.Dim{chain, trees, one}, Meas: []string{"m", "n", "k"}, Leaves: 1024, Scens: 4},
		"four":  {Dims: []api.Dim{one, place, chain, trees}, Meas: []string{"m"}, Leaves: 1024, Scens: 4},
	}
}

// leaf is a leaf of a cube, and its value.
type leaf struct {
	cell api.Cell
	n    int64
}

// model is a scenario of a cube as nothing but a list of leaves, by their codes.
type model struct {
	cat    api.Cat
	leaves []leaf
}

// modelOf is the leaves of a catalogue, all 0.
func modelOf(cat api.Cat) *model {
	m := &model{cat: cat}
	var ends [][]int
	for _, d := range cat.Dims {
		var l []int
		for _, i := range ordered(d.Nodes, -1) {
			if len(kids(d, i)) == 0 {
				l = append(l, i)
			}
		}
		ends = append(ends, l)
	}
	var from func(c api.Cell, k int)
	from = func(c api.Cell, k int) {
		if k == len(ends) {
			m.leaves = append(m.leaves, leaf{cell: c})
			return
		}
		for _, i := range ends[k] {
			c.At[k] = i
			from(c, k+1)
		}
	}
	for i := range cat.Meas {
		from(api.Cell{Meas: i}, 0)
	}
	return m
}

// ordered is the members below one, behind each one at once those below it.
func ordered(l []api.Node, up int) []int {
	var places []int
	for i, n := range l {
		if n.Up == up {
			places = append(append(places, i), ordered(l, i)...)
		}
	}
	return places
}

// kids is the members just below one, rising.
func kids(d api.Dim, up int) []int {
	var l []int
	for i, n := range d.Nodes {
		if n.Up == up {
			l = append(l, i)
		}
	}
	return l
}

// below is what the chapter calls the members below a cell's one: those just below it, or that leaf.
func below(d api.Dim, i int) []int {
	if l := kids(d, i); len(l) > 0 {
		return l
	}
	return []int{i}
}

// can says by the catalogue's lists alone whether c can be.
func (m *model) can(c api.Cell) bool {
	for k, i := range c.At {
		members := 1
		if k < len(m.cat.Dims) {
			members = len(m.cat.Dims[k].Nodes)
		}
		if i < 0 || i >= members {
			return false
		}
	}
	return c.Meas >= 0 && c.Meas < len(m.cat.Meas)
}

// within says whether c is within e.
func (m *model) within(c, e api.Cell) bool {
	for k, d := range m.cat.Dims {
		i := c.At[k]
		for i != -1 && i != e.At[k] {
			i = d.Nodes[i].Up
		}
		if i == -1 {
			return false
		}
	}
	return c.Meas == e.Meas
}

// under is the leaves within c.
func (m *model) under(c api.Cell) []leaf {
	return slices.DeleteFunc(slices.Clone(m.leaves), func(l leaf) bool { return !m.within(l.cell, c) })
}

// value is a cell's; false, if it does not fit.
func (m *model) value(c api.Cell) (int64, bool) {
	sum := new(big.Int)
	for _, l := range m.under(c) {
		sum.Add(sum, big.NewInt(l.n))
	}
	return sum.Int64(), sum.IsInt64()
}

// at is c with a member in a dimension.
func at(c api.Cell, dim, i int) api.Cell {
	c.At[dim] = i
	return c
}

// ask is what the chapter says of all.
func (m *model) ask(c api.Cell, dims ...int) api.Errno {
	ok := m.can(c)
	for _, k := range dims {
		ok = ok && k >= 0 && k < len(m.cat.Dims)
	}
	if !ok {
		return api.ErrRange
	}
	return api.OK
}

func (m *model) table(c api.Cell, a, b int) ([][]int64, api.Errno) {
	if why := m.ask(c, a, b); why != api.OK {
		return nil, why
	}
	if a == b {
		return nil, api.ErrArg
	}
	var rows [][]int64
	for _, i := range below(m.cat.Dims[a], c.At[a]) {
		var row []int64
		for _, k := range below(m.cat.Dims[b], c.At[b]) {
			n, fits := m.value(at(at(c, a, i), b, k))
			if !fits {
				return nil, api.ErrOver
			}
			row = append(row, n)
		}
		rows = append(rows, row)
	}
	return rows, api.OK
}

func (m *model) rise(c api.Cell, dim int) ([]api.Change, api.Errno) {
	if why := m.ask(c, dim); why != api.OK {
		return nil, why
	}
	var l []api.Change
	for i := c.At[dim]; i >= 0; i = m.cat.Dims[dim].Nodes[i].Up {
		x := at(c, dim, i)
		n, fits := m.value(x)
		if !fits {
			return nil, api.ErrOver
		}
		l = append(l, api.Change{Cell: x, A: n})
	}
	return l, api.OK
}

func (m *model) between(c api.Cell, low, high int64) ([]api.Change, api.Errno) {
	if why := m.ask(c); why != api.OK {
		return nil, why
	}
	var l []api.Change
	for _, x := range m.under(c) {
		if !(x.n < low) && !(x.n > high) {
			l = append(l, api.Change{Cell: x.cell, A: x.n})
		}
	}
	return l, api.OK
}

func (m *model) portion(c api.Cell, dim int) ([]uint64, api.Errno) {
	if why := m.ask(c, dim); why != api.OK {
		return nil, why
	}
	var far []*big.Int
	sum := new(big.Int)
	for _, i := range below(m.cat.Dims[dim], c.At[dim]) {
		n, fits := m.value(at(c, dim, i))
		if !fits {
			return nil, api.ErrOver
		}
		far = append(far, new(big.Int).Abs(big.NewInt(n)))
		sum.Add(sum, far[len(far)-1])
	}
	if !sum.IsUint64() {
		return nil, api.ErrOver
	}
	if sum.Sign() == 0 {
		return nil, api.ErrZero
	}
	return thousand(far, sum), api.OK
}

// thousand is 1000 by the largest remainders.
func thousand(far []*big.Int, sum *big.Int) []uint64 {
	var parts []uint64
	var rests []*big.Int
	var places []int
	left := uint64(1000)
	for i, x := range far {
		part, rest := new(big.Int).QuoRem(new(big.Int).Mul(big.NewInt(1000), x), sum, new(big.Int))
		parts, rests, places = append(parts, part.Uint64()), append(rests, rest), append(places, i)
		left -= part.Uint64()
	}
	slices.SortStableFunc(places, func(a, b int) int { return rests[b].Cmp(rests[a]) })
	for _, i := range places[:left] {
		parts[i]++
	}
	return parts
}

func newCube(t *testing.T, cat api.Cat) *cube.Cube {
	t.Helper()
	c, _, why := cube.New(cat)
	if why != api.OK {
		t.Fatal("cube", why)
	}
	return c
}

// set writes a leaf, in the cube's main and in the list; false, if the cube refuses it.
func (m *model) set(t *testing.T, c *cube.Cube, code int, n int64) bool {
	t.Helper()
	r := c.Do(api.Cmd{Kind: api.CSet, User: "ann", Scen: "main", Cell: m.leaves[code].cell, N: n})
	if r.Why == api.OK {
		m.leaves[code].n = n
	}
	if r.Why != api.OK && r.Why != api.ErrOver {
		t.Fatal("set", r.Why)
	}
	return r.Why == api.OK
}

// filled is a cube of a catalogue, and its list, whose leaves have any values, small ones mostly.
func filled(t *testing.T, cat api.Cat, rnd *rand.Rand) (*cube.Cube, *model) {
	t.Helper()
	c, m := newCube(t, cat), modelOf(cat)
	for code := range m.leaves {
		switch rnd.Intn(12) {
		case 0, 1:
		case 2:
			m.set(t, c, code, int64(rnd.Uint64()))
		default:
			m.set(t, c, code, rnd.Int63n(20)-6)
		}
	}
	return c, m
}

// cells is all cells of a catalogue, or some, if they are many.
func (m *model) cells(rnd *rand.Rand) []api.Cell {
	var l []api.Cell
	var from func(c api.Cell, k int)
	from = func(c api.Cell, k int) {
		if k == len(m.cat.Dims) {
			l = append(l, c)
			return
		}
		for i := range m.cat.Dims[k].Nodes {
			from(at(c, k, i), k+1)
		}
	}
	for i := range m.cat.Meas {
		from(api.Cell{Meas: i}, 0)
	}
	rnd.Shuffle(len(l), func(i, k int) { l[i], l[k] = l[k], l[i] })
	return l[:min(len(l), 60)]
}
