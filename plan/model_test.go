package plan_test

import (
	"math"
	"math/big"
	"slices"
	"strconv"
	"testing"

	"moiety/api"
	"moiety/arena"
	"moiety/dims"
	"moiety/plan"
	"moiety/state"
)

const (
	least    = math.MinInt64
	greatest = math.MaxInt64
)

// catOf is a catalogue of so many measures, and of dimensions whose members stand below those of each list.
func catOf(measures int, ups ...[]int) api.Cat {
	cat := api.Cat{Leaves: 1, Scens: 1}
	for i := range measures {
		cat.Meas = append(cat.Meas, "m"+strconv.Itoa(i))
	}
	for k, l := range ups {
		d := api.Dim{Name: "d" + strconv.Itoa(k)}
		for i, up := range l {
			d.Nodes = append(d.Nodes, api.Node{Name: "n" + strconv.Itoa(i), Up: up})
		}
		cat.Dims = append(cat.Dims, d)
	}
	return cat
}

// The members of deep, and of flat, whose leaves are at 1 and on.
const (
	all = iota
	inA
	inB
	inC
	inD
)

// deep is two measures of all; a and b below it; c and d below a. Its leaves' codes: c 0, d 1, b 2; 3, 4, 5.
func deep() api.Cat {
	return catOf(2, []int{-1, all, all, inA, inA})
}

// flat is all, and so many leaves below it.
func flat(measures, leaves int) api.Cat {
	return catOf(measures, append([]int{-1}, make([]int, leaves)...))
}

// cats are of one to four dimensions, of which some have members ahead of those above them, or alone below them.
func cats() map[string]api.Cat {
	tops := []int{5, -1, 5, 4, -1, -1, 4}
	return map[string]api.Cat{
		"one leaf": catOf(1, []int{-1}),
		"deep":     deep(),
		"one":      catOf(4, tops),
		"two":      catOf(2, []int{-1, 0, 0, 1}, []int{-1, 0, 0}),
		"three":    catOf(1, tops, []int{1, 2, -1}, []int{-1, -1}),
		"four":     catOf(2, []int{-1, 0, 1}, tops, []int{-1}, []int{2, 2, -1}),
	}
}

func users() []string { return []string{"ann", "bob", "Cy_3"} }
func noNames() []string {
	return []string{"", "1", "_a", "a b", "ä", "a23456789012b", "\xff"}
}

// noWays are numbers of no way to spread, and noMeas are numbers that are no measures' places.
func noWays() []int { return []int{-1, 3, 4, math.MinInt, math.MaxInt} }
func noMeas(cat api.Cat) []int {
	return []int{-1, len(cat.Meas), math.MinInt, math.MaxInt}
}

func cell(measure int, at ...int) api.Cell {
	c := api.Cell{Meas: measure}
	copy(c.At[:], at)
	return c
}

// wrong are cells that can not be: by their measure, by a member, by a place of a dimension that there is not.
func wrong(cat api.Cat) []api.Cell {
	l := []api.Cell{cell(-1), cell(len(cat.Meas)), cell(math.MinInt), cell(math.MaxInt)}
	for k := range api.MaxDims {
		members := 1
		if k < len(cat.Dims) {
			members = len(cat.Dims[k].Nodes)
		}
		for _, i := range []int{-1, members, math.MinInt, math.MaxInt} {
			x := cell(0)
			x.At[k] = i
			l = append(l, x)
		}
	}
	return l
}

func val(code int, n int64) state.Val { return state.Val{Code: code, N: n} }

func bookOf(t *testing.T, cat api.Cat, room int) *state.Book {
	t.Helper()
	d, _, why := dims.New(cat)
	if why != api.OK {
		t.Fatal("dims", why)
	}
	b, why := state.New(d, room)
	if why != api.OK {
		t.Fatal("state", why)
	}
	return b
}

// got is the state of a call that must be answered without an error.
func got(t *testing.T, s state.State, why api.Errno) state.State {
	t.Helper()
	if why != api.OK {
		t.Fatalf("error %d", why)
	}
	return s
}

// stateOf is one with these values, from the code 0 on.
func stateOf(t *testing.T, b *state.Book, values ...int64) state.State {
	t.Helper()
	var l []state.Val
	for code, n := range values {
		l = append(l, val(code, n))
	}
	s, why := b.Write(state.State{}, l...)
	return got(t, s, why)
}

// held and locked are states made of s by calls that must be right; s itself is let go.
func held(t *testing.T, b *state.Book, s state.State, l ...api.Cell) state.State {
	t.Helper()
	for _, c := range l {
		x, why := b.Hold(s, c)
		b.Drop(s)
		s = got(t, x, why)
	}
	return s
}

func locked(t *testing.T, b *state.Book, s state.State, user string, l ...api.Cell) state.State {
	t.Helper()
	for _, c := range l {
		x, why := b.Lock(s, c, user)
		b.Drop(s)
		s = got(t, x, why)
	}
	return s
}

// valuesOf is those of all leaves of a state.
func valuesOf(t *testing.T, b *state.Book, s state.State) []int64 {
	t.Helper()
	var l []int64
	for code := range b.Space().Leaves() {
		leaf, _ := b.Space().Leaf(code)
		n, why := b.Value(s, leaf)
		if why != api.OK {
			t.Fatal("Value", why)
		}
		l = append(l, n)
	}
	return l
}

// place is a node of an arena, and how often it is asked for.
type place struct {
	node arena.Node
	refs int
}

// arenaOf is all that can be asked of a book's arena, of its first nodes: no test that asks has more at a time.
func arenaOf(b *state.Book) []place {
	a := b.View().Pages().Arena()
	l := []place{{refs: a.Used()}}
	for id := 1; id <= min(a.Cap(), 200); id++ {
		n, _ := a.At(id)
		l = append(l, place{n, a.Refs(id)})
	}
	return l
}

func used(b *state.Book) int {
	return b.View().Pages().Arena().Used()
}

// model is a state as lists: of values, of all cells that are held, and of the locks.
type model struct {
	cat    api.Cat
	leaves []api.Cell
	vals   []int64
	held   []api.Cell
	locks  []api.Lock
}

// modelOf reads a state once: what it must be from then on is told by the lists alone.
func modelOf(t *testing.T, cat api.Cat, b *state.Book, s state.State) model {
	t.Helper()
	m := model{cat: cat, vals: valuesOf(t, b, s), held: b.Held(s), locks: s.Locks.List()}
	for code := range b.Space().Leaves() {
		leaf, _ := b.Space().Leaf(code)
		m.leaves = append(m.leaves, leaf)
	}
	return m
}

// ask asks whether the state is as the lists say.
func (m model) ask(t *testing.T, b *state.Book, s state.State) {
	t.Helper()
	if l := valuesOf(t, b, s); !slices.Equal(l, m.vals) {
		t.Fatalf("values %v; want %v", l, m.vals)
	}
	if l := b.Held(s); !slices.Equal(l, m.held) {
		t.Fatalf("Held = %v; want %v", l, m.held)
	}
	if l := s.Locks.List(); !slices.Equal(l, m.locks) {
		t.Fatalf("Locks = %v; want %v", l, m.locks)
	}
}

// can says by the catalogue's lists alone whether c can be.
func (m model) can(c api.Cell) bool {
	for k, i := range c.At {
		members := 1
		if k < len(m.cat.Dims) {
			members = len(m.cat.Dims[k].Nodes)
		}
		if i < 0 || i >= members {
			return false
		}
	}
	return c.Meas >= 0 && c.Meas < len(m.cat.Meas)
}

// within says by the catalogue's lists alone whether c is within e.
func (m model) within(c, e api.Cell) bool {
	for k, d := range m.cat.Dims {
		i := c.At[k]
		for i != -1 && i != e.At[k] {
			i = d.Nodes[i].Up
		}
		if i == -1 {
			return false
		}
	}
	return c.Meas == e.Meas
}

func (m model) isHeld(c api.Cell) bool {
	return slices.ContainsFunc(m.held, func(h api.Cell) bool { return m.within(c, h) })
}

func (m model) isForeign(c api.Cell, user string) bool {
	return slices.ContainsFunc(m.locks, func(l api.Lock) bool { return l.User != user && m.within(c, l.Cell) })
}

// sum is a cell's value, whatever its size.
func (m model) sum(c api.Cell) *big.Int {
	sum := new(big.Int)
	for code, leaf := range m.leaves {
		if m.within(leaf, c) {
			sum.Add(sum, big.NewInt(m.vals[code]))
		}
	}
	return sum
}

// free is the codes of the leaves within a cell that are free for a user.
func (m model) free(c api.Cell, user string) []int {
	var codes []int
	for code, leaf := range m.leaves {
		if m.within(leaf, c) && !m.isHeld(leaf) && !m.isForeign(leaf, user) {
			codes = append(codes, code)
		}
	}
	return codes
}

func (m model) right(how, measure int) bool {
	return how == api.Equal || how == api.Prop || how == api.Weight && measure >= 0 && measure < len(m.cat.Meas)
}

// weight is that of a leaf, by a way that is right.
func (m model) weight(code, how, measure int) *big.Int {
	if how == api.Equal {
		return big.NewInt(1)
	}
	leaf := m.leaves[code]
	if how == api.Weight {
		leaf.Meas = measure
	}
	return new(big.Int).Abs(big.NewInt(m.vals[slices.Index(m.leaves, leaf)]))
}

// plan is what Plan must tell, in the words of the chapters 17, 16 and 2.
func (m model) plan(w plan.Write) ([]state.Val, api.Errno) {
	if !slices.Contains(users(), w.User) {
		return nil, api.ErrName
	}
	if !m.can(w.Cell) {
		return nil, api.ErrRange
	}
	if !m.right(w.How, w.Meas) {
		return nil, api.ErrArg
	}
	sum := m.sum(w.Cell)
	codes := m.free(w.Cell, w.User)
	switch {
	case !sum.IsInt64():
		return nil, api.ErrOver
	case m.isHeld(w.Cell):
		return nil, api.ErrHeld
	case m.isForeign(w.Cell, w.User):
		return nil, api.ErrLocked
	case len(codes) == 0:
		return nil, api.ErrFree
	case sum.Int64() == w.N:
		return nil, api.OK
	}
	return m.spread(codes, sum.Sub(big.NewInt(w.N), sum), w.How, w.Meas)
}

// spread is the values of the leaves, when all together change by so much.
func (m model) spread(codes []int, by *big.Int, how, measure int) ([]state.Val, api.Errno) {
	var weights []*big.Int
	for _, code := range codes {
		weights = append(weights, m.weight(code, how, measure))
	}
	sum := total(weights)
	if !sum.IsUint64() {
		return nil, api.ErrOver
	}
	if sum.Sign() == 0 {
		return nil, api.ErrZero
	}
	var l []state.Val
	for i, part := range parts(new(big.Int).Abs(by), weights) {
		if by.Sign() < 0 {
			part.Neg(part)
		}
		n := part.Add(part, big.NewInt(m.vals[codes[i]]))
		if !n.IsInt64() {
			return nil, api.ErrOver
		}
		l = append(l, val(codes[i], n.Int64()))
	}
	return l, api.OK
}

func total(l []*big.Int) *big.Int {
	sum := new(big.Int)
	for _, n := range l {
		sum.Add(sum, n)
	}
	return sum
}

// parts is those of a whole by the largest remainders.
func parts(whole *big.Int, weights []*big.Int) []*big.Int {
	sum := total(weights)
	var l, rest []*big.Int
	var order []int
	for i, w := range weights {
		q, r := new(big.Int).QuoRem(new(big.Int).Mul(whole, w), sum, new(big.Int))
		l, rest, order = append(l, q), append(rest, r), append(order, i)
	}
	slices.SortStableFunc(order, func(i, j int) int { return rest[j].Cmp(rest[i]) })
	left := new(big.Int).Sub(whole, total(l))
	for i := range int(left.Int64()) {
		l[order[i]].Add(l[order[i]], big.NewInt(1))
	}
	return l
}

// check is what Check must tell.
func (m model) check(b *state.Book, most int) api.Errno {
	for i := range b.Space().Cells() {
		if c, _ := b.Space().Cell(i); !m.sum(c).IsInt64() {
			return api.ErrOver
		}
	}
	full := 0
	for _, n := range m.vals {
		if n != 0 {
			full++
		}
	}
	if full > most {
		return api.ErrFull
	}
	return api.OK
}

// with is the model with other values.
func (m model) with(l []state.Val) model {
	m.vals = slices.Clone(m.vals)
	for _, v := range l {
		m.vals[v.Code] = v.N
	}
	return m
}

// askSet asks of a Set that was answered without an error all that follows, by the words of the chapter alone.
func (m model) askSet(t *testing.T, b *state.Book, x state.State, w plan.Write) {
	t.Helper()
	if n, why := b.Value(x, w.Cell); why != api.OK || n != w.N {
		t.Fatalf("the cell is %d, %d; want %d", n, why, w.N)
	}
	free := m.free(w.Cell, w.User)
	now := valuesOf(t, b, x)
	for code, n := range now {
		if n != m.vals[code] && !slices.Contains(free, code) {
			t.Fatalf("the leaf %d is not free, and is %d; want %d", code, n, m.vals[code])
		}
	}
	for _, c := range m.held {
		if n, why := b.Value(x, c); why == api.OK && big.NewInt(n).Cmp(m.sum(c)) != 0 {
			t.Fatalf("%v is held, and is %d; want %v", c, n, m.sum(c))
		}
	}
	m.askQuotas(t, now, free, w)
}

// askQuotas asks whether what each free leaf changes by differs from its quota by less than 1: whole times weight from part times sum by less than sum.
func (m model) askQuotas(t *testing.T, now []int64, free []int, w plan.Write) {
	t.Helper()
	whole := new(big.Int).Sub(big.NewInt(w.N), m.sum(w.Cell))
	if whole.Sign() == 0 {
		if !slices.Equal(now, m.vals) {
			t.Fatalf("values %v; want %v", now, m.vals)
		}
		return
	}
	var weights []*big.Int
	for _, code := range free {
		weights = append(weights, m.weight(code, w.How, w.Meas))
	}
	sum := total(weights)
	for i, code := range free {
		part := new(big.Int).Sub(big.NewInt(now[code]), big.NewInt(m.vals[code]))
		gap := part.Mul(part, sum)
		gap.Sub(gap, new(big.Int).Mul(whole, weights[i]))
		if gap.CmpAbs(sum) >= 0 {
			t.Fatalf("the leaf %d changes from %d to %d: too far from its quota", code, m.vals[code], now[code])
		}
	}
}
