package cube_test

import (
	"cmp"
	"math"
	"math/big"
	"slices"
	"strconv"
	"testing"

	"moiety/api"
	"moiety/arena"
	"moiety/cube"
	"moiety/dims"
	"moiety/merge"
	"moiety/plan"
	"moiety/state"
)

const (
	least    = math.MinInt64
	greatest = math.MaxInt64
)

// catOf is a catalogue of so many measures, and of dimensions whose members stand below those of each list; as many leaves may have a value as there may be, and so many scenarios be there.
func catOf(scens, measures int, ups ...[]int) api.Cat {
	cat := api.Cat{Leaves: api.MaxLeaves, Scens: scens}
	for i := range measures {
		cat.Meas = append(cat.Meas, "m"+strconv.Itoa(i))
	}
	for k, l := range ups {
		d := api.Dim{Name: "d" + strconv.Itoa(k)}
		for i, up := range l {
			d.Nodes = append(d.Nodes, api.Node{Name: "n" + strconv.Itoa(i), Up: up})
		}
		cat.Dims = append(cat.Dims, d)
	}
	return cat
}

// The members of deep.
const (
	all = iota
	inA
	inB
	inC
	inD
)

// deep is two measures of all; a and b below it; c and d below a. Its leaves' codes: c 0, d 1, b 2; 3, 4, 5.
func deep(scens int) api.Cat {
	return catOf(scens, 2, []int{-1, all, all, inA, inA})
}

// cats are of one to four dimensions, of which some have members ahead of those above them, or alone below them.
func cats() map[string]api.Cat {
	tops := []int{5, -1, 5, 4, -1, -1, 4}
	return map[string]api.Cat{
		"one leaf": catOf(2, 1, []int{-1}),
		"deep":     deep(4),
		"one":      catOf(3, 4, tops),
		"two":      catOf(3, 2, []int{-1, 0, 0, 1}, []int{-1, 0, 0}),
		"three":    catOf(3, 1, tops, []int{1, 2, -1}, []int{-1, -1}),
		"four":     catOf(3, 2, []int{-1, 0, 1}, tops, []int{-1}, []int{2, 2, -1}),
	}
}

func noNames() []string {
	return []string{"", "1", "_a", "a b", "ä", "a23456789012b", "\xff", "main "}
}

func cell(measure int, at ...int) api.Cell {
	c := api.Cell{Meas: measure}
	copy(c.At[:], at)
	return c
}

// wrong are cells that can not be: by their measure, by a member, by a place of a dimension that there is not.
func wrong(cat api.Cat) []api.Cell {
	l := []api.Cell{cell(-1), cell(len(cat.Meas)), cell(math.MinInt), cell(math.MaxInt)}
	for k := range api.MaxDims {
		members := 1
		if k < len(cat.Dims) {
			members = len(cat.Dims[k].Nodes)
		}
		for _, i := range []int{-1, members, math.MinInt, math.MaxInt} {
			x := cell(0)
			x.At[k] = i
			l = append(l, x)
		}
	}
	return l
}

func bookOf(t *testing.T, cat api.Cat) *state.Book {
	t.Helper()
	d, _, why := dims.New(cat)
	if why != api.OK {
		t.Fatal("dims", why)
	}
	b, why := state.New(d, api.MaxArena)
	if why != api.OK {
		t.Fatal("state", why)
	}
	return b
}

// lists is a state as nothing but lists: the values of all leaves, all cells that are held, and the locks.
type lists struct {
	vals  []int64
	held  []api.Cell
	locks []api.Lock
}

// read is a state's lists.
func read(t *testing.T, b *state.Book, s state.State) lists {
	t.Helper()
	l := lists{held: b.Held(s), locks: s.Locks.List()}
	for code := range b.Space().Leaves() {
		leaf, _ := b.Space().Leaf(code)
		n, why := b.Value(s, leaf)
		if why != api.OK {
			t.Fatal("Value", why)
		}
		l.vals = append(l.vals, n)
	}
	return l
}

// state is one of a book with these lists, asked for once.
func (l lists) state(t *testing.T, b *state.Book) state.State {
	t.Helper()
	var vals []state.Val
	for code, n := range l.vals {
		vals = append(vals, state.Val{Code: code, N: n})
	}
	s, why := b.Write(state.State{}, vals...)
	turn := func(next state.State, e api.Errno) {
		b.Drop(s)
		s, why = next, cmp.Or(why, e)
	}
	for _, c := range l.held {
		turn(b.Hold(s, c))
	}
	for _, lock := range l.locks {
		turn(b.Lock(s, lock.Cell, lock.User))
	}
	if why != api.OK {
		t.Fatal("a state of lists", why)
	}
	return s
}

func (l lists) same(o lists) bool {
	return slices.Equal(l.vals, o.vals) && slices.Equal(l.held, o.held) && slices.Equal(l.locks, o.locks)
}

// line is a scenario as lists: its history, its parent, and its base, if it has a parent.
type line struct {
	past   []lists
	now    lists
	future []lists
	parent string
	base   lists
}

// put is what layer 18 says of Do.
func (x *line) put(l lists) {
	x.past = append(slices.Clone(x.past), x.now)
	x.past = x.past[max(0, len(x.past)-api.MaxUndo):]
	x.now, x.future = l, nil
}

func (x *line) undo() api.Errno {
	last := len(x.past) - 1
	if last < 0 {
		return api.ErrEmpty
	}
	x.future = append([]lists{x.now}, x.future...)
	x.now, x.past = x.past[last], x.past[:last]
	return api.OK
}

func (x *line) redo() api.Errno {
	if len(x.future) == 0 {
		return api.ErrEmpty
	}
	x.past = append(slices.Clone(x.past), x.now)
	x.now, x.future = x.future[0], x.future[1:]
	return api.OK
}

// model is a cube that has nothing but lists.
type model struct {
	t      *testing.T
	cat    api.Cat
	book   *state.Book
	leaves []api.Cell
	scens  map[string]*line
}

func modelOf(t *testing.T, cat api.Cat) *model {
	t.Helper()
	m := &model{t: t, cat: cat, book: bookOf(t, cat)}
	for code := range m.book.Space().Leaves() {
		leaf, _ := m.book.Space().Leaf(code)
		m.leaves = append(m.leaves, leaf)
	}
	m.scens = map[string]*line{"main": {now: lists{vals: make([]int64, len(m.leaves))}}}
	return m
}

func (m *model) names() []string {
	var l []string
	for name := range m.scens {
		l = append(l, name)
	}
	slices.Sort(l)
	return l
}

// can says by the catalogue's lists alone whether c can be.
func (m *model) can(c api.Cell) bool {
	for k, i := range c.At {
		members := 1
		if k < len(m.cat.Dims) {
			members = len(m.cat.Dims[k].Nodes)
		}
		if i < 0 || i >= members {
			return false
		}
	}
	return c.Meas >= 0 && c.Meas < len(m.cat.Meas)
}

// within says by the catalogue's lists alone whether c is within e.
func (m *model) within(c, e api.Cell) bool {
	for k, d := range m.cat.Dims {
		i := c.At[k]
		for i != -1 && i != e.At[k] {
			i = d.Nodes[i].Up
		}
		if i == -1 {
			return false
		}
	}
	return c.Meas == e.Meas
}

// value is a cell's, by the values of all leaves.
func (m *model) value(l lists, c api.Cell) (int64, api.Errno) {
	if !m.can(c) {
		return 0, api.ErrRange
	}
	sum := new(big.Int)
	for code, leaf := range m.leaves {
		if m.within(leaf, c) {
			sum.Add(sum, big.NewInt(l.vals[code]))
		}
	}
	if !sum.IsInt64() {
		return 0, api.ErrOver
	}
	return sum.Int64(), api.OK
}

// free is the codes of the leaves within a cell that are free for a user.
func (m *model) free(l lists, c api.Cell, user string) []int {
	var codes []int
	for code, leaf := range m.leaves {
		held := slices.ContainsFunc(l.held, func(h api.Cell) bool { return m.within(leaf, h) })
		locked := slices.ContainsFunc(l.locks, func(k api.Lock) bool { return k.User != user && m.within(leaf, k.Cell) })
		if m.within(leaf, c) && !held && !locked {
			codes = append(codes, code)
		}
	}
	return codes
}

// base is that of a and b; nil, if they have none.
func (m *model) base(a, b string) *lists {
	if x := m.scens[b]; x != nil && x.parent != "" && x.parent == a {
		return &x.base
	}
	if x := m.scens[a]; x != nil && x.parent != "" && x.parent == b {
		return &x.base
	}
	return nil
}

// do is what a command must be answered by, in the words of the chapters 22 and 21.
func (m *model) do(x api.Cmd) api.Reply {
	m.t.Helper()
	if x.Kind < api.CSet || x.Kind > api.CTop {
		return api.Reply{Why: api.ErrArg}
	}
	if x.Kind == api.CScens {
		return api.Reply{Names: m.names()}
	}
	if m.scens[x.Scen] == nil || (x.Kind == api.CDiff || x.Kind == api.CMerge) && m.scens[x.Other] == nil {
		return api.Reply{Why: api.ErrNone}
	}
	if x.Kind > api.CMerge {
		return m.tell(x)
	}
	if x.Kind == api.CMerge {
		return m.merge(x)
	}
	return api.Reply{Why: m.change(x)}
}

func (m *model) change(x api.Cmd) api.Errno {
	m.t.Helper()
	one := m.scens[x.Scen]
	switch x.Kind {
	case api.CUndo:
		return one.undo()
	case api.CRedo:
		return one.redo()
	case api.CBranch:
		switch {
		case slices.Contains(noNames(), x.Other):
			return api.ErrName
		case m.scens[x.Other] != nil:
			return api.ErrTwice
		case len(m.scens) == m.cat.Scens:
			return api.ErrFull
		}
		m.scens[x.Other] = &line{now: one.now, parent: x.Scen, base: one.now}
		return api.OK
	case api.CDrop:
		if x.Scen == "main" {
			return api.ErrUsed
		}
		delete(m.scens, x.Scen)
		for _, o := range m.scens {
			if o.parent == x.Scen {
				o.parent, o.base = "", lists{}
			}
		}
		return api.OK
	}
	return m.turn(x)
}

// turn is what the layers 15 and 17 say of a state with these lists, in a book of its own.
func (m *model) turn(x api.Cmd) api.Errno {
	m.t.Helper()
	one, b := m.scens[x.Scen], m.book
	s := one.now.state(m.t, b)
	defer b.Drop(s)
	next, why := state.State{}, api.OK
	switch x.Kind {
	case api.CSet:
		next, why = plan.Set(b, s, plan.Write{User: x.User, Cell: x.Cell, N: x.N, How: x.How, Meas: x.Meas}, m.cat.Leaves)
	case api.CHold:
		next, why = b.Hold(s, x.Cell)
	case api.CRelease:
		next, why = b.Release(s, x.Cell)
	case api.CLock:
		next, why = b.Lock(s, x.Cell, x.User)
	case api.CUnlock:
		next, why = b.Unlock(s, x.Cell, x.User)
	}
	if why != api.OK {
		return why
	}
	l := read(m.t, b, next)
	b.Drop(next)
	if x.Kind == api.CSet {
		m.askSet(x, one.now, l)
	}
	one.put(l)
	return api.OK
}

// askSet asks what P2 says of a cell that was written.
func (m *model) askSet(x api.Cmd, was, now lists) {
	m.t.Helper()
	if n, why := m.value(now, x.Cell); why != api.OK || n != x.N {
		m.t.Fatalf("the cell is %d, %d; want %d", n, why, x.N)
	}
	free := m.free(was, x.Cell, x.User)
	for code, n := range now.vals {
		if n != was.vals[code] && !slices.Contains(free, code) {
			m.t.Fatalf("the leaf %d is not free, and is %d; want %d", code, n, was.vals[code])
		}
	}
}

// merge is what layer 20 says of states with these lists, in a book of their own.
func (m *model) merge(x api.Cmd) api.Reply {
	m.t.Helper()
	gives, takes, base := m.scens[x.Scen], m.scens[x.Other], m.base(x.Scen, x.Other)
	if base == nil {
		return api.Reply{Why: api.ErrBase}
	}
	b := m.book
	three := merge.Merging{Base: base.state(m.t, b), Ours: takes.now.state(m.t, b), From: gives.now.state(m.t, b), User: x.User, How: x.How, Most: m.cat.Leaves}
	next, clashes, why := merge.Merge(b, three)
	if why == api.OK {
		then := gives.now
		takes.put(read(m.t, b, next))
		*base = then
	}
	for _, s := range []state.State{next, three.Base, three.Ours, three.From} {
		b.Drop(s)
	}
	return api.Reply{Why: why, Clashes: clashes}
}

// tell is what a command that only asks must be answered by, of lists alone.
func (m *model) tell(x api.Cmd) api.Reply {
	m.t.Helper()
	var r api.Reply
	now := m.scens[x.Scen].now
	switch x.Kind {
	case api.CGet:
		r.N, r.Why = m.value(now, x.Cell)
	case api.CFree:
		if !m.can(x.Cell) {
			return api.Reply{Why: api.ErrRange}
		}
		r.N = int64(len(m.free(now, x.Cell, x.User)))
	case api.CDiff:
		for code, leaf := range m.leaves {
			if a, b := now.vals[code], m.scens[x.Other].now.vals[code]; a != b {
				r.Rows = append(r.Rows, api.Change{Cell: leaf, A: a, B: b})
			}
		}
	case api.CHolds:
		for _, c := range now.held {
			r.Rows = append(r.Rows, api.Change{Cell: c})
		}
	case api.CLocks:
		r.Locks = now.locks
	case api.CSlice:
		return m.slice(now, x.Cell, x.Meas)
	case api.CTop:
		return m.top(now, x.Cell, x.N)
	}
	return r
}

func (m *model) slice(l lists, c api.Cell, dim int) api.Reply {
	if !m.can(c) || dim < 0 || dim >= len(m.cat.Dims) {
		return api.Reply{Why: api.ErrRange}
	}
	var r api.Reply
	for i, n := range m.cat.Dims[dim].Nodes {
		if n.Up != c.At[dim] {
			continue
		}
		below := c
		below.At[dim] = i
		v, why := m.value(l, below)
		if why != api.OK {
			return api.Reply{Why: why}
		}
		r.Rows = append(r.Rows, api.Change{Cell: below, A: v})
	}
	return r
}

func (m *model) top(l lists, c api.Cell, n int64) api.Reply {
	if !m.can(c) {
		return api.Reply{Why: api.ErrRange}
	}
	if n < 0 {
		return api.Reply{Why: api.ErrArg}
	}
	var r api.Reply
	for code, leaf := range m.leaves {
		if m.within(leaf, c) {
			r.Rows = append(r.Rows, api.Change{Cell: leaf, A: l.vals[code]})
		}
	}
	slices.SortStableFunc(r.Rows, func(a, b api.Change) int { return cmp.Compare(b.A, a.A) })
	r.Rows = r.Rows[:min(n, int64(len(r.Rows)))]
	return r
}

// sameReply tells whether two replies are alike; a list that is nil and an empty one are.
func sameReply(a, b api.Reply) bool {
	return a.Why == b.Why && a.N == b.N && slices.Equal(a.Names, b.Names) && slices.Equal(a.Rows, b.Rows) && slices.Equal(a.Locks, b.Locks) && slices.Equal(a.Clashes, b.Clashes)
}

// pair is a cube, and what it must be. Each command is done to both, and then all is asked.
type pair struct {
	t *testing.T
	c *cube.Cube
	m *model
}

func pairOf(t *testing.T, cat api.Cat) pair {
	t.Helper()
	c, at, why := cube.New(cat)
	if c == nil || at != 0 || why != api.OK {
		t.Fatalf("New = %v, %d, %d", c, at, why)
	}
	p := pair{t, c, modelOf(t, cat)}
	p.ask()
	return p
}

// do does a command, whose reply must be as the model says, and asks everything behind it.
func (p pair) do(x api.Cmd) api.Reply {
	p.t.Helper()
	was := p.arena()
	want := p.m.do(x)
	r := p.c.Do(x)
	if !sameReply(r, want) {
		p.t.Fatalf("Do %+v = %+v; want %+v", x, r, want)
	}
	if (r.Why != api.OK || !cube.Changes(x.Kind)) && !slices.Equal(p.arena(), was) {
		p.t.Fatalf("Do %+v = %d: the arena is not as it was", x, r.Why)
	}
	p.ask()
	return r
}

// must does commands that must be answered without an error; Scen is main, and User ann, if they are left out.
func (p pair) must(l ...api.Cmd) {
	p.t.Helper()
	for _, x := range l {
		x = full(x)
		if r := p.do(x); r.Why != api.OK {
			p.t.Fatalf("Do %+v = %d", x, r.Why)
		}
	}
}

// full is a command of main, by ann, if these are left out.
func full(x api.Cmd) api.Cmd {
	x.Scen, x.User = cmp.Or(x.Scen, "main"), cmp.Or(x.User, "ann")
	return x
}

// place is a node of an arena, and how often it is asked for.
type place struct {
	node arena.Node
	refs int
}

// arena is all that can be asked of the first nodes of the cube's arena: no test that asks has more at a time.
func (p pair) arena() []place {
	a := p.c.Graph().Book().View().Pages().Arena()
	l := []place{{refs: a.Used()}}
	for id := 1; id <= 400; id++ {
		n, _ := a.At(id)
		l = append(l, place{n, a.Refs(id)})
	}
	return l
}

// ask asks all that can be asked of the scenarios, and of the sums of their cells.
func (p pair) ask() {
	p.t.Helper()
	g := p.c.Graph()
	names := p.m.names()
	if l := g.Names(); !slices.Equal(l, names) {
		p.t.Fatalf("Names = %v; want %v", l, names)
	}
	alike := func(s state.State, l lists) bool { return read(p.t, g.Book(), s).same(l) }
	for _, name := range names {
		x, h := p.m.scens[name], g.History(name)
		if !slices.EqualFunc(h.Past(), x.past, alike) || !alike(h.Now(), x.now) || !slices.EqualFunc(h.Future(), x.future, alike) {
			p.t.Fatalf("%s is not as it must be: %d, %d; want %v", name, h.Depth(), h.Ahead(), x)
		}
		if g.Parent(name) != x.parent {
			p.t.Fatalf("Parent %s = %q; want %q", name, g.Parent(name), x.parent)
		}
		if s, there := g.Base(x.parent, name); there != (x.parent != "") || there && !alike(s, x.base) {
			p.t.Fatalf("Base of %s = %v, %v", name, s, there)
		}
		p.askRoll(name, x.now)
	}
	if r := p.c.Roll("none"); r != nil {
		p.t.Fatal("Roll of none", r)
	}
}

// askRoll asks whether the sums of a scenario's cells are those of its leaves' values.
func (p pair) askRoll(name string, l lists) {
	p.t.Helper()
	sums := p.c.Roll(name)
	full := 0
	for code, n := range l.vals {
		if v, why := sums.Leaf(code); v != n || why != api.OK {
			p.t.Fatalf("Roll %s: the leaf %d is %d, %d; want %d", name, code, v, why, n)
		}
		if n != 0 {
			full++
		}
	}
	space := p.m.book.Space()
	for i := range space.Cells() {
		c, _ := space.Cell(i)
		n, why := p.m.value(l, c)
		if v, e := sums.Value(c); v != n || e != why {
			p.t.Fatalf("Roll %s: %v is %d, %d; want %d, %d", name, c, v, e, n, why)
		}
	}
	if sums.Full() != full {
		p.t.Fatalf("Roll %s: Full = %d; want %d", name, sums.Full(), full)
	}
}

// answers is the replies to all that can be asked of a scenario.
func (p pair) answers(name string) []api.Reply {
	p.t.Helper()
	l := []api.Reply{p.c.Do(api.Cmd{Kind: api.CHolds, Scen: name}), p.c.Do(api.Cmd{Kind: api.CLocks, Scen: name})}
	space := p.m.book.Space()
	for i := range space.Cells() {
		c, _ := space.Cell(i)
		l = append(l, p.c.Do(api.Cmd{Kind: api.CGet, Scen: name, Cell: c}))
		for _, user := range []string{"ann", "bob", ""} {
			l = append(l, p.c.Do(api.Cmd{Kind: api.CFree, Scen: name, Cell: c, User: user}))
		}
		for dim := range p.m.cat.Dims {
			l = append(l, p.c.Do(api.Cmd{Kind: api.CSlice, Scen: name, Cell: c, Meas: dim}))
		}
		l = append(l, p.c.Do(api.Cmd{Kind: api.CTop, Scen: name, Cell: c, N: greatest}))
	}
	for _, r := range l {
		if r.Why != api.OK {
			p.t.Fatal("answers", r)
		}
	}
	return l
}
