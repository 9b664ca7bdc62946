package scen_test

import (
	"math"
	"slices"
	"strconv"
	"testing"

	"moiety/api"
	"moiety/dims"
	"moiety/merge"
	"moiety/scen"
	"moiety/state"
	"moiety/undo"
)

const (
	least    = math.MinInt64
	greatest = math.MaxInt64
)

// catOf is a catalogue of so many measures, and of dimensions whose members stand below those of each list; as many leaves may have a value as there may be, and so many scenarios be there.
func catOf(scens, measures int, ups ...[]int) api.Cat {
	cat := api.Cat{Leaves: api.MaxLeaves, Scens: scens}
	for i := range measures {
		cat.Meas = append(cat.Meas, "m"+strconv.Itoa(i))
	}
	for k, l := range ups {
		d := api.Dim{Name: "d" + strconv.Itoa(k)}
		for i, up := range l {
			d.Nodes = append(d.Nodes, api.Node{Name: "n" + strconv.Itoa(i), Up: up})
		}
		cat.Dims = append(cat.Dims, d)
	}
	return cat
}

// The members of deep.
const (
	all = iota
	inA
	inB
	inC
	inD
)

// deep is two measures of all; a and b below it; c and d below a. Its leaves' codes: c 0, d 1, b 2; 3, 4, 5.
func deep(scens int) api.Cat {
	return catOf(scens, 2, []int{-1, all, all, inA, inA})
}

// grid is 24 leaves below all, in a tree of two levels.
func grid(scens int) api.Cat {
	return catOf(scens, 1, []int{-1, 0, 0, 0}, []int{-1, -1, -1, -1, -1, -1, -1, -1})
}

func noNames() []string {
	return []string{"", "1", "_a", "a b", "ä", "a23456789012b", "\xff", "main "}
}

func cell(measure int, at ...int) api.Cell {
	c := api.Cell{Meas: measure}
	copy(c.At[:], at)
	return c
}

func val(code int, n int64) state.Val { return state.Val{Code: code, N: n} }

func dimsOf(t *testing.T, cat api.Cat) *dims.Dims {
	t.Helper()
	d, _, why := dims.New(cat)
	if why != api.OK {
		t.Fatal("dims", why)
	}
	return d
}

// got is the state of a call that must be answered without an error.
func got(t *testing.T, s state.State, why api.Errno) state.State {
	t.Helper()
	if why != api.OK {
		t.Fatalf("error %d", why)
	}
	return s
}

// lists is a state as nothing but lists: the values of all leaves, all cells that are held, and the locks.
type lists struct {
	vals  []int64
	held  []api.Cell
	locks []api.Lock
}

// read is a state's lists.
func read(t *testing.T, b *state.Book, s state.State) lists {
	t.Helper()
	l := lists{held: b.Held(s), locks: s.Locks.List()}
	for code := range b.Space().Leaves() {
		leaf, _ := b.Space().Leaf(code)
		n, why := b.Value(s, leaf)
		if why != api.OK {
			t.Fatal("Value", why)
		}
		l.vals = append(l.vals, n)
	}
	return l
}

// state is one of a book with these lists, asked for once.
func (l lists) state(t *testing.T, b *state.Book) state.State {
	t.Helper()
	var vals []state.Val
	for code, n := range l.vals {
		vals = append(vals, val(code, n))
	}
	s, why := b.Write(state.State{}, vals...)
	s = got(t, s, why)
	turn := func(next state.State, why api.Errno) {
		t.Helper()
		b.Drop(s)
		s = got(t, next, why)
	}
	for _, c := range l.held {
		turn(b.Hold(s, c))
	}
	for _, lock := range l.locks {
		turn(b.Lock(s, lock.Cell, lock.User))
	}
	return s
}

func (l lists) same(o lists) bool {
	return slices.Equal(l.vals, o.vals) && slices.Equal(l.held, o.held) && slices.Equal(l.locks, o.locks)
}

// line is a scenario as lists: its history, its parent, and its base, if it has a parent.
type line struct {
	past   []lists
	now    lists
	future []lists
	parent string
	base   lists
}

// put is what layer 18 says of Do.
func (x *line) put(l lists) {
	x.past = append(slices.Clone(x.past), x.now)
	x.past = x.past[max(0, len(x.past)-api.MaxUndo):]
	x.now, x.future = l, nil
}

// model is a graph as lists.
type model struct {
	cat   api.Cat
	scens map[string]*line
}

func (m *model) branch(from, name string, isName bool) api.Errno {
	switch {
	case m.scens[from] == nil:
		return api.ErrNone
	case !isName:
		return api.ErrName
	case m.scens[name] != nil:
		return api.ErrTwice
	case len(m.scens) == m.cat.Scens:
		return api.ErrFull
	}
	m.scens[name] = &line{now: m.scens[from].now, parent: from, base: m.scens[from].now}
	return api.OK
}

func (m *model) drop(name string) api.Errno {
	if m.scens[name] == nil {
		return api.ErrNone
	}
	if name == "main" {
		return api.ErrUsed
	}
	delete(m.scens, name)
	for _, x := range m.scens {
		if x.parent == name {
			x.parent, x.base = "", lists{}
		}
	}
	return api.OK
}

func (m *model) put(name string, l lists) api.Errno {
	x := m.scens[name]
	if x == nil {
		return api.ErrNone
	}
	x.put(l)
	return api.OK
}

func (m *model) undo(name string) api.Errno {
	x := m.scens[name]
	if x == nil {
		return api.ErrNone
	}
	last := len(x.past) - 1
	if last < 0 {
		return api.ErrEmpty
	}
	x.future = append([]lists{x.now}, x.future...)
	x.now, x.past = x.past[last], x.past[:last]
	return api.OK
}

func (m *model) redo(name string) api.Errno {
	x := m.scens[name]
	if x == nil {
		return api.ErrNone
	}
	if len(x.future) == 0 {
		return api.ErrEmpty
	}
	x.past = append(slices.Clone(x.past), x.now)
	x.now, x.future = x.future[0], x.future[1:]
	return api.OK
}

func (m *model) load(name string, x line, isName bool) api.Errno {
	switch {
	case !isName:
		return api.ErrName
	case m.scens[name] != nil && name != "main":
		return api.ErrTwice
	case m.scens[name] == nil && len(m.scens) == m.cat.Scens:
		return api.ErrFull
	}
	if x.parent == "" {
		x.base = lists{}
	}
	m.scens[name] = &x
	return api.OK
}

// base is that of a and b; nil, if they have none.
func (m *model) base(a, b string) *lists {
	if x := m.scens[b]; x != nil && x.parent != "" && x.parent == a {
		return &x.base
	}
	if x := m.scens[a]; x != nil && x.parent != "" && x.parent == b {
		return &x.base
	}
	return nil
}

// merge is what layer 20 says of states with these lists, in a book of their own.
func (m *model) merge(t *testing.T, from, into, user string, how int) ([]api.Clash, api.Errno) {
	t.Helper()
	gives, takes := m.scens[from], m.scens[into]
	if gives == nil || takes == nil {
		return nil, api.ErrNone
	}
	base := m.base(from, into)
	if base == nil {
		return nil, api.ErrBase
	}
	b, why := state.New(dimsOf(t, m.cat), api.MaxArena)
	if why != api.OK {
		t.Fatal("state", why)
	}
	x := merge.Merging{Base: base.state(t, b), Ours: takes.now.state(t, b), From: gives.now.state(t, b), User: user, How: how, Most: m.cat.Leaves}
	next, clashes, why := merge.Merge(b, x)
	if why != api.OK {
		return clashes, why
	}
	then := gives.now
	takes.put(read(t, b, next))
	for _, x := range []*lists{m.base(from, into), m.base(into, from)} {
		*x = then
	}
	return clashes, api.OK
}

// pair is a graph, and what it must be. Each call is done to both, and then all is asked.
type pair struct {
	t *testing.T
	g *scen.Graph
	m *model
}

func pairOf(t *testing.T, cat api.Cat, room int) pair {
	t.Helper()
	g, why := scen.New(dimsOf(t, cat), room)
	if g == nil || why != api.OK {
		t.Fatalf("New = %v, %d", g, why)
	}
	p := pair{t, g, &model{cat, map[string]*line{"main": {now: read(t, g.Book(), state.State{})}}}}
	p.ask()
	return p
}

// is asks whether an error is the one that it must be, and whether all else is as it must be.
func (p pair) is(what string, why, want api.Errno) api.Errno {
	p.t.Helper()
	if why != want {
		p.t.Fatalf("%s = %d; want %d", what, why, want)
	}
	p.ask()
	return why
}

func (p pair) branch(from, name string) api.Errno {
	p.t.Helper()
	want := p.m.branch(from, name, !slices.Contains(noNames(), name))
	return p.is("Branch "+from+" "+name, p.g.Branch(from, name), want)
}

func (p pair) drop(name string) api.Errno {
	p.t.Helper()
	want := p.m.drop(name)
	return p.is("Drop "+name, p.g.Drop(name), want)
}

func (p pair) undo(name string) api.Errno {
	p.t.Helper()
	want := p.m.undo(name)
	return p.is("Undo "+name, p.g.Undo(name), want)
}

func (p pair) redo(name string) api.Errno {
	p.t.Helper()
	want := p.m.redo(name)
	return p.is("Redo "+name, p.g.Redo(name), want)
}

// put hands over a state that turn makes of the one that the scenario has (of no scenario: of the zero one). What is not taken is let go.
func (p pair) put(name string, turn func(s state.State) (state.State, api.Errno)) api.Errno {
	p.t.Helper()
	s, _ := p.g.State(name)
	next, why := turn(s)
	next = got(p.t, next, why)
	want := p.m.put(name, read(p.t, p.g.Book(), next))
	why = p.g.Put(name, next)
	if why != api.OK {
		p.g.Book().Drop(next)
	}
	return p.is("Put "+name, why, want)
}

func (p pair) write(name string, l ...state.Val) api.Errno {
	p.t.Helper()
	return p.put(name, func(s state.State) (state.State, api.Errno) { return p.g.Book().Write(s, l...) })
}

func (p pair) hold(name string, c api.Cell) api.Errno {
	p.t.Helper()
	return p.put(name, func(s state.State) (state.State, api.Errno) { return p.g.Book().Hold(s, c) })
}

func (p pair) lock(name string, c api.Cell, user string) api.Errno {
	p.t.Helper()
	return p.put(name, func(s state.State) (state.State, api.Errno) { return p.g.Book().Lock(s, c, user) })
}

// merge tells what Merge did, which must be as the model says.
func (p pair) merge(from, into, user string, how int) ([]api.Clash, api.Errno) {
	p.t.Helper()
	clashes, want := p.m.merge(p.t, from, into, user, how)
	l, why := p.g.Merge(from, into, user, how)
	if !slices.Equal(l, clashes) {
		p.t.Fatalf("Merge %s %s = %v; want %v", from, into, l, clashes)
	}
	return l, p.is("Merge "+from+" "+into, why, want)
}

// load hands over the states of a scenario. What is not taken is let go.
func (p pair) load(name string, x line) api.Errno {
	p.t.Helper()
	var handed []state.State
	one := func(l lists) state.State {
		handed = append(handed, l.state(p.t, p.g.Book()))
		return handed[len(handed)-1]
	}
	each := func(l []lists) []state.State {
		var states []state.State
		for _, x := range l {
			states = append(states, one(x))
		}
		return states
	}
	h, why := undo.Load(each(x.past), one(x.now), each(x.future))
	if why != api.OK {
		p.t.Fatal("undo", why)
	}
	want := p.m.load(name, x, !slices.Contains(noNames(), name))
	why = p.g.Load(name, x.parent, one(x.base), h)
	if why != api.OK {
		for _, s := range handed {
			p.g.Book().Drop(s)
		}
	}
	return p.is("Load "+name, why, want)
}

// lists is those of a state of the model's catalogue with these values, from the code 0 on.
func (p pair) lists(values ...int64) lists {
	l := lists{vals: make([]int64, p.g.Book().Space().Leaves())}
	copy(l.vals, values)
	return l
}

// has asks whether a scenario's leaves have these values, from the code 0 on, and all others 0.
func (p pair) has(name string, values ...int64) {
	p.t.Helper()
	s, there := p.g.State(name)
	if l := read(p.t, p.g.Book(), s); !there || !slices.Equal(l.vals, p.lists(values...).vals) {
		p.t.Errorf("%s is %v, %v; want %v", name, l.vals, there, values)
	}
}

// ask asks all that can be asked of the graph.
func (p pair) ask() {
	p.t.Helper()
	var names []string
	for name := range p.m.scens {
		names = append(names, name)
	}
	slices.Sort(names)
	if l := p.g.Names(); !slices.Equal(l, names) {
		p.t.Fatalf("Names = %v; want %v", l, names)
	}
	for _, name := range names {
		p.askOne(name, p.m.scens[name])
	}
	p.askBases(append(names, "none", ""))
	p.askArena(names)
}

func (p pair) askOne(name string, x *line) {
	p.t.Helper()
	b := p.g.Book()
	if s, there := p.g.State(name); !there || !read(p.t, b, s).same(x.now) {
		p.t.Fatalf("State %s = %v, %v; want %v", name, read(p.t, b, s), there, x.now)
	}
	if parent := p.g.Parent(name); parent != x.parent {
		p.t.Fatalf("Parent %s = %q; want %q", name, parent, x.parent)
	}
	h := p.g.History(name)
	alike := func(s state.State, l lists) bool { return read(p.t, b, s).same(l) }
	if !slices.EqualFunc(h.Past(), x.past, alike) || !alike(h.Now(), x.now) || !slices.EqualFunc(h.Future(), x.future, alike) {
		p.t.Fatalf("History %s: %d, %d; want %v", name, h.Depth(), h.Ahead(), x)
	}
}

// askBases asks for the base of each two, in both orders, and of each and itself.
func (p pair) askBases(names []string) {
	p.t.Helper()
	for _, a := range names {
		for _, c := range names {
			want := p.m.base(a, c)
			s, there := p.g.Base(a, c)
			if there != (want != nil) {
				p.t.Fatalf("Base %q %q = %v, %v", a, c, s, there)
			}
			if l := read(p.t, p.g.Book(), s); there && !l.same(*want) {
				p.t.Fatalf("Base %q %q = %v; want %v", a, c, l, *want)
			}
		}
	}
}

// askArena asks whether each node is asked for just as often as the states of histories, the bases, and the nodes that belong to these have it.
func (p pair) askArena(names []string) {
	p.t.Helper()
	a := p.g.Book().View().Pages().Arena()
	refs := map[int]int{}
	var down func(id int)
	down = func(id int) {
		if id == 0 {
			return
		}
		refs[id]++
		if n, _ := a.At(id); refs[id] == 1 {
			for _, kid := range n.Kids {
				down(kid)
			}
		}
	}
	for _, name := range names {
		h := p.g.History(name)
		for _, s := range slices.Concat(h.Past(), []state.State{h.Now()}, h.Future()) {
			down(s.Root)
		}
		if parent := p.g.Parent(name); parent != "" {
			s, _ := p.g.Base(parent, name)
			down(s.Root)
		}
	}
	for id, n := range refs {
		if a.Refs(id) != n {
			p.t.Fatalf("the node %d is asked for %d times; want %d", id, a.Refs(id), n)
		}
	}
	if a.Used() != len(refs) {
		p.t.Fatalf("the arena has %d nodes; want %d", a.Used(), len(refs))
	}
}

func (p pair) used() int {
	return p.g.Book().View().Pages().Arena().Used()
}
