package snap

import (
	"cmp"
	"slices"

	"moiety/api"
	"moiety/cube"
	"moiety/dims"
	"moiety/scen"
	"moiety/state"
	"moiety/undo"
)

// build is the cube of a catalogue's bytes and of scenarios. Some error, if there is none.
func build(cat []byte, lines []line) (*cube.Cube, api.Errno) {
	c, why := dims.Get(cat)
	if why != api.OK {
		return nil, why
	}
	// Its graph is taken: so the scenarios have as much room as those of any cube.
	first, _, why := cube.New(c)
	if why != api.OK {
		return nil, why
	}
	if !named(lines) {
		return nil, api.ErrName
	}
	m := &maker{Book: first.Graph().Book()}
	for _, x := range lines {
		if why := m.load(first.Graph(), x); why != api.OK {
			return nil, why
		}
	}
	return cube.Of(first.Graph())
}

// named tells whether the names rise, main is one, and all parents are right.
func named(lines []line) bool {
	var names []string
	for _, x := range lines {
		names = append(names, x.name)
	}
	for _, x := range lines {
		if !x.off(names) {
			return false
		}
	}
	return rise(names, cmp.Less[string]) && slices.Contains(names, scen.Main)
}

// off tells whether the scenario branched off another one of these names, or off none: then it has no base.
func (x line) off(names []string) bool {
	if x.parent == "" {
		return x.base.nothing()
	}
	return x.parent != x.name && slices.Contains(names, x.parent)
}

// maker makes states in a book. It goes on behind one that can not be, and why tells that there was one.
type maker struct {
	*state.Book
	now state.State
	why api.Errno
}

// load makes x a scenario of g. An error, if it can not be.
func (m *maker) load(g *scen.Graph, x line) api.Errno {
	h, why := undo.Load(m.states(x.past), m.state(x.now), m.states(x.future))
	m.fail(why)
	m.fail(g.Load(x.name, x.parent, m.state(x.base), h))
	return m.why
}

func (m *maker) states(l []image) []state.State {
	var made []state.State
	for _, x := range l {
		made = append(made, m.state(x))
	}
	return made
}

// state is one with all that x has, asked for once.
func (m *maker) state(x image) state.State {
	m.now = state.State{}
	m.leaves(x.leaves)
	m.hold(x.held)
	m.lock(x.locks)
	return m.now
}

// leaves: these have their values, and are held.
func (m *maker) leaves(l []leaf) {
	m.must(rise(l, func(a, b leaf) bool { return a.code < b.code }))
	var values []state.Val
	for _, x := range l {
		m.must(x.held == 0 && x.n != 0 || x.held == 1)
		values = append(values, state.Val{Code: int(x.code), N: x.n})
	}
	m.turn(m.Write(m.now, values...))
	for _, x := range l {
		if x.held == 0 {
			continue
		}
		c, _ := m.Space().Leaf(int(x.code))
		m.turn(m.Hold(m.now, c))
	}
}

// hold: the cells of these indexes, none of them a leaf, are held.
func (m *maker) hold(l []int64) {
	m.must(rise(l, cmp.Less[int64]))
	for _, index := range l {
		c, there := m.Space().Cell(int(index))
		m.must(there && m.Space().Code(c) < 0)
		m.turn(m.Hold(m.now, c))
	}
}

// lock: the cells of these are locked.
func (m *maker) lock(l []lock) {
	// One cell is never locked twice, so that no order by users is to be asked for.
	m.must(rise(l, func(a, b lock) bool { return a.index < b.index }))
	for _, x := range l {
		c, there := m.Space().Cell(int(x.index))
		m.must(there)
		m.turn(m.Lock(m.now, c, x.user))
	}
}

// turn: next is told in place of what is now, which is let go.
func (m *maker) turn(next state.State, why api.Errno) {
	m.fail(why)
	m.Drop(m.now)
	m.now = next
}

// must: something that a state can not be without.
func (m *maker) must(is bool) {
	if !is {
		m.fail(api.ErrForm)
	}
}

// fail keeps the first error.
func (m *maker) fail(why api.Errno) {
	m.why = cmp.Or(m.why, why)
}

// rise tells whether each of l is less than the next one.
func rise[T any](l []T, less func(a, b T) bool) bool {
	for i := 1; i < len(l); i++ {
		if !less(l[i-1], l[i]) {
			return false
		}
	}
	return true
}
