package cube

import (
	"moiety/api"
	"moiety/diff"
	"moiety/plan"
	"moiety/state"
	"moiety/view"
)

// Do does a command. ErrNil; ErrArg of a Kind that is none; ErrNone, if a scenario that it is of is none; then the errors of its kind.
func (c *Cube) Do(x api.Cmd) api.Reply {
	if why := c.ask(x); why != api.OK {
		return api.Reply{Why: why}
	}
	if !Changes(x.Kind) {
		return c.tell(x)
	}
	r := c.change(x)
	// Whoever was told the sums of the scenario sees what was done to it.
	if name := changed(x); r.Why == api.OK && c.rolls[name] != nil {
		c.Roll(name)
	}
	return r
}

// Changes tells whether a command of the kind may change anything.
func Changes(kind int) bool {
	return kind >= api.CSet && kind <= api.CMerge
}

// ask is what is wrong with a command, whatever its scenarios are: ErrNil, ErrArg, ErrNone.
func (c *Cube) ask(x api.Cmd) api.Errno {
	if c.Graph() == nil {
		return api.ErrNil
	}
	names, known := scens(x)
	if !known {
		return api.ErrArg
	}
	for _, name := range names {
		if _, there := c.graph.State(name); !there {
			return api.ErrNone
		}
	}
	return api.OK
}

// scens is the names of the scenarios that must be there for a command; false, if its Kind is none.
func scens(x api.Cmd) ([]string, bool) {
	switch x.Kind {
	case api.CSet, api.CHold, api.CRelease, api.CLock, api.CUnlock, api.CUndo, api.CRedo, api.CBranch, api.CDrop:
		return []string{x.Scen}, true
	case api.CGet, api.CFree, api.CHolds, api.CLocks, api.CSlice, api.CTop:
		return []string{x.Scen}, true
	case api.CMerge, api.CDiff:
		return []string{x.Scen, x.Other}, true
	case api.CScens:
		return nil, true
	}
	return nil, false
}

// changed is the name of the scenario that a command changes.
func changed(x api.Cmd) string {
	if x.Kind == api.CMerge {
		return x.Other
	}
	return x.Scen
}

// change does a command that may change something.
func (c *Cube) change(x api.Cmd) api.Reply {
	var r api.Reply
	switch x.Kind {
	case api.CUndo:
		r.Why = c.graph.Undo(x.Scen)
	case api.CRedo:
		r.Why = c.graph.Redo(x.Scen)
	case api.CBranch:
		r.Why = c.graph.Branch(x.Scen, x.Other)
	case api.CDrop:
		r.Why = c.graph.Drop(x.Scen)
	case api.CMerge:
		r.Clashes, r.Why = c.graph.Merge(x.Scen, x.Other, x.User, x.How)
	default:
		r.Why = c.put(x)
	}
	return r
}

// put puts what a command makes of Scen's state on its history.
func (c *Cube) put(x api.Cmd) api.Errno {
	next, why := c.next(x)
	if why != api.OK {
		return why
	}
	return c.graph.Put(x.Scen, next)
}

// next is what a command makes of Scen's state, asked for once more.
func (c *Cube) next(x api.Cmd) (state.State, api.Errno) {
	book := c.graph.Book()
	s, _ := c.graph.State(x.Scen)
	switch x.Kind {
	case api.CSet:
		w := plan.Write{User: x.User, Cell: x.Cell, N: x.N, How: x.How, Meas: x.Meas}
		return plan.Set(book, s, w, c.Cat().Leaves)
	case api.CHold:
		return book.Hold(s, x.Cell)
	case api.CRelease:
		return book.Release(s, x.Cell)
	case api.CLock:
		return book.Lock(s, x.Cell, x.User)
	case api.CUnlock:
		return book.Unlock(s, x.Cell, x.User)
	}
	return state.State{}, api.ErrArg
}

// tell answers a command that only asks.
func (c *Cube) tell(x api.Cmd) api.Reply {
	var r api.Reply
	book := c.graph.Book()
	s, _ := c.graph.State(x.Scen)
	switch x.Kind {
	case api.CGet:
		r.N, r.Why = c.Roll(x.Scen).Value(x.Cell)
	case api.CFree:
		free, why := book.Free(s, x.Cell, x.User)
		r.N, r.Why = int64(free.Many()), why
	case api.CDiff:
		other, _ := c.graph.State(x.Other)
		r.Rows, r.Why = diff.Diff(book, s, other)
	case api.CHolds:
		r.Rows = each(book.Held(s), bare)
	case api.CLocks:
		r.Locks = s.Locks.List()
	case api.CScens:
		r.Names = c.graph.Names()
	case api.CSlice:
		rows, why := book.View().Slice(s.Root, x.Cell, x.Meas)
		r.Rows, r.Why = each(rows, valued), why
	case api.CTop:
		rows, why := book.View().Top(s.Root, x.Cell, int(x.N))
		r.Rows, r.Why = each(rows, valued), why
	}
	return r
}

// each is what turn makes of each of l, in order.
func each[A, B any](l []A, turn func(A) B) []B {
	var turned []B
	for _, a := range l {
		turned = append(turned, turn(a))
	}
	return turned
}

// bare is a row of a cell alone.
func bare(c api.Cell) api.Change {
	return api.Change{Cell: c}
}

// valued is a row of a cell and its value.
func valued(r view.Row) api.Change {
	return api.Change{Cell: r.Cell, A: r.N}
}
