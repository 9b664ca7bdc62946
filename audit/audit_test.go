package audit_test

import (
	"bytes"
	"math"
	"math/rand"
	"slices"
	"testing"

	"moiety/api"
	"moiety/arena"
	"moiety/audit"
	"moiety/block"
	"moiety/cube"
	"moiety/dims"
	"moiety/scen"
	"moiety/snap"
	"moiety/state"
	"moiety/store"
	"moiety/undo"
)

const greatest = math.MaxInt64

// P33.1, P33.2: example 1: a new cube, of any catalogue, has no roots and no nodes, and is as it must be.
func TestNew(t *testing.T) {
	for name, cat := range cats() {
		r := newRig(t, cat)
		if l := audit.Roots(r.c); len(l) != 0 {
			t.Error(name, "Roots", l)
		}
		if n, m := audit.Nodes(r.c); n != 0 || m != 0 {
			t.Error(name, "Nodes", n, m)
		}
		for _, id := range []int{math.MinInt, -1, 0, 1, 2, api.MaxArena, api.MaxArena + 1, math.MaxInt} {
			if n := audit.Refs(r.c, id); n != 0 {
				t.Error(name, "Refs", id, n)
			}
		}
		r.is(api.OK)
	}
}

// P33.1, P33.2, P6: of nil, and of a cube that New did not make, there is none of all.
func TestNil(t *testing.T) {
	for _, c := range []*cube.Cube{nil, new(cube.Cube)} {
		if l := audit.Roots(c); len(l) != 0 {
			t.Error("Roots", l)
		}
		if n, m := audit.Nodes(c); n != 0 || m != 0 {
			t.Error("Nodes", n, m)
		}
		for _, id := range []int{math.MinInt, -1, 0, 1, math.MaxInt} {
			if n := audit.Refs(c, id); n != 0 {
				t.Error("Refs", id, n)
			}
		}
		if why := audit.Check(c); why != api.ErrNil {
			t.Error("Check", why)
		}
	}
}

// P33.1: roots, nodes and what asks for them, by hand: a tree of one leaf has no node but its root.
func TestByHand(t *testing.T) {
	r := newRig(t, cats()["one"])
	set := func(scen string, n int64) api.Cmd { return api.Cmd{Kind: api.CSet, Scen: scen, N: n} }
	want := func(nodes int, roots ...int) {
		t.Helper()
		if l := audit.Roots(r.c); !slices.Equal(l, roots) {
			t.Errorf("Roots = %v; want %v", l, roots)
		}
		if n, m := audit.Nodes(r.c); n != nodes || m != nodes {
			t.Errorf("Nodes = %d, %d; want %d", n, m, nodes)
		}
		r.right()
	}
	r.must(set("main", 7))
	want(1, 1)
	// A write of what is there already is a step of the history: its state has the same root.
	r.must(set("main", 7), set("main", 7))
	want(1, 1, 1, 1)
	// p has the root as it is now, and as its base.
	r.must(api.Cmd{Kind: api.CBranch, Other: "p"})
	want(1, 1, 1, 1, 1, 1)
	r.must(set("p", 8))
	want(2, 1, 1, 1, 1, 1, 2)
	// What is undone is kept as long as it may be redone.
	r.must(api.Cmd{Kind: api.CUndo, Scen: "p"})
	want(2, 1, 1, 1, 1, 1, 2)
	r.must(api.Cmd{Kind: api.CRedo, Scen: "p"})
	want(2, 1, 1, 1, 1, 1, 2)
	// All nothing is the root 0, which is not told.
	r.must(set("p", 0))
	want(2, 1, 1, 1, 1, 1, 2)
	// main has 1, 1, 1, and p's 0 behind the merge; p has 1, 2, 0, and 0 for its base.
	r.must(api.Cmd{Kind: api.CMerge, Scen: "p", Other: "main"})
	want(2, 1, 1, 1, 1, 2)
	r.must(api.Cmd{Kind: api.CDrop, Scen: "p"})
	want(1, 1, 1, 1)
	for range 3 {
		r.must(api.Cmd{Kind: api.CUndo})
	}
	want(1, 1, 1, 1)
	r.must(api.Cmd{Kind: api.CUndo})
	want(1, 1, 1, 1)
	// A new step from where main began lets all go.
	r.must(api.Cmd{Kind: api.CLock})
	want(0)
}

// P33.1: trees of three levels share what is the same: a node that is a part of two others is told once, and asked for twice.
func TestShared(t *testing.T) {
	r := newRig(t, cats()["three"])
	at := func(code int) api.Cell {
		c, _ := r.c.Graph().Book().Space().Leaf(code)
		return c
	}
	root := func() int {
		s, _ := r.c.Graph().State("main")
		return s.Root
	}
	kid := func(id, place int) int {
		n, _ := r.arena().At(id)
		return n.Kids[place]
	}
	nodes := func(want int) {
		t.Helper()
		if n, m := audit.Nodes(r.c); n != want || m != want {
			t.Errorf("Nodes = %d, %d; want %d", n, m, want)
		}
		r.right()
	}
	refs := func(id, want int) {
		t.Helper()
		if n := audit.Refs(r.c, id); n != want || id == 0 {
			t.Errorf("Refs %d = %d; want %d", id, n, want)
		}
	}
	r.must(api.Cmd{Kind: api.CSet, Cell: at(9), N: 5})
	first := root()
	nodes(3)
	low, lowest := kid(first, 0), kid(kid(first, 0), 1)
	refs(first, 1)
	refs(low, 1)
	refs(lowest, 1)
	// The leaf 99 is below another part of the root: the first part is both roots'.
	r.must(api.Cmd{Kind: api.CSet, Cell: at(99), N: 5})
	nodes(6)
	refs(first, 1)
	refs(root(), 1)
	refs(low, 2)
	refs(lowest, 1)
	// The leaf 0 is below the first part, but not of the node that the leaf 9 has.
	r.must(api.Cmd{Kind: api.CSet, Cell: at(0), N: 5})
	nodes(9)
	refs(low, 2)
	refs(lowest, 2)
	refs(kid(root(), 1), 2)
	r.must(api.Cmd{Kind: api.CBranch, Other: "p"}, api.Cmd{Kind: api.CLock, Scen: "p", Cell: at(0)})
	nodes(9)
	// As main has it now, and p as it was, as it is, and its base.
	refs(root(), 4)
}

// P33.1, P33.2: a node that another one has at several places is asked for once for each of them.
func TestPartTwice(t *testing.T) {
	r := newRig(t, cats()["nine"])
	a := r.arena()
	leaf, _ := a.Make(arena.Node{Leaf: true, Vals: [arena.Fan]api.Entry{{Val: 5}}})
	root, _ := a.Make(arena.Node{Kids: [arena.Fan]int{leaf, leaf}})
	r.c.Graph().Put("main", state.State{Root: root})
	r.is(api.ErrState)
	a.Drop(leaf)
	r.is(api.OK)
	if l := audit.Roots(r.c); !slices.Equal(l, []int{root}) {
		t.Error("Roots", l)
	}
	if n, m := audit.Nodes(r.c); n != 2 || m != 2 {
		t.Error("Nodes", n, m)
	}
	if n := audit.Refs(r.c, leaf); n != 2 {
		t.Error("Refs", n)
	}
	// The leaf's node is a root besides.
	a.Keep(leaf)
	r.is(api.ErrState)
	r.c.Graph().Branch("main", "p")
	r.c.Graph().Put("p", state.State{Root: leaf})
	if n := audit.Refs(r.c, leaf); n != 3 {
		t.Error("Refs", n)
	}
	told(t, r.c, sorted(root, root, root, leaf))
}

func sorted(l ...int) []int {
	slices.Sort(l)
	return l
}

// P33.1 to P33.3: behind any commands, those with errors too, Roots are those of the histories and bases, Nodes and Refs what belongs to them, and Check is OK.
func TestAnyCommands(t *testing.T) {
	for name, cat := range cats() {
		for seed := range int64(6) {
			d := dice{rand.New(rand.NewSource(seed))}
			r := newRig(t, cat)
			cells := cellsOf(r.c)
			errors := 0
			for i := range 250 {
				x := d.command(cells)
				if reply := r.do(x); reply.Why != api.OK {
					errors++
				}
				if len(cells) < 50 || i%40 == 0 {
					r.right()
				}
			}
			r.right()
			if errors == 0 {
				t.Error(name, "no command had an error")
			}
		}
	}
}

// P33.3: a merge that clashes leaves all as it must be, and so does one that takes what clashes.
func TestMerges(t *testing.T) {
	for how := range 3 {
		r := newRig(t, cats()["tight"])
		at := func(code int) api.Cell {
			c, _ := r.c.Graph().Book().Space().Leaf(code)
			return c
		}
		r.must(api.Cmd{Kind: api.CSet, Cell: at(0), N: 1}, api.Cmd{Kind: api.CBranch, Other: "p"})
		r.must(api.Cmd{Kind: api.CSet, Scen: "p", Cell: at(0), N: 2}, api.Cmd{Kind: api.CSet, Cell: at(0), N: 3})
		want := api.OK
		if how == api.Abort {
			want = api.ErrClash
		}
		for _, names := range [][2]string{{"p", "main"}, {"main", "p"}} {
			if reply := r.do(api.Cmd{Kind: api.CMerge, Scen: names[0], Other: names[1], How: how}); reply.Why != want {
				t.Error("Merge", how, names, reply)
			}
			r.right()
		}
	}
}

// P33.3: as many steps as a history keeps, and more, back and forth.
func TestHistory(t *testing.T) {
	r := newRig(t, cats()["nine"])
	set := func(n int64) { r.must(api.Cmd{Kind: api.CSet, N: n, How: api.Equal}) }
	for n := range int64(api.MaxUndo + 5) {
		set(n + 1)
		r.right()
	}
	if l := audit.Roots(r.c); len(l) != api.MaxUndo+1 {
		t.Error("Roots", l)
	}
	for i := range api.MaxUndo {
		r.must(api.Cmd{Kind: api.CUndo})
		r.right()
		if i%3 == 0 {
			r.must(api.Cmd{Kind: api.CRedo})
			r.right()
			r.must(api.Cmd{Kind: api.CUndo})
		}
	}
	if l := audit.Roots(r.c); len(l) != api.MaxUndo+1 {
		t.Error("Roots behind all undone", l)
	}
	set(99)
	r.right()
	if l := audit.Roots(r.c); len(l) != 2 {
		t.Error("Roots behind a new step", l)
	}
}

// P33.3: also where the arena has no room any more, and commands are refused.
func TestFull(t *testing.T) {
	d, _, _ := dims.New(cats()["three"])
	for _, room := range []int{1, 4, 9, 13, 20, 30} {
		full := 0
		for seed := range int64(4) {
			g, why := scen.New(d, room)
			if why != api.OK {
				t.Fatal("scen", why)
			}
			c, why := cube.Of(g)
			if why != api.OK {
				t.Fatal("Of", why)
			}
			r := &rig{t, c, ledger{"main": &account{}}}
			rnd := dice{rand.New(rand.NewSource(seed))}
			cells := cellsOf(c)
			for range 150 {
				x := rnd.command(cells)
				// A hold of much would leave little to write.
				if x.Kind == api.CHold {
					x.Kind = api.CSet
				}
				if r.do(x).Why == api.ErrFull {
					full++
				}
				r.right()
			}
		}
		if full == 0 {
			t.Error("never full", room)
		}
	}
}

// P33.2, P33.3: a cube that comes out of its bytes, or out of a file, again and again, is as it must be, too.
func TestBack(t *testing.T) {
	d := dice{rand.New(rand.NewSource(5))}
	cat := cats()["nine"]
	f, _ := block.New(api.MaxBlocks)
	s, why := store.Create(f, cat)
	if why != api.OK {
		t.Fatal("Create", why)
	}
	cells := cellsOf(s.Cube())
	for i := range 400 {
		s.Do(d.command(cells))
		sound(t, s.Cube())
		if i%80 == 79 {
			s.Compact()
			sound(t, s.Cube())
		}
		if i%50 == 49 {
			c, why := snap.Get(snap.Put(s.Cube()))
			if why != api.OK {
				t.Fatal("Get", why)
			}
			sound(t, c)
			if len(audit.Roots(c)) != len(audit.Roots(s.Cube())) {
				t.Error("as many states as there were", len(audit.Roots(c)), len(audit.Roots(s.Cube())))
			}
			if s, why = store.Open(f); why != api.OK {
				t.Fatal("Open", why)
			}
			sound(t, s.Cube())
		}
	}
}

// spread is a rig with states in the past, in the future, as they are now, and as bases.
func spread(t *testing.T) *rig {
	r := newRig(t, cats()["nine"])
	set := func(scen string, n int64) { r.must(api.Cmd{Kind: api.CSet, Scen: scen, N: n}) }
	set("main", 20)
	set("main", 30)
	r.must(api.Cmd{Kind: api.CBranch, Other: "p"})
	set("main", 40)
	set("p", 50)
	set("p", 60)
	r.must(api.Cmd{Kind: api.CUndo, Scen: "p"}, api.Cmd{Kind: api.CBranch, Scen: "p", Other: "q"})
	set("p", 70)
	r.must(api.Cmd{Kind: api.CUndo, Scen: "p"})
	set("q", 80)
	r.right()
	return r
}

// P33.4, P33.2: a state that is kept, asked for once more: ErrState, until that is dropped. Of one whose root is 0 nothing comes.
func TestOnceMore(t *testing.T) {
	r := spread(t)
	book := r.c.Graph().Book()
	var l []state.State
	for _, name := range r.c.Graph().Names() {
		h := r.c.Graph().History(name)
		l = append(l, h.Past()...)
		l = append(l, h.Now())
		l = append(l, h.Future()...)
		if base, there := r.c.Graph().Base(r.c.Graph().Parent(name), name); there {
			l = append(l, base)
		}
	}
	if len(l) != 11 {
		t.Error("not all states", len(l))
	}
	for _, s := range l {
		if s.Root == 0 {
			book.Keep(s)
			r.right()
			continue
		}
		book.Keep(s)
		r.is(api.ErrState)
		book.Keep(s)
		r.is(api.ErrState)
		told(t, r.c, r.l.roots())
		book.Drop(s)
		r.is(api.ErrState)
		book.Drop(s)
		r.right()
	}
	// Of two states each once.
	book.Keep(l[1])
	book.Keep(l[2])
	r.is(api.ErrState)
	book.Drop(l[1])
	r.is(api.ErrState)
	book.Drop(l[2])
	r.right()
}

// P33.2: a part of a node that is asked for beside the states, too.
func TestPartOnceMore(t *testing.T) {
	r := spread(t)
	a := r.arena()
	for id := 1; id <= a.Used(); id++ {
		a.Keep(id)
		r.is(api.ErrState)
		told(t, r.c, r.l.roots())
		a.Drop(id)
		r.right()
	}
}

// P33.1, P33.2: a node that belongs to no state: ErrState, and Nodes tells that there is one more.
func TestNodeBeside(t *testing.T) {
	r := spread(t)
	a := r.arena()
	was := a.Used()
	root := audit.Roots(r.c)[0]
	// What a node that does not belong asks for does not count in Refs.
	refs := audit.Refs(r.c, root)
	for _, n := range []arena.Node{{Leaf: true}, {}, {Kids: [arena.Fan]int{root}}} {
		id, why := a.Make(n)
		if why != api.OK {
			t.Fatal("Make", why)
		}
		r.is(api.ErrState)
		told(t, r.c, r.l.roots())
		if n, m := audit.Nodes(r.c); n != was+1 || m != was {
			t.Error("Nodes", n, m, was)
		}
		if audit.Refs(r.c, id) != 0 || audit.Refs(r.c, root) != refs {
			t.Error("Refs", audit.Refs(r.c, id), audit.Refs(r.c, root))
		}
		a.Drop(id)
		r.right()
	}
}

// P33.2: a node that is asked for less often than by the states: ErrState, until it is asked for again.
func TestOnceLess(t *testing.T) {
	r := spread(t)
	a := r.arena()
	tried := 0
	for _, root := range audit.Roots(r.c) {
		if a.Refs(root) > 1 {
			a.Drop(root)
			r.is(api.ErrState)
			a.Keep(root)
			r.right()
			tried++
		}
	}
	if tried == 0 {
		t.Error("no root that is asked for more than once")
	}
	// One that is gone altogether: its number is a root still, but no node's.
	r = newRig(t, cats()["one"])
	r.must(api.Cmd{Kind: api.CSet, N: 5})
	r.arena().Drop(1)
	r.is(api.ErrState)
	if n, m := audit.Nodes(r.c); n != 0 || m != 0 || !slices.Equal(audit.Roots(r.c), []int{1}) || audit.Refs(r.c, 1) != 1 {
		t.Error("Nodes, Roots, Refs", n, m, audit.Roots(r.c), audit.Refs(r.c, 1))
	}
}

// with is a state with these values of the first leaves, asked for once.
func (r *rig) with(values ...int64) state.State {
	r.t.Helper()
	var l []state.Val
	for code, n := range values {
		l = append(l, state.Val{Code: code, N: n})
	}
	s, why := r.c.Graph().Book().Write(state.State{}, l...)
	if why != api.OK {
		r.t.Fatal("Write", why)
	}
	return s
}

// P33.2: a scenario's state that can not be: the error of the first one by names, byte by byte; ErrOver ahead of ErrFull of one.
func TestCanNotBe(t *testing.T) {
	over, many, both, most := []int64{greatest, 1}, []int64{1, 1, 1, 1}, []int64{greatest, 1, 1, 1}, []int64{greatest - 2, 1, 1}
	rows := []struct {
		values map[string][]int64
		want   api.Errno
	}{
		{map[string][]int64{"main": most}, api.OK},
		{map[string][]int64{"main": over}, api.ErrOver},
		{map[string][]int64{"main": many}, api.ErrFull},
		{map[string][]int64{"main": both}, api.ErrOver},
		{map[string][]int64{"main": {math.MinInt64, -1}}, api.ErrOver},
		{map[string][]int64{"main": {math.MinInt64, 0}}, api.OK},
		{map[string][]int64{"p": over}, api.ErrOver},
		{map[string][]int64{"Z": many}, api.ErrFull},
		{map[string][]int64{"Z": many, "main": over}, api.ErrFull},
		{map[string][]int64{"Z": over, "main": many}, api.ErrOver},
		{map[string][]int64{"main": many, "p": over}, api.ErrFull},
		{map[string][]int64{"main": over, "p": many}, api.ErrOver},
		{map[string][]int64{"Z": most, "main": most, "p": many}, api.ErrFull},
		{map[string][]int64{"Z": over, "main": many, "p": most}, api.ErrOver},
		{map[string][]int64{"Z": most, "main": most, "p": most}, api.OK},
	}
	for i, row := range rows {
		r := newRig(t, cats()["tight"])
		r.must(api.Cmd{Kind: api.CBranch, Other: "p"}, api.Cmd{Kind: api.CBranch, Other: "Z"})
		g := r.c.Graph()
		for name, l := range row.values {
			g.Put(name, r.with(l...))
		}
		r.is(row.want)
		r.is(row.want)
		if n, m := audit.Nodes(r.c); n != m || n != len(row.values) {
			t.Error(i, "Nodes", n, m)
		}
		for name := range row.values {
			g.Undo(name)
		}
		r.is(api.OK)
		for name := range row.values {
			g.Redo(name)
		}
		r.is(row.want)
		for name := range row.values {
			g.Put(name, state.State{})
		}
		r.is(api.OK)
	}
}

// P33.2: only the states as they are now are asked whether they can be: not the past, the future and the bases.
func TestOnlyNow(t *testing.T) {
	r := newRig(t, cats()["tight"])
	g := r.c.Graph()
	g.Put("main", r.with(greatest, 1))
	r.is(api.ErrOver)
	g.Branch("main", "p")
	g.Put("p", r.with(1))
	g.Put("main", r.with(2))
	r.is(api.OK)
	g.Put("main", r.with(1, 1, 1, 1))
	r.is(api.ErrFull)
	g.Undo("main")
	r.is(api.OK)
	g.Undo("main")
	r.is(api.ErrOver)
}

// P33.2: sums that are not those of the leaves' values: ErrState, of any scenario and of any leaf, until they are again. To ask does not mend them.
func TestSums(t *testing.T) {
	r := spread(t)
	leaves := r.c.Graph().Book().Space().Leaves()
	for _, name := range r.c.Graph().Names() {
		for code := range leaves {
			sums := r.c.Roll(name)
			was, _ := sums.Leaf(code)
			for _, n := range []int64{was + 1, was - 1, greatest, math.MinInt64} {
				sums.Turn(code, n)
				r.is(api.ErrState)
				r.is(api.ErrState)
				told(t, r.c, r.l.roots())
				sums.Turn(code, was)
				r.right()
			}
		}
	}
	// Two leaves that change by as much up as down: the sums above both are right.
	sums := r.c.Roll("p")
	a, _ := sums.Leaf(0)
	b, _ := sums.Leaf(1)
	sums.Turn(0, a+1)
	sums.Turn(1, b-1)
	r.is(api.ErrState)
	sums.Turn(0, a)
	sums.Turn(1, b)
	r.right()
	// Of a scenario that is gone nothing counts.
	r.c.Roll("q").Turn(0, 77)
	r.is(api.ErrState)
	r.must(api.Cmd{Kind: api.CDrop, Scen: "q"})
	r.right()
	r.must(api.Cmd{Kind: api.CBranch, Other: "q"})
	r.right()
}

// P33.2: the sums of a new cube's leaves, all of which are 0, too.
func TestSumsOfNothing(t *testing.T) {
	for name, cat := range cats() {
		r := newRig(t, cat)
		r.c.Roll("main").Turn(0, 1)
		if why := audit.Check(r.c); why != api.ErrState {
			t.Error(name, why)
		}
		r.c.Roll("main").Turn(0, 0)
		r.right()
	}
}

// P33.2: the order of the faults: nodes, then the scenarios' states, then the sums.
func TestOrder(t *testing.T) {
	const nodes, states, sums = 1, 2, 4
	for faults := range 8 {
		for _, values := range [][]int64{{greatest, 1}, {1, 1, 1, 1}} {
			r := newRig(t, cats()["tight"])
			r.must(api.Cmd{Kind: api.CSet, N: 3}, api.Cmd{Kind: api.CBranch, Other: "p"})
			g := r.c.Graph()
			want := api.OK
			if faults&sums != 0 {
				r.c.Roll("main").Turn(0, 44)
				want = api.ErrState
			}
			if faults&states != 0 {
				g.Put("p", r.with(values...))
				want = api.ErrFull
				if values[0] == greatest {
					want = api.ErrOver
				}
			}
			if faults&nodes != 0 {
				s, _ := g.State("main")
				g.Book().Keep(s)
				want = api.ErrState
			}
			r.is(want)
		}
	}
}

// P33.1, P33.3: what is done to the scenarios beside the cube counts (rule 1), also what it can not do itself: parents that there are not, parents of each other, and main with a parent.
func TestLoaded(t *testing.T) {
	r := newRig(t, cats()["two"])
	g := r.c.Graph()
	load := func(name, parent string, base state.State, h *undo.History[state.State]) {
		t.Helper()
		if why := g.Load(name, parent, base, h); why != api.OK {
			t.Fatal("Load", why)
		}
	}
	first, second, third, fourth, fifth := r.with(1), r.with(2), r.with(3), r.with(4), r.with(5)
	h, _ := undo.Load([]state.State{first, {}}, second, []state.State{third})
	load("p", "nobody", fourth, h)
	told(t, r.c, sorted(first.Root, second.Root, third.Root, fourth.Root))
	r.is(api.ErrState)
	load("main", "q", fifth, undo.New(state.State{}))
	all := sorted(first.Root, second.Root, third.Root, fourth.Root, fifth.Root)
	told(t, r.c, all)
	sound(t, r.c)
	sixth, seventh := r.with(6), r.with(7)
	r.is(api.ErrState)
	load("q", "main", sixth, undo.New(seventh))
	told(t, r.c, sorted(append(all, sixth.Root, seventh.Root)...))
	sound(t, r.c)
	// Without a parent there is no base.
	load("r", "", r.with(8), undo.New(state.State{}))
	told(t, r.c, sorted(append(all, sixth.Root, seventh.Root)...))
	sound(t, r.c)
	g.Drop("q")
	told(t, r.c, sorted(first.Root, second.Root, third.Root, fourth.Root))
	sound(t, r.c)
}

// Rules 4 and 3: what is told is one's own, and to ask changes nothing.
func TestAsked(t *testing.T) {
	r := spread(t)
	was := snap.Put(r.c)
	l := audit.Roots(r.c)
	want := slices.Clone(l)
	_ = append(l[:2], 9999)
	for i := range l {
		l[i] = -7
	}
	if l := audit.Roots(r.c); !slices.Equal(l, want) {
		t.Error("Roots", l, want)
	}
	for range 3 {
		r.right()
	}
	if !bytes.Equal(snap.Put(r.c), was) {
		t.Error("to ask changes the cube")
	}
	// Another cube of the same scenarios tells the same.
	two, _ := cube.Of(r.c.Graph())
	told(t, two, r.l.roots())
	sound(t, two)
	two.Roll("p").Turn(0, 99)
	r.is(api.OK)
}

// P6: roots that are no nodes, trees that are deeper than any, and nodes that are below themselves: each call ends.
func TestOtherNodes(t *testing.T) {
	for _, root := range []int{math.MinInt, -1, 1, 99, api.MaxArena + 1, math.MaxInt} {
		r := newRig(t, cats()["nine"])
		r.c.Graph().Put("main", state.State{Root: root})
		told(t, r.c, []int{root})
		r.is(api.ErrState)
		if n := audit.Refs(r.c, root); n != 1 {
			t.Error("Refs", root, n)
		}
	}
	r := newRig(t, cats()["nine"])
	a := r.arena()
	last, _ := a.Make(arena.Node{Leaf: true})
	for a.Used() < a.Cap() {
		next, why := a.Make(arena.Node{Kids: [arena.Fan]int{7: last}})
		if why != api.OK {
			t.Fatal("Make", why)
		}
		a.Drop(last)
		last = next
	}
	r.c.Graph().Put("main", state.State{Root: last})
	if n, m := audit.Nodes(r.c); n != a.Cap() || m != n || audit.Refs(r.c, 1) != 1 {
		t.Error("Nodes", n, m)
	}
	audit.Check(r.c)
	r = newRig(t, cats()["nine"])
	a = r.arena()
	low, _ := a.Make(arena.Node{Leaf: true})
	high, _ := a.Make(arena.Node{Kids: [arena.Fan]int{low}})
	a.Drop(low)
	a.Drop(low)
	again, _ := a.Make(arena.Node{Kids: [arena.Fan]int{high, high}})
	if again != low {
		t.Fatal("Make", again, low)
	}
	r.c.Graph().Put("main", state.State{Root: high})
	if n, m := audit.Nodes(r.c); n != 2 || m != 2 || audit.Refs(r.c, high) != 3 || audit.Refs(r.c, low) != 1 {
		t.Error("Nodes, Refs", n, m, audit.Refs(r.c, high), audit.Refs(r.c, low))
	}
	audit.Check(r.c)
}
