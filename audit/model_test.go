package audit_test

import (
	"math/rand"
	"slices"
	"testing"

	"moiety/api"
	"moiety/arena"
	"moiety/audit"
	"moiety/cube"
)

// ledger is the states that a cube must keep, by their roots, written down command by command as the chapters say what a history and a base are.
type ledger map[string]*account

// account is a scenario's: its past, the eldest ahead, its future, that which comes next ahead, and, with a parent, its base.
type account struct {
	past, future []int
	now          int
	parent       string
	base         int
}

func (a *account) put(root int) {
	a.past = append(a.past, a.now)
	a.past = a.past[max(0, len(a.past)-api.MaxUndo):]
	a.now, a.future = root, nil
}

func (a *account) undo() {
	last := len(a.past) - 1
	a.future = append([]int{a.now}, a.future...)
	a.now, a.past = a.past[last], a.past[:last]
}

func (a *account) redo() {
	a.past = append(a.past, a.now)
	a.now, a.future = a.future[0], a.future[1:]
}

// note writes down a command that was done without an error; root is that of the scenario that it changed.
func (l ledger) note(x api.Cmd, root int) {
	switch x.Kind {
	case api.CSet, api.CHold, api.CRelease, api.CLock, api.CUnlock:
		l[x.Scen].put(root)
	case api.CUndo:
		l[x.Scen].undo()
	case api.CRedo:
		l[x.Scen].redo()
	case api.CBranch:
		now := l[x.Scen].now
		l[x.Other] = &account{now: now, parent: x.Scen, base: now}
	case api.CDrop:
		delete(l, x.Scen)
		for _, a := range l {
			if a.parent == x.Scen {
				a.parent, a.base = "", 0
			}
		}
	case api.CMerge:
		l[x.Other].put(root)
		if one := l[x.Other]; one.parent == x.Scen {
			one.base = l[x.Scen].now
		} else {
			l[x.Scen].base = l[x.Scen].now
		}
	}
}

// roots is those of all states, rising, without 0.
func (l ledger) roots() []int {
	var roots []int
	for _, a := range l {
		roots = append(roots, a.now)
		roots = append(roots, a.past...)
		roots = append(roots, a.future...)
		if a.parent != "" {
			roots = append(roots, a.base)
		}
	}
	slices.Sort(roots)
	return slices.DeleteFunc(roots, func(root int) bool { return root == 0 })
}

// rig is a cube, and its ledger.
type rig struct {
	t *testing.T
	c *cube.Cube
	l ledger
}

func newRig(t *testing.T, cat api.Cat) *rig {
	t.Helper()
	c, _, why := cube.New(cat)
	if why != api.OK {
		t.Fatal("New", why)
	}
	return &rig{t, c, ledger{"main": &account{}}}
}

func (r *rig) arena() *arena.Arena { return roomOf(r.c) }

func roomOf(c *cube.Cube) *arena.Arena { return c.Graph().Book().View().Pages().Arena() }

// do does a command, by ann of main if nothing else is said, and writes it down.
func (r *rig) do(x api.Cmd) api.Reply {
	if x.User == "" {
		x.User = "ann"
	}
	if x.Scen == "" {
		x.Scen = "main"
	}
	reply := r.c.Do(x)
	if reply.Why == api.OK {
		changed := x.Scen
		if x.Kind == api.CMerge {
			changed = x.Other
		}
		s, _ := r.c.Graph().State(changed)
		r.l.note(x, s.Root)
	}
	return reply
}

// must does commands that have no error.
func (r *rig) must(l ...api.Cmd) {
	r.t.Helper()
	for _, x := range l {
		if reply := r.do(x); reply.Why != api.OK {
			r.t.Fatalf("%+v: error %d", x, reply.Why)
		}
	}
}

// reached is the numbers of the nodes of an arena that belong to roots, found by going through all numbers until no more come.
func reached(a *arena.Arena, roots []int) []int {
	var l []int
	for more := true; more; {
		more = false
		for id := 1; id <= a.Cap(); id++ {
			if a.Refs(id) > 0 && !slices.Contains(l, id) && (slices.Contains(roots, id) || isPart(a, l, id)) {
				l, more = append(l, id), true
			}
			if len(l) == a.Used() {
				return l
			}
		}
	}
	return l
}

func isPart(a *arena.Arena, l []int, id int) bool {
	return places(a, l, id) > 0
}

// places is how many places of the nodes l have id.
func places(a *arena.Arena, l []int, id int) int {
	n := 0
	for _, one := range l {
		node, _ := a.At(one)
		for _, kid := range node.Kids {
			if kid == id && kid != 0 {
				n++
			}
		}
	}
	return n
}

// told holds Roots, Nodes and Refs against roots and the arena.
func told(t *testing.T, c *cube.Cube, roots []int) {
	t.Helper()
	a := roomOf(c)
	if l := audit.Roots(c); !slices.Equal(l, roots) {
		t.Fatalf("Roots = %v; want %v", l, roots)
	}
	belong := reached(a, roots)
	if n, m := audit.Nodes(c); n != a.Used() || m != len(belong) {
		t.Fatalf("Nodes = %d, %d; want %d, %d", n, m, a.Used(), len(belong))
	}
	for id := -2; id < a.Used()+3; id++ {
		want := places(a, belong, id)
		for _, root := range roots {
			if root == id {
				want++
			}
		}
		if n := audit.Refs(c, id); n != want {
			t.Fatalf("Refs %d = %d; want %d", id, n, want)
		}
	}
}

// right holds that all is as the ledger says, and as it must be behind any commands.
func (r *rig) right() {
	r.t.Helper()
	told(r.t, r.c, r.l.roots())
	sound(r.t, r.c)
}

// sound holds that a cube is as it must be: no node that does not belong, each one asked for as often as Refs tells.
func sound(t *testing.T, c *cube.Cube) {
	t.Helper()
	if why := audit.Check(c); why != api.OK {
		t.Fatal("Check", why)
	}
	a := roomOf(c)
	if n, m := audit.Nodes(c); n != a.Used() || m != n {
		t.Fatal("Nodes", n, m, a.Used())
	}
	for id := -2; id < a.Used()+3; id++ {
		if n := audit.Refs(c, id); n != a.Refs(id) {
			t.Fatalf("Refs %d = %d; the arena has %d", id, n, a.Refs(id))
		}
	}
}

func (r *rig) is(want api.Errno) {
	r.t.Helper()
	if why := audit.Check(r.c); why != want {
		r.t.Errorf("Check = %d; want %d", why, want)
	}
}

func node(name string, up int) api.Node { return api.Node{Name: name, Up: up} }

// flat is a dimension of so many leaves below all.
func flat(name string, leaves int) api.Dim {
	d := api.Dim{Name: name, Nodes: []api.Node{node("all", -1)}}
	for i := range leaves {
		d.Nodes = append(d.Nodes, node("l"+string(rune('a'+i)), 0))
	}
	return d
}

// cats is catalogues whose trees have from one level to four.
func cats() map[string]api.Cat {
	of := func(leaves int, meas []string, dims ...api.Dim) api.Cat {
		return api.Cat{Dims: dims, Meas: meas, Leaves: leaves, Scens: 4}
	}
	deep := api.Dim{Name: "x", Nodes: []api.Node{node("all", -1), node("a", 0), node("b", 0), node("c", 1), node("d", 1), node("e", -1)}}
	return map[string]api.Cat{
		"one":   of(2, []string{"m"}, flat("x", 1)),
		"two":   of(2, []string{"m"}, flat("x", 2)),
		"tight": of(3, []string{"m", "n"}, deep),
		"eight": of(1024, []string{"m", "n"}, flat("x", 4)),
		"nine":  of(1024, []string{"m", "n", "o"}, flat("x", 3)),
		"three": of(70, []string{"m"}, flat("x", 10), flat("y", 10)),
		"four":  of(1024, []string{"m", "n"}, flat("x", 20), flat("y", 20)),
	}
}

// dice is commands by chance.
type dice struct{ *rand.Rand }

func (d dice) pick(l ...string) string { return l[d.Intn(len(l))] }

func (d dice) command(cells []api.Cell) api.Cmd {
	kinds := []int{api.CSet, api.CSet, api.CSet, api.CSet, api.CSet, api.CSet, api.CHold, api.CRelease, api.CLock, api.CUnlock, api.CUndo, api.CUndo, api.CRedo, api.CBranch, api.CMerge, api.CMerge, api.CGet, api.CTop, api.CDiff}
	names := []string{"main", "main", "main", "p", "p", "q", "r"}
	x := api.Cmd{Kind: kinds[d.Intn(len(kinds))], User: d.pick("ann", "bob"), Scen: d.pick(names...), Other: d.pick(names...), Cell: cells[d.Intn(len(cells))], N: int64(d.Intn(9) - 2), How: max(0, d.Intn(6)-3)}
	if d.Intn(40) == 0 {
		x.Kind = api.CDrop
	}
	return x
}

func cellsOf(c *cube.Cube) []api.Cell {
	space := c.Graph().Book().Space()
	l := make([]api.Cell, space.Cells())
	for i := range l {
		l[i], _ = space.Cell(i)
	}
	return l
}
