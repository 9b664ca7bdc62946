package cube_test

import (
	"math"
	"slices"
	"strconv"
	"testing"

	"moiety/api"
	"moiety/cube"
	"moiety/dims"
	"moiety/scen"
	"moiety/state"
	"moiety/undo"
)

// with is a catalogue of two dimensions and two measures, turned into another one.
func with(turn func(c *api.Cat)) api.Cat {
	c := catOf(2, 2, []int{-1, 0, 0}, []int{-1, 0, 0})
	turn(&c)
	return c
}

// chain is so many members, each below the one ahead of it.
func chain(many int) []api.Node {
	var l []api.Node
	for i := range many {
		l = append(l, api.Node{Name: "n" + strconv.Itoa(i), Up: i - 1})
	}
	return l
}

// apart is so many members without one above.
func apart(many int) []api.Node {
	l := chain(many)
	for i := range l {
		l[i].Up = -1
	}
	return l
}

// P22.1: New with each of dims.New's places and errors.
func TestNewErrors(t *testing.T) {
	rows := []struct {
		cat  api.Cat
		at   int
		want api.Errno
	}{
		{api.Cat{}, -1, api.ErrSize},
		{with(func(c *api.Cat) { c.Dims = nil }), -1, api.ErrSize},
		{with(func(c *api.Cat) { c.Dims = make([]api.Dim, api.MaxDims+1) }), -1, api.ErrSize},
		{with(func(c *api.Cat) { c.Meas = nil }), -1, api.ErrSize},
		{with(func(c *api.Cat) { c.Meas = make([]string, api.MaxMeas+1) }), -1, api.ErrSize},
		{with(func(c *api.Cat) { c.Dims[0].Name = "" }), 0, api.ErrName},
		{with(func(c *api.Cat) { c.Dims[1].Name = "1" }), 1, api.ErrName},
		{with(func(c *api.Cat) { c.Dims[1].Name = "d0" }), 1, api.ErrTwice},
		{with(func(c *api.Cat) { c.Dims[0].Nodes = nil }), 0, api.ErrSize},
		{with(func(c *api.Cat) { c.Dims[1].Nodes = apart(api.MaxNodes + 1) }), 1, api.ErrSize},
		{with(func(c *api.Cat) { c.Dims[1].Nodes[2].Name = "a b" }), 1, api.ErrName},
		{with(func(c *api.Cat) { c.Dims[1].Nodes[2].Name = "n1" }), 1, api.ErrTwice},
		{with(func(c *api.Cat) { c.Dims[0].Nodes[1].Up = 3 }), 0, api.ErrRange},
		{with(func(c *api.Cat) { c.Dims[1].Nodes[0].Up = 0 }), 1, api.ErrLoop},
		{with(func(c *api.Cat) { c.Dims[1].Nodes = chain(api.MaxDepth + 1) }), 1, api.ErrDeep},
		{with(func(c *api.Cat) { c.Meas[1] = "\xff" }), -1, api.ErrName},
		{with(func(c *api.Cat) { c.Meas[1] = "m0" }), -1, api.ErrTwice},
		{with(func(c *api.Cat) { c.Dims[0].Nodes, c.Dims[1].Nodes = apart(32), apart(32) }), -1, api.ErrSize},
		{with(func(c *api.Cat) { c.Leaves = 0 }), -1, api.ErrRange},
		{with(func(c *api.Cat) { c.Leaves = api.MaxLeaves + 1 }), -1, api.ErrRange},
		{with(func(c *api.Cat) { c.Scens = 0 }), -1, api.ErrRange},
		{with(func(c *api.Cat) { c.Scens = api.MaxScens + 1 }), -1, api.ErrRange},
		{with(func(c *api.Cat) { c.Leaves, c.Scens = math.MinInt, math.MaxInt }), -1, api.ErrRange},
		{with(func(c *api.Cat) { c.Meas[0], c.Scens, c.Dims[1].Name = "", 0, "" }), 1, api.ErrName},
	}
	for i, r := range rows {
		if c, at, why := cube.New(r.cat); c != nil || at != r.at || why != r.want {
			t.Errorf("New %d = %v, %d, %d; want %d, %d", i, c, at, why, r.at, r.want)
		}
	}
}

// P22.1: a new cube has main alone, in an arena of MaxArena nodes, and the catalogue, in memory of its own.
func TestNew(t *testing.T) {
	for name, cat := range cats() {
		p := pairOf(t, cat)
		g := p.c.Graph()
		if a := g.Book().View().Pages().Arena(); a.Cap() != api.MaxArena || a.Used() != 0 {
			t.Error(name, "arena", a.Cap(), a.Used())
		}
		if s, there := g.State("main"); !there || s.Root != 0 || len(g.Names()) != 1 || g.Parent("main") != "" {
			t.Error(name, "main", s, there, g.Names())
		}
		spoil := func(c api.Cat) {
			c.Dims[0].Name, c.Meas[0] = "x", "y"
			c.Dims[0].Nodes[0] = api.Node{Name: "z", Up: 7}
		}
		want := cats()[name]
		spoil(cat)
		if !dims.Same(p.c.Cat(), want) {
			t.Error(name, "Cat hangs on what was handed in", p.c.Cat())
		}
		spoil(p.c.Cat())
		if !dims.Same(p.c.Cat(), want) {
			t.Error(name, "Cat hangs on what was told", p.c.Cat())
		}
	}
}

// P22.1, P22.3, P6: of nil, and of a cube that New did not make, each call answers that there is none.
func TestNil(t *testing.T) {
	for _, c := range []*cube.Cube{nil, new(cube.Cube)} {
		for _, kind := range []int{math.MinInt, -1, 0, api.CSet, api.CBranch, api.CMerge, api.CGet, api.CScens, api.CTop, 19, math.MaxInt} {
			if r := c.Do(api.Cmd{Kind: kind, Scen: "main", Other: "p", User: "ann"}); !sameReply(r, api.Reply{Why: api.ErrNil}) {
				t.Error("Do", kind, r)
			}
		}
		if c.Graph() != nil || c.Roll("main") != nil || c.Roll("") != nil || !dims.Same(c.Cat(), api.Cat{}) {
			t.Error("Graph, Roll, Cat", c.Graph(), c.Cat())
		}
	}
	for _, g := range []*scen.Graph{nil, new(scen.Graph)} {
		if c, why := cube.Of(g); c != nil || why != api.ErrNil {
			t.Error("Of", c, why)
		}
	}
}

// graphOf is scenarios with these values each.
func graphOf(t *testing.T, cat api.Cat, values map[string][]int64) *scen.Graph {
	t.Helper()
	d, _, why := dims.New(cat)
	if why != api.OK {
		t.Fatal("dims", why)
	}
	g, why := scen.New(d, 500)
	if why != api.OK {
		t.Fatal("scen", why)
	}
	for name, l := range values {
		s := lists{vals: l}.state(t, g.Book())
		if why := g.Load(name, "", state.State{}, undo.New(s)); why != api.OK {
			t.Fatal("Load", why)
		}
	}
	return g
}

// P22.1: Of with a state that can not be: too many leaves, or a cell that does not fit; with several, the first one's by names.
func TestOfErrors(t *testing.T) {
	over, many, right := []int64{greatest, 1}, []int64{1, 1, 1, 1}, []int64{1, 1, 1}
	both := []int64{greatest, 1, 1, 1}
	rows := []struct {
		values map[string][]int64
		want   api.Errno
	}{
		{map[string][]int64{"main": right}, api.OK},
		{map[string][]int64{"main": over}, api.ErrOver},
		{map[string][]int64{"main": many}, api.ErrFull},
		{map[string][]int64{"main": both}, api.ErrOver},
		{map[string][]int64{"main": right, "p": over}, api.ErrOver},
		{map[string][]int64{"main": right, "Z": many}, api.ErrFull},
		{map[string][]int64{"main": over, "p": many}, api.ErrOver},
		{map[string][]int64{"main": many, "p": over}, api.ErrFull},
		{map[string][]int64{"main": over, "Z": many, "p": over}, api.ErrFull},
		{map[string][]int64{"main": many, "Z": right, "a": over}, api.ErrOver},
		{map[string][]int64{"main": right, "Z": right, "a": right}, api.OK},
	}
	for i, r := range rows {
		cat := deep(3)
		cat.Leaves = 3
		g := graphOf(t, cat, r.values)
		used := g.Book().View().Pages().Arena().Used()
		c, why := cube.Of(g)
		if why != r.want || (c == nil) != (why != api.OK) {
			t.Errorf("Of %d = %v, %d; want %d", i, c, why, r.want)
		}
		if g.Book().View().Pages().Arena().Used() != used || len(g.Names()) != len(r.values) {
			t.Error("Of changed the scenarios", i)
		}
	}
}

// P22.1: a cube of scenarios has these, with their catalogue, their histories and their bases, and works on them. A state that can not be, and that is not now, is not asked; if it comes back, its sums are told as they are.
func TestOf(t *testing.T) {
	cat := deep(3)
	cat.Leaves = 3
	g := graphOf(t, cat, map[string][]int64{"main": {1, 2, 3}})
	b := g.Book()
	past := lists{vals: []int64{greatest, 1, 0, 0, 0, 5}}.state(t, b)
	now := lists{vals: []int64{4, 2, 3}, held: []api.Cell{cell(0, inB)}, locks: []api.Lock{{Cell: cell(1, all), User: "bob"}}}.state(t, b)
	h, _ := undo.Load([]state.State{past}, now, nil)
	if why := g.Load("p", "main", lists{vals: []int64{1, 2, 3}}.state(t, b), h); why != api.OK {
		t.Fatal("Load", why)
	}
	c, why := cube.Of(g)
	if why != api.OK || c.Graph() != g || !dims.Same(c.Cat(), cat) {
		t.Fatal("Of", why)
	}
	get := func(name string, k int) api.Reply {
		return c.Do(api.Cmd{Kind: api.CGet, Scen: name, Cell: cell(0, k)})
	}
	if r := get("p", all); !sameReply(r, api.Reply{N: 9}) || c.Roll("p").Full() != 3 {
		t.Error("Get", r)
	}
	if r := c.Do(api.Cmd{Kind: api.CLocks, Scen: "p"}); !sameReply(r, api.Reply{Locks: []api.Lock{{Cell: cell(1, all), User: "bob"}}}) {
		t.Error("Locks", r)
	}
	if r := c.Do(api.Cmd{Kind: api.CMerge, Scen: "p", Other: "main", User: "ann"}); !sameReply(r, api.Reply{}) {
		t.Error("Merge", r)
	}
	if r := get("main", inC); r.N != 4 {
		t.Error("Get behind Merge", r)
	}
	if r := c.Do(api.Cmd{Kind: api.CUndo, Scen: "p"}); r.Why != api.OK {
		t.Error("Undo", r)
	}
	for k, want := range map[int]api.Reply{all: {Why: api.ErrOver}, inA: {Why: api.ErrOver}, inC: {N: greatest}, inD: {N: 1}, inB: {}} {
		if r := get("p", k); !sameReply(r, want) {
			t.Errorf("Get %d = %v; want %v", k, r, want)
		}
	}
	if at, over := c.Roll("p").Over(); !over || at != cell(0, all) {
		t.Error("Over", at, over)
	}
	for _, x := range []api.Cmd{{Kind: api.CSet, N: 1}, {Kind: api.CSlice}, {Kind: api.CSlice, Cell: cell(0, inB)}} {
		x.Scen, x.User = "p", "ann"
		want := api.ErrOver
		if x.Cell != cell(0, all) {
			want = api.OK
		}
		if r := c.Do(x); r.Why != want || len(r.Rows) != 0 {
			t.Errorf("Do %v = %v", x, r)
		}
	}
}

// Rule 1: what is done to the scenarios beside the cube it sees: in all replies, and in the sums, also where nodes have come to stand in the place of others.
func TestBeside(t *testing.T) {
	p := pairOf(t, deep(3))
	p.must(api.Cmd{Kind: api.CSet, Cell: cell(0, inC), N: 1})
	g := p.c.Graph()
	sums := p.c.Roll("main")
	for i := range int64(40) {
		s := lists{vals: []int64{0, 0, i + 2, i, 0, 1}}
		g.Put("main", s.state(t, g.Book()))
		p.m.scens["main"].put(s)
		p.ask()
		if n, _ := sums.Value(cell(0, all)); n != i+2 {
			t.Error("the sums that were told", n)
		}
		if r := p.do(full(api.Cmd{Kind: api.CGet, Cell: cell(0, all)})); r.N != i+2 {
			t.Error("Get", r)
		}
	}
	g.Undo("main")
	p.m.scens["main"].undo()
	p.ask()
	g.Branch("main", "p")
	p.m.change(api.Cmd{Kind: api.CBranch, Scen: "main", Other: "p"})
	p.must(api.Cmd{Kind: api.CSet, Scen: "p", Cell: cell(0, inD), N: 7})
	g.Drop("p")
	p.m.change(api.Cmd{Kind: api.CDrop, Scen: "p"})
	p.ask()
	if r := p.do(api.Cmd{Kind: api.CGet, Scen: "p"}); r.Why != api.ErrNone || p.c.Roll("p") != nil {
		t.Error("Get of what is gone", r)
	}
	p.must(api.Cmd{Kind: api.CBranch, Other: "p"})
	if r := p.do(api.Cmd{Kind: api.CGet, Scen: "p", Cell: cell(0, inD)}); r.N != 0 {
		t.Error("Get of what came again", r)
	}
	two, why := cube.Of(g)
	if why != api.OK {
		t.Fatal("Of", why)
	}
	p.must(api.Cmd{Kind: api.CSet, Cell: cell(1, inB), N: 100})
	if n, _ := two.Roll("main").Value(cell(1, inB)); n != 100 {
		t.Error("another cube of the same", n)
	}
}

// P6: states that are not asked for, of which nothing is promised, make no command panic.
func TestOtherStates(t *testing.T) {
	for _, root := range []int{math.MinInt, -1, 1, 2, 99, api.MaxArena + 1, math.MaxInt} {
		c, _, _ := cube.New(deep(4))
		for _, name := range []string{"p", "q"} {
			c.Graph().Put("main", state.State{Root: root})
			c.Do(api.Cmd{Kind: api.CBranch, Scen: "main", Other: name})
		}
		for kind := api.CSet; kind <= api.CTop; kind++ {
			for _, x := range []api.Cmd{{Scen: "main", Other: "p"}, {Scen: "p", Other: "main", How: api.Theirs}} {
				x.Kind, x.User, x.N = kind, "ann", 5
				c.Do(x)
			}
		}
		cube.Of(c.Graph())
		c.Roll("q")
	}
}

// P22.3: the sums that were told once are those of the scenario behind each command.
func TestToldRoll(t *testing.T) {
	p := pairOf(t, deep(3))
	sums := p.c.Roll("main")
	is := func(want int64) {
		t.Helper()
		if n, why := sums.Value(cell(0, all)); n != want || why != api.OK {
			t.Errorf("the sums are %d, %d; want %d", n, why, want)
		}
	}
	// No pair's own commands here: they ask for the sums, and so bring them up to date.
	do := func(x api.Cmd) {
		t.Helper()
		if r := p.c.Do(full(x)); r.Why != api.OK {
			t.Fatalf("Do %v = %d", x, r.Why)
		}
	}
	do(api.Cmd{Kind: api.CSet, N: 7})
	is(7)
	do(api.Cmd{Kind: api.CSet, N: 9, How: api.Prop})
	is(9)
	do(api.Cmd{Kind: api.CUndo})
	is(7)
	do(api.Cmd{Kind: api.CRedo})
	is(9)
	do(api.Cmd{Kind: api.CBranch, Other: "p"})
	do(api.Cmd{Kind: api.CSet, Scen: "p", N: 1})
	is(9)
	do(api.Cmd{Kind: api.CMerge, Scen: "p", Other: "main"})
	is(1)
	do(api.Cmd{Kind: api.CHold})
	is(1)
	// Of a scenario that is gone nothing is told any more, also if one of its name comes again.
	gone := p.c.Roll("p")
	do(api.Cmd{Kind: api.CDrop, Scen: "p"})
	do(api.Cmd{Kind: api.CUndo})
	do(api.Cmd{Kind: api.CUndo})
	do(api.Cmd{Kind: api.CBranch, Other: "p"})
	if n, _ := gone.Value(cell(0, all)); n != 1 || p.c.Roll("p").Same(gone) {
		t.Error("the sums of what is gone", n)
	}
	is(9)
}

// P22.2: Changes of each kind, and of numbers that are none.
func TestChanges(t *testing.T) {
	want := []int{api.CSet, api.CHold, api.CRelease, api.CLock, api.CUnlock, api.CUndo, api.CRedo, api.CBranch, api.CDrop, api.CMerge}
	for kind := -30; kind <= 30; kind++ {
		if cube.Changes(kind) != slices.Contains(want, kind) {
			t.Error("Changes", kind)
		}
	}
	for _, kind := range []int{math.MinInt, math.MaxInt, math.MinInt32, 1 << 32, 1<<32 + 1} {
		if cube.Changes(kind) {
			t.Error("Changes", kind)
		}
	}
}

// P22.1 to P22.3: as many cells, or leaves, as there may be: written from above, their sums, and what is undone.
func TestLimits(t *testing.T) {
	pairs := make([]int, 32)
	for i := range 16 {
		pairs[2*i], pairs[2*i+1] = -1, 2*i
	}
	wide := make([]int, 16)
	wide[0] = -1
	for name, cat := range map[string]api.Cat{"pairs": catOf(8, 4, pairs, pairs), "three": catOf(8, 1, wide, wide, []int{-1, 0, 0, 0, 0, 1, 2, 3, 4, 5, 6, 7, 8, 9, 10, 11}), "lines": catOf(8, 4, pairs, pairs[:31])} {
		c, _, why := cube.New(cat)
		if why != api.OK {
			t.Error(name, "New", why)
			continue
		}
		top := api.Cell{}
		free := c.Do(api.Cmd{Kind: api.CFree, Scen: "main", Cell: top}).N
		for i := range int64(20) {
			for _, how := range []int{api.Equal, api.Prop} {
				if r := c.Do(api.Cmd{Kind: api.CSet, Scen: "main", User: "ann", Cell: top, N: 1000000 + i*977, How: how}); r.Why != api.OK {
					t.Fatal(name, "Set", r)
				}
			}
		}
		r := c.Do(api.Cmd{Kind: api.CTop, Scen: "main", Cell: top, N: greatest})
		sum := int64(0)
		for _, row := range r.Rows {
			sum += row.A
		}
		if sum != 1000000+19*977 || int64(len(r.Rows)) != free || c.Roll("main").Full() != len(r.Rows) {
			t.Error(name, "Top", len(r.Rows), sum)
		}
		for range api.MaxUndo {
			c.Do(api.Cmd{Kind: api.CUndo, Scen: "main"})
		}
		if r := c.Do(api.Cmd{Kind: api.CGet, Scen: "main", Cell: top}); r.N != 1000000+13*977 {
			t.Error(name, "Get", r)
		}
	}
}
