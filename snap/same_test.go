package snap_test

import (
	"math/rand"
	"slices"
	"testing"

	"moiety/api"
	"moiety/cube"
	"moiety/scen"
	"moiety/snap"
	"moiety/state"
	"moiety/undo"
)

// sameReply tells whether two replies are alike; a list that is nil and an empty one are.
func sameReply(a, b api.Reply) bool {
	return a.Why == b.Why && a.N == b.N && slices.Equal(a.Names, b.Names) && slices.Equal(a.Rows, b.Rows) && slices.Equal(a.Locks, b.Locks) && slices.Equal(a.Clashes, b.Clashes)
}

// both does a command to two cubes, whose replies must be alike.
func both(t *testing.T, c, d *cube.Cube, x api.Cmd) api.Reply {
	t.Helper()
	a, b := c.Do(x), d.Do(x)
	if !sameReply(a, b) {
		t.Fatalf("Do %+v = %+v; the other one's is %+v", x, b, a)
	}
	return a
}

// askBoth asks all that can be asked of both cubes.
func askBoth(t *testing.T, c, d *cube.Cube) {
	t.Helper()
	space := c.Graph().Book().Space()
	names := both(t, c, d, api.Cmd{Kind: api.CScens}).Names
	for _, name := range names {
		both(t, c, d, api.Cmd{Kind: api.CHolds, Scen: name})
		both(t, c, d, api.Cmd{Kind: api.CLocks, Scen: name})
		for _, other := range names {
			both(t, c, d, api.Cmd{Kind: api.CDiff, Scen: name, Other: other})
		}
		for i := range space.Cells() {
			at, _ := space.Cell(i)
			both(t, c, d, api.Cmd{Kind: api.CGet, Scen: name, Cell: at})
			both(t, c, d, api.Cmd{Kind: api.CTop, Scen: name, Cell: at, N: 4})
			for _, user := range []string{"ann", "bob"} {
				both(t, c, d, api.Cmd{Kind: api.CFree, Scen: name, Cell: at, User: user})
			}
			for dim := range space.Dims().Many() {
				both(t, c, d, api.Cmd{Kind: api.CSlice, Scen: name, Cell: at, Meas: dim})
			}
		}
		if !c.Roll(name).Same(d.Roll(name)) {
			t.Fatalf("the sums of %s are not the same", name)
		}
		g, h := c.Graph(), d.Graph()
		if g.Parent(name) != h.Parent(name) || g.History(name).Depth() != h.History(name).Depth() || g.History(name).Ahead() != h.History(name).Ahead() {
			t.Fatalf("%s: parent, past and future are not the same", name)
		}
	}
	if !slices.Equal(look(t, c).bytes(), look(t, d).bytes()) || !slices.Equal(snap.Put(c), snap.Put(d)) {
		t.Fatal("what both have is not the same")
	}
}

// anyCmd is a command of any kind that changes something, mostly one that can be done.
func anyCmd(r *rand.Rand, c *cube.Cube) api.Cmd {
	space := c.Graph().Book().Space()
	names := append(c.Graph().Names(), "p", "q", "zz")
	users := []string{"ann", "bob", "ann", ""}
	at, _ := space.Cell(r.Intn(space.Cells()))
	kinds := []int{api.CSet, api.CSet, api.CSet, api.CHold, api.CRelease, api.CLock, api.CUnlock, api.CUndo, api.CUndo, api.CRedo, api.CBranch, api.CDrop, api.CMerge, api.CMerge}
	return api.Cmd{
		Kind:  kinds[r.Intn(len(kinds))],
		User:  users[r.Intn(len(users))],
		Scen:  names[r.Intn(len(names))],
		Other: names[r.Intn(len(names))],
		Cell:  at,
		N:     int64(r.Intn(2000) - 1000),
		How:   r.Intn(3),
		Meas:  r.Intn(2),
	}
}

// P26.3: what came of Put's bytes answers as the cube itself, at once and whatever is done from then on.
func TestGetOfPutAnswersAlike(t *testing.T) {
	r := rand.New(rand.NewSource(263))
	for name, cat := range cats() {
		for range 12 {
			c := newCube(t, cat)
			for range r.Intn(80) {
				c.Do(anyCmd(r, c))
			}
			d := gets(t, name, snap.Put(c))
			puts(t, name, c, look(t, c).bytes())
			askBoth(t, c, d)
			for range 60 {
				both(t, c, d, anyCmd(r, c))
			}
			askBoth(t, c, d)
			// And once more, of the one that came of bytes.
			e := gets(t, name, snap.Put(d))
			for range 20 {
				both(t, c, e, anyCmd(r, c))
			}
			askBoth(t, c, e)
		}
	}
}

// P26.3: all undos and redos are there, in each scenario.
func TestGetOfPutGoesBack(t *testing.T) {
	c := busy(t)
	d := gets(t, "busy", snap.Put(c))
	for _, name := range c.Graph().Names() {
		for both(t, c, d, api.Cmd{Kind: api.CRedo, Scen: name}).Why == api.OK {
			askBoth(t, c, d)
		}
		for both(t, c, d, api.Cmd{Kind: api.CUndo, Scen: name}).Why == api.OK {
			askBoth(t, c, d)
		}
	}
	for _, x := range []api.Cmd{
		{Kind: api.CMerge, Scen: "p", Other: "main", User: "ann"},
		{Kind: api.CMerge, Scen: "a", Other: "p", User: "ann", How: api.Theirs},
		{Kind: api.CMerge, Scen: "main", Other: "p", User: "bob", How: api.Ours},
		{Kind: api.CMerge, Scen: "q", Other: "p", User: "ann", How: api.Abort},
		{Kind: api.CMerge, Scen: "q", Other: "main", User: "ann"},
		{Kind: api.CDrop, Scen: "p"},
		{Kind: api.CMerge, Scen: "a", Other: "p", User: "ann"},
		{Kind: api.CBranch, Scen: "a", Other: "p"},
		{Kind: api.CBranch, Scen: "a", Other: "five"},
	} {
		both(t, c, d, x)
		askBoth(t, c, d)
	}
}

// P26.3: neither shares anything with the other.
func TestGetOfPutIsAnother(t *testing.T) {
	c := busy(t)
	b := snap.Put(c)
	d, e := gets(t, "one", b), gets(t, "another", b)
	spoil := func(c *cube.Cube) {
		r := rand.New(rand.NewSource(1))
		for range 60 {
			c.Do(anyCmd(r, c))
		}
		if slices.Equal(snap.Put(c), b) {
			t.Error("nothing is changed")
		}
	}
	spoil(d)
	puts(t, "the first one", c, b)
	puts(t, "the other one", e, b)
	spoil(c)
	puts(t, "the other one", e, b)
	if c.Graph() == e.Graph() || c.Graph().Book() == e.Graph().Book() || c.Roll("main") == e.Roll("main") {
		t.Error("something is shared")
	}
}

// P26.2: each state is asked for just once: when all are gone, the arena has no nodes (P21.7).
func TestGetAsksForNoMore(t *testing.T) {
	for what, l := range map[string]cubeOf{"sound": sound(), "busy": look(t, busy(t))} {
		c := gets(t, what, l.bytes())
		g := c.Graph()
		nodes := g.Book().View().Pages().Arena()
		if nodes.Used() == 0 {
			t.Fatal("no nodes")
		}
		askBoth(t, c, l.load(t))
		for _, name := range g.Names() {
			if name != scen.Main {
				must(t, c, of(name, api.Cmd{Kind: api.CDrop}))
			}
		}
		if why := g.Load(scen.Main, "", state.State{}, undo.New(state.State{})); why != api.OK {
			t.Fatal("Load", why)
		}
		if nodes.Used() != 0 {
			t.Errorf("%s: %d nodes are left", what, nodes.Used())
		}
	}
}
