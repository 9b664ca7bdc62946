package scen_test

import (
	"math"
	"math/rand"
	"slices"
	"strconv"
	"testing"

	"moiety/api"
	"moiety/dims"
	"moiety/scen"
	"moiety/state"
	"moiety/undo"
)

// P21.1: New with each of state.New's errors, and with both; else main alone, without a parent, with the zero state, in an arena of that room.
func TestNew(t *testing.T) {
	d := dimsOf(t, deep(3))
	rows := []struct {
		d    *dims.Dims
		room int
		want api.Errno
	}{
		{nil, 100, api.ErrNil}, {nil, 0, api.ErrNil}, {nil, math.MinInt, api.ErrNil},
		{d, 0, api.ErrArg}, {d, -1, api.ErrArg}, {d, api.MaxArena + 1, api.ErrArg}, {d, math.MinInt, api.ErrArg}, {d, math.MaxInt, api.ErrArg},
	}
	for _, r := range rows {
		if g, why := scen.New(r.d, r.room); g != nil || why != r.want {
			t.Errorf("New of room %d = %v, %d; want %d", r.room, g, why, r.want)
		}
	}
	for _, room := range []int{1, 77, api.MaxArena} {
		p := pairOf(t, deep(3), room)
		s, there := p.g.State(scen.Main)
		if !there || s.Root != 0 || scen.Main != "main" || !slices.Equal(p.g.Names(), []string{"main"}) || p.g.Parent("main") != "" {
			t.Error("New", s, there, p.g.Names())
		}
		if a := p.g.Book().View().Pages().Arena(); a.Cap() != room || a.Used() != 0 {
			t.Error("the arena", a.Cap(), a.Used())
		}
		if h := p.g.History("main"); h.Depth() != 0 || h.Ahead() != 0 {
			t.Error("History", h.Depth(), h.Ahead())
		}
	}
}

// P21.1: what is asked of a name that is no scenario.
func TestNone(t *testing.T) {
	p := pairOf(t, deep(3), 100)
	for _, name := range append(noNames(), "none", "Main", "mai", "mainn") {
		if s, there := p.g.State(name); there || s.Root != 0 {
			t.Errorf("State %q = %v", name, s)
		}
		if p.g.Parent(name) != "" || p.g.History(name) != nil {
			t.Errorf("%q: Parent, History", name)
		}
		if s, there := p.g.Base("main", name); there || s.Root != 0 {
			t.Errorf("Base %q = %v", name, s)
		}
	}
}

// P6, P21.1 to P21.4, P21.8: of nil, and of a graph that New did not make, each call answers that there is none.
func TestNil(t *testing.T) {
	for _, g := range []*scen.Graph{nil, new(scen.Graph)} {
		for _, name := range append(noNames(), "main", "p") {
			s, is := g.State(name)
			base, has := g.Base("main", name)
			if is || has || s.Root != 0 || base.Root != 0 || g.Parent(name) != "" || g.History(name) != nil {
				t.Errorf("%q is told", name)
			}
			h := undo.New(state.State{})
			for i, why := range []api.Errno{
				g.Branch("main", name), g.Branch(name, "p"), g.Drop(name), g.Put(name, state.State{}), g.Undo(name), g.Redo(name),
				g.Load(name, "main", state.State{}, h), g.Load(name, "", state.State{}, nil),
			} {
				if why != api.ErrNil {
					t.Errorf("call %d of %q = %d", i, name, why)
				}
			}
			for how := -1; how <= 3; how++ {
				if l, why := g.Merge("p", name, "ann", how); len(l) != 0 || why != api.ErrNil {
					t.Errorf("Merge of %q = %v, %d", name, l, why)
				}
			}
		}
		if g.Book() != nil || len(g.Names()) != 0 {
			t.Error("Book, Names")
		}
	}
}

// P21.4: the chapter's example.
func TestExample(t *testing.T) {
	p := pairOf(t, deep(2), 100)
	p.write("main", val(0, 1))
	p.branch("main", "plan")
	p.write("plan", val(0, 3))
	if l, why := p.merge("plan", "main", "ann", api.Abort); len(l) != 0 || why != api.OK {
		t.Error("Merge", l, why)
	}
	p.has("main", 3)
}

// P21.1: names byte by byte, in whatever order they came to be; what is written into the answer is seen by no later one (rule 4).
func TestNames(t *testing.T) {
	want := []string{"Z", "Zz", "a", "a1", "aB", "a_", "aa", "main"}
	for _, order := range [][]int{{0, 1, 2, 3, 4, 5, 6}, {6, 5, 4, 3, 2, 1, 0}, {3, 0, 6, 1, 5, 2, 4}} {
		p := pairOf(t, deep(8), 100)
		for _, i := range order {
			p.branch("main", want[i])
		}
		l := p.g.Names()
		if !slices.Equal(l, want) {
			t.Fatal("Names", l)
		}
		_ = append(l[:1], "x")
		clear(l)
		if l := p.g.Names(); !slices.Equal(l, want) {
			t.Error("Names behind a write into it", l)
		}
	}
}

// P21.2: each error of Branch, and several at once: the one that is named first.
func TestBranchErrors(t *testing.T) {
	p := pairOf(t, deep(3), 100)
	p.write("main", val(0, 5))
	p.branch("main", "p")
	for _, full := range []bool{false, true} {
		rows := []struct {
			from, name string
			want       api.Errno
		}{
			{"none", "q", api.ErrNone}, {"", "q", api.ErrNone}, {"none", "", api.ErrNone}, {"none", "1", api.ErrNone}, {"none", "p", api.ErrNone}, {"Main", "main", api.ErrNone},
			{"main", "main", api.ErrTwice}, {"main", "p", api.ErrTwice}, {"p", "main", api.ErrTwice}, {"p", "p", api.ErrTwice},
		}
		for _, name := range noNames() {
			rows = append(rows, struct {
				from, name string
				want       api.Errno
			}{"p", name, api.ErrName})
		}
		for _, r := range rows {
			if why := p.branch(r.from, r.name); why != r.want {
				t.Errorf("Branch %q %q = %d; want %d", r.from, r.name, why, r.want)
			}
		}
		if full {
			break
		}
		if why := p.branch("p", "q"); why != api.OK {
			t.Error("the third one", why)
		}
	}
	for _, name := range []string{"r", "A", "a23456789012"} {
		if why := p.branch("p", name); why != api.ErrFull {
			t.Error("the fourth one", why)
		}
	}
	p.drop("p")
	if why := p.branch("q", "a23456789012"); why != api.OK {
		t.Error("behind Drop", why)
	}
}

// P21.2: as many scenarios as the catalogue's Scens, from 1 to the most, and one more.
func TestScens(t *testing.T) {
	for scens := 1; scens <= api.MaxScens; scens++ {
		p := pairOf(t, deep(scens), 100)
		for i := 1; i < scens; i++ {
			if why := p.branch("main", "s"+strconv.Itoa(i)); why != api.OK {
				t.Fatal("Branch", i, why)
			}
		}
		if why := p.branch("main", "one_more"); why != api.ErrFull {
			t.Error("Branch of one more", why)
		}
		if why := p.load("one_more", line{now: p.lists(1)}); why != api.ErrFull {
			t.Error("Load of one more", why)
		}
		if why := p.load("main", line{now: p.lists(1)}); why != api.OK {
			t.Error("Load of main", why)
		}
	}
}

// P21.2: the new one's parent is from, its base from's state, and its history that alone, whatever from's history is.
func TestBranch(t *testing.T) {
	p := pairOf(t, deep(4), 200)
	p.write("main", val(0, 1))
	p.hold("main", cell(0, inC))
	p.lock("main", cell(1, all), "ann")
	p.write("main", val(1, 2))
	p.undo("main")
	was := p.used()
	p.branch("main", "p")
	h := p.g.History("p")
	base, there := p.g.Base("main", "p")
	now, _ := p.g.State("main")
	b := p.g.Book()
	if p.g.Parent("p") != "main" || h.Depth() != 0 || h.Ahead() != 0 || !there || !b.Same(base, now) || !b.Same(h.Now(), now) {
		t.Error("Branch", p.g.Parent("p"), h.Depth(), h.Ahead(), base)
	}
	if p.used() != was {
		t.Error("Branch made nodes", p.used(), was)
	}
	if why := p.undo("p"); why != api.ErrEmpty {
		t.Error("Undo", why)
	}
	p.branch("p", "q")
	if p.g.Parent("q") != "p" || p.g.Parent("p") != "main" {
		t.Error("Parent of a branch's branch", p.g.Parent("q"))
	}
}

// P21.5: what is done to one of both behind a branch changes nothing of the other one, whichever it is.
func TestApart(t *testing.T) {
	for _, name := range []string{"main", "p"} {
		other := map[string]string{"main": "p", "p": "main"}[name]
		p := pairOf(t, deep(4), 400)
		p.write("main", val(0, 1), val(4, 9))
		p.branch("main", "p")
		p.write(other, val(2, 2))
		p.write(other, val(2, 3))
		p.undo(other)
		b := p.g.Book()
		then, _ := p.g.State(other)
		was := read(t, b, then)
		p.write(name, val(0, 0), val(1, 8), val(2, 7))
		p.hold(name, cell(0, inC))
		p.hold(name, cell(1, all))
		p.lock(name, cell(0, all), "ann")
		p.undo(name)
		p.redo(name)
		p.branch(name, "q")
		p.drop("q")
		for i := range int64(20) {
			p.write(name, val(5, i))
		}
		for p.undo(name) == api.OK {
		}
		now, _ := p.g.State(other)
		h := p.g.History(other)
		if !read(t, b, now).same(was) || h.Ahead() != 1 || h.Depth() != len(h.Past()) || h.Depth() < 1 {
			t.Errorf("%s is %v; want %v", other, read(t, b, now), was)
		}
	}
}

// P21.2: Drop of no scenario, of main; else it is gone, and all nodes that it alone had.
func TestDrop(t *testing.T) {
	p := pairOf(t, deep(4), 200)
	p.write("main", val(0, 1))
	was := p.used()
	for _, name := range append(noNames(), "none", "p") {
		if why := p.drop(name); why != api.ErrNone {
			t.Errorf("Drop %q = %d", name, why)
		}
	}
	if why := p.drop("main"); why != api.ErrUsed {
		t.Error("Drop of main", why)
	}
	p.branch("main", "p")
	for i := range int64(20) {
		p.write("p", val(2, i), val(5, i))
	}
	p.undo("p")
	p.undo("p")
	if why := p.drop("main"); why != api.ErrUsed {
		t.Error("Drop of main", why)
	}
	if why := p.drop("p"); why != api.OK || p.used() != was || p.g.History("p") != nil {
		t.Error("Drop", why, p.used(), was)
	}
	if why := p.drop("p"); why != api.ErrNone {
		t.Error("Drop of what is gone", why)
	}
	p.has("main", 1)
}

// P21.2: those that branched off one that is dropped have no parent and no base any more, also if a scenario of that name comes again.
func TestOrphans(t *testing.T) {
	for _, again := range []func(p pair) api.Errno{
		func(p pair) api.Errno { return p.branch("main", "p") },
		func(p pair) api.Errno { return p.branch("q", "p") },
		func(p pair) api.Errno { return p.load("p", line{now: p.lists(9)}) },
	} {
		p := pairOf(t, deep(5), 300)
		p.write("main", val(0, 1))
		p.branch("main", "p")
		p.write("p", val(1, 2))
		p.branch("p", "q")
		p.write("q", val(2, 3))
		p.branch("p", "r")
		p.branch("q", "s")
		if why := p.drop("p"); why != api.OK {
			t.Fatal("Drop", why)
		}
		gone := func() {
			t.Helper()
			for _, name := range []string{"q", "r"} {
				_, one := p.g.Base("p", name)
				_, two := p.g.Base(name, "p")
				if p.g.Parent(name) != "" || one || two {
					t.Error(name, "has a parent", p.g.Parent(name), one, two)
				}
			}
			if _, there := p.g.Base("q", "s"); p.g.Parent("s") != "q" || !there {
				t.Error("s has none", p.g.Parent("s"))
			}
		}
		gone()
		p.has("q", 1, 2, 3)
		p.has("r", 1, 2)
		if why := again(p); why != api.OK {
			t.Fatal("again", why)
		}
		if p.g.Parent("p") != "q" {
			gone()
			if _, why := p.merge("q", "p", "ann", api.Ours); why != api.ErrBase {
				t.Error("Merge", why)
			}
		}
		if _, why := p.merge("p", "r", "ann", api.Ours); why != api.ErrBase {
			t.Error("Merge", why)
		}
	}
}

// P21.3: Put of no scenario; else the history goes on, and there is nothing to redo; what it does not keep is gone from the arena.
func TestPut(t *testing.T) {
	p := pairOf(t, deep(2), 300)
	for _, name := range append(noNames(), "none") {
		if why := p.write(name, val(0, 3)); why != api.ErrNone {
			t.Errorf("Put %q = %d", name, why)
		}
	}
	for i := range int64(5) {
		if why := p.write("main", val(0, i+1)); why != api.OK {
			t.Error("Put", why)
		}
	}
	p.undo("main")
	p.undo("main")
	h := p.g.History("main")
	if h.Depth() != 3 || h.Ahead() != 2 {
		t.Error("History", h.Depth(), h.Ahead())
	}
	p.write("main", val(1, 7))
	if h := p.g.History("main"); h.Depth() != 4 || h.Ahead() != 0 {
		t.Error("History behind Put", h.Depth(), h.Ahead())
	}
	if why := p.redo("main"); why != api.ErrEmpty {
		t.Error("Redo behind Put", why)
	}
	p.has("main", 3, 7)
	// The same state once more is a step, too.
	p.write("main")
	if h := p.g.History("main"); h.Depth() != 5 {
		t.Error("History behind Put of the same", h.Depth())
	}
	if p.used() != 4 {
		t.Error("nodes", p.used())
	}
}

// P21.3: Undo and Redo of no scenario, at the history's ends, and more than MaxUndo times.
func TestUndoRedo(t *testing.T) {
	p := pairOf(t, deep(2), 300)
	for _, name := range append(noNames(), "none") {
		if p.undo(name) != api.ErrNone || p.redo(name) != api.ErrNone {
			t.Errorf("%q is undone", name)
		}
	}
	if p.undo("main") != api.ErrEmpty || p.redo("main") != api.ErrEmpty {
		t.Error("a new one is undone")
	}
	const done = api.MaxUndo + 5
	for i := range int64(done) {
		p.write("main", val(3, i+1))
	}
	for i := range api.MaxUndo {
		if why := p.undo("main"); why != api.OK {
			t.Error("Undo", i, why)
		}
		p.has("main", 0, 0, 0, int64(done-1-i))
	}
	for range 3 {
		if why := p.undo("main"); why != api.ErrEmpty {
			t.Error("Undo of more than MaxUndo", why)
		}
	}
	for i := range api.MaxUndo {
		if why := p.redo("main"); why != api.OK {
			t.Error("Redo", i, why)
		}
		p.has("main", 0, 0, 0, int64(done-api.MaxUndo+1+i))
	}
	if why := p.redo("main"); why != api.ErrEmpty {
		t.Error("Redo at the end", why)
	}
	if p.used() != api.MaxUndo+1 {
		t.Error("nodes", p.used())
	}
}

// P21.4: Base of a parent and its branch in both orders; of two that have none; of one and itself; of one without a parent and "".
func TestBase(t *testing.T) {
	p := pairOf(t, deep(5), 300)
	p.write("main", val(0, 1))
	p.branch("main", "p")
	p.write("main", val(0, 2))
	p.branch("main", "q")
	p.write("p", val(0, 3))
	p.branch("p", "r")
	want := map[[2]string]int64{{"main", "p"}: 1, {"p", "main"}: 1, {"main", "q"}: 2, {"q", "main"}: 2, {"p", "r"}: 3, {"r", "p"}: 3}
	names := append(p.g.Names(), "", "none", "1")
	for _, a := range names {
		for _, b := range names {
			n, is := want[[2]string{a, b}]
			s, there := p.g.Base(a, b)
			v, why := p.g.Book().Value(s, cell(0, inC))
			if there != is || why != api.OK || v != n {
				t.Errorf("Base %q %q = %d, %v; want %d, %v", a, b, v, there, n, is)
			}
		}
	}
	// Undo takes no base back.
	p.undo("main")
	p.undo("main")
	if s, _ := p.g.Base("main", "q"); s.Root == 0 {
		t.Error("Base behind Undo", s)
	}
}

// P21.4: Merge of no scenario, ahead of all else; of two without a base, ahead of merge's errors.
func TestMergeNone(t *testing.T) {
	p := pairOf(t, deep(4), 300)
	p.branch("main", "p")
	p.branch("main", "q")
	p.write("p", val(0, 1))
	for _, user := range []string{"ann", "", "1"} {
		for how := -1; how <= 3; how++ {
			for _, name := range append(noNames(), "none") {
				for _, two := range [][2]string{{name, "main"}, {"main", name}, {name, name}, {name, "none"}} {
					if l, why := p.merge(two[0], two[1], user, how); len(l) != 0 || why != api.ErrNone {
						t.Errorf("Merge %v = %v, %d", two, l, why)
					}
				}
			}
			for _, two := range [][2]string{{"p", "q"}, {"q", "p"}, {"p", "p"}, {"main", "main"}} {
				if l, why := p.merge(two[0], two[1], user, how); len(l) != 0 || why != api.ErrBase {
					t.Errorf("Merge %v = %v, %d", two, l, why)
				}
			}
		}
	}
}

// refused asks whether Merge tells that error, and changes nothing.
func (p pair) refused(from, into, user string, how int, want api.Errno) []api.Clash {
	p.t.Helper()
	was := p.used()
	s, _ := p.g.State(into)
	depth := p.g.History(into).Depth()
	l, why := p.merge(from, into, user, how)
	now, _ := p.g.State(into)
	if why != want || now.Root != s.Root || p.g.History(into).Depth() != depth || p.used() != was {
		p.t.Errorf("Merge %s %s = %v, %d; want %d", from, into, l, why, want)
	}
	if (why == api.ErrClash) != (len(l) > 0) {
		p.t.Errorf("Merge %s %s tells %v with %d", from, into, l, why)
	}
	return l
}

// P21.4: each error of merge.Merge, of which nothing is changed; with ErrClash the leaves are told.
func TestMergeErrors(t *testing.T) {
	cat := deep(2)
	cat.Leaves = 3
	rows := []struct {
		from, into []state.Val
		user       string
		how        int
		want       api.Errno
	}{
		{[]state.Val{val(0, 5)}, []state.Val{val(0, 3)}, "1", -1, api.ErrName},
		{[]state.Val{val(0, 5)}, []state.Val{val(0, 3)}, "", api.Abort, api.ErrName},
		{[]state.Val{val(0, 5)}, []state.Val{val(0, 3)}, "ann", -1, api.ErrArg},
		{[]state.Val{val(0, 5)}, []state.Val{val(0, 3)}, "ann", 3, api.ErrArg},
		{[]state.Val{val(0, 5)}, []state.Val{val(0, 3)}, "ann", math.MaxInt, api.ErrArg},
		{[]state.Val{val(0, 5), val(3, 2)}, []state.Val{val(0, 3)}, "ann", api.Abort, api.ErrClash},
		{[]state.Val{val(0, 5), val(3, 2)}, []state.Val{val(0, 3)}, "ann", api.Theirs, api.ErrLocked},
		{[]state.Val{val(3, 2)}, []state.Val{val(0, 3)}, "ann", api.Ours, api.ErrLocked},
		{[]state.Val{val(0, 5)}, []state.Val{val(1, greatest-2)}, "ann", api.Abort, api.ErrOver},
		{[]state.Val{val(0, 5)}, []state.Val{val(1, greatest-2)}, "bob", api.Theirs, api.ErrOver},
		{[]state.Val{val(3, 5), val(4, 5)}, nil, "bob", api.Abort, api.ErrFull},
		{[]state.Val{val(3, 5)}, []state.Val{val(2, 5)}, "bob", api.Ours, api.ErrFull},
	}
	for _, two := range [][2]string{{"p", "main"}, {"main", "p"}} {
		for _, r := range rows {
			p := pairOf(t, cat, 300)
			p.write("main", val(0, 1), val(1, 1))
			p.branch("main", "p")
			p.write(two[0], r.from...)
			p.write(two[1], r.into...)
			p.lock(two[1], cell(1, all), "bob")
			l := p.refused(two[0], two[1], r.user, r.how, r.want)
			if r.want == api.ErrClash && !slices.Equal(l, []api.Clash{{Cell: cell(0, inC), Base: 1, Ours: 3, From: 5}}) {
				t.Error("Clashes", l)
			}
		}
	}
}

// P21.4: a merge for which the arena has no room, be it for the first leaf that becomes another one or for the second one: nothing is changed.
func TestMergeFull(t *testing.T) {
	for _, two := range [][2]string{{"p", "main"}, {"main", "p"}} {
		for room := 8; room <= 12; room++ {
			from, into := two[0], two[1]
			p := pairOf(t, grid(2), room)
			p.write("main", val(0, 1))
			p.branch("main", "p")
			p.write(from, val(9, 2))
			p.write(from, val(10, 2))
			p.write(into, val(17, 3))
			if p.used() != 8 {
				t.Fatal("nodes", p.used())
			}
			// Each of both leaves needs two nodes more, ahead of those that are let go.
			if room == 12 {
				if l, why := p.merge(from, into, "ann", api.Abort); len(l) != 0 || why != api.OK {
					t.Error("Merge with room", l, why)
				}
				continue
			}
			for how := range 3 {
				if l, why := p.g.Merge(from, into, "ann", how); len(l) != 0 || why != api.ErrFull {
					t.Errorf("Merge with room %d = %v, %d", room, l, why)
				}
				p.ask()
			}
		}
	}
}

// P21.4: the catalogue's Leaves are the most that may have a value.
func TestMergeLeaves(t *testing.T) {
	for leaves := 1; leaves <= 4; leaves++ {
		cat := deep(2)
		cat.Leaves = leaves
		p := pairOf(t, cat, 300)
		p.write("main", val(0, 1))
		p.branch("main", "p")
		p.write("p", val(2, 1), val(3, 1))
		p.write("main", val(0, 0), val(5, 2))
		want := api.OK
		if leaves < 3 {
			want = api.ErrFull
		}
		if _, why := p.merge("p", "main", "ann", api.Abort); why != want {
			t.Errorf("Merge with %d leaves = %d", leaves, why)
		}
	}
}

// P21.4: from a branch into its parent and from a parent into its branch: into's history goes on, and the base of the two, in both orders, is from's state then.
func TestMerge(t *testing.T) {
	for _, two := range [][2]string{{"p", "main"}, {"main", "p"}} {
		from, into := two[0], two[1]
		p := pairOf(t, deep(3), 300)
		p.write("main", val(0, 1), val(1, 1), val(2, 1))
		p.branch("main", "p")
		p.branch("main", "q")
		p.write(from, val(0, 5), val(1, 6))
		p.write(into, val(1, 8), val(2, 9))
		p.write(into, val(4, 1))
		p.undo(into)
		depth := p.g.History(into).Depth()
		l, why := p.merge(from, into, "ann", api.Theirs)
		if why != api.OK || !slices.Equal(l, []api.Clash{{Cell: cell(0, inD), Base: 1, Ours: 8, From: 6}}) {
			t.Error("Merge", l, why)
		}
		p.has(into, 5, 6, 9)
		p.has(from, 5, 6, 1)
		p.has("q", 1, 1, 1)
		if h := p.g.History(into); h.Depth() != depth+1 || h.Ahead() != 0 {
			t.Error("History", h.Depth(), h.Ahead())
		}
		then, _ := p.g.State(from)
		for _, order := range [][2]string{{from, into}, {into, from}} {
			if s, there := p.g.Base(order[0], order[1]); !there || !p.g.Book().Same(s, then) {
				t.Error("Base", order, s, there)
			}
		}
		if s, _ := p.g.Base("main", "q"); p.g.Book().Full(s) != 3 {
			t.Error("Base of others", s)
		}
		if p.g.Parent("p") != "main" || p.g.Parent("main") != "" {
			t.Error("Parent", p.g.Parent("p"), p.g.Parent("main"))
		}
		p.undo(into)
		p.has(into, 1, 8, 9)
		p.redo(into)
		p.has(into, 5, 6, 9)
	}
}

// P21.6: a second merge, with nothing done in between, changes no value, nothing that is held or locked, and no base; nor does one behind it the other way round, where the first one had nothing to leave out.
func TestMergeTwice(t *testing.T) {
	for _, two := range [][2]string{{"p", "main"}, {"main", "p"}} {
		for how := range 3 {
			from, into := two[0], two[1]
			p := pairOf(t, deep(2), 300)
			p.write("main", val(0, 1), val(1, 1))
			p.branch("main", "p")
			p.write(from, val(0, 5), val(3, 2))
			p.write(into, val(1, 9))
			p.hold(into, cell(0, inB))
			p.lock(into, cell(1, all), "ann")
			if _, why := p.merge(from, into, "ann", how); why != api.OK {
				t.Fatal("Merge", why)
			}
			one, _ := p.g.State(into)
			base, _ := p.g.Base(from, into)
			for range 3 {
				l, why := p.merge(from, into, "ann", how)
				now, _ := p.g.State(into)
				again, _ := p.g.Base(from, into)
				if why != api.OK || len(l) != 0 || !p.g.Book().Same(one, now) || !p.g.Book().Same(base, again) {
					t.Error("a second merge", l, why)
				}
			}
			p.has(into, 5, 9, 0, 2)
			if l, why := p.merge(into, from, "ann", how); why != api.OK || len(l) != 0 {
				t.Error("the other way round", l, why)
			}
			p.has(from, 5, 9, 0, 2)
		}
	}
}

// P21.8: each error of Load, and several at once: the one that is named first. What is not taken is the caller's still.
func TestLoadErrors(t *testing.T) {
	p := pairOf(t, deep(2), 300)
	p.write("main", val(0, 1))
	rows := []struct {
		name string
		want api.Errno
	}{{"", api.ErrName}, {"p", api.OK}, {"p", api.ErrTwice}, {"q", api.ErrFull}, {"1", api.ErrName}, {"main", api.OK}, {"p", api.ErrTwice}}
	for _, name := range noNames() {
		rows = append(rows, struct {
			name string
			want api.Errno
		}{name, api.ErrName})
	}
	for _, r := range rows {
		if why := p.g.Load(r.name, "main", state.State{}, nil); why != api.ErrNil {
			t.Errorf("Load %q of no history = %d", r.name, why)
		}
		p.ask()
		x := line{past: []lists{p.lists(1, 2)}, now: p.lists(3), future: []lists{p.lists(4)}, parent: "main", base: p.lists(5)}
		if why := p.load(r.name, x); why != r.want {
			t.Errorf("Load %q = %d; want %d", r.name, why, r.want)
		}
	}
}

// P21.8: what is loaded goes on as any other scenario: its history both ways, its base, and what is merged.
func TestLoad(t *testing.T) {
	p := pairOf(t, deep(3), 300)
	p.write("main", val(0, 1))
	now := lists{p.lists(3).vals, []api.Cell{cell(0, inB), cell(1, all)}, []api.Lock{{Cell: cell(0, inA), User: "ann"}}}
	x := line{past: []lists{p.lists(1), p.lists(2)}, now: now, future: []lists{p.lists(4), p.lists(5), p.lists(6)}, parent: "main", base: p.lists(1)}
	if why := p.load("p", x); why != api.OK {
		t.Fatal("Load", why)
	}
	for i, n := range []int64{4, 5, 6} {
		if why := p.redo("p"); why != api.OK {
			t.Error("Redo", i, why)
		}
		p.has("p", n)
	}
	for i, n := range []int64{5, 4, 3, 2, 1} {
		if why := p.undo("p"); why != api.OK {
			t.Error("Undo", i, why)
		}
		p.has("p", n)
	}
	if p.undo("p") != api.ErrEmpty {
		t.Error("Undo at the end")
	}
	p.redo("p")
	if l, why := p.merge("p", "main", "ann", api.Abort); len(l) != 0 || why != api.OK {
		t.Error("Merge", l, why)
	}
	p.has("main", 2)
	p.drop("p")
}

// P21.8: main in place of the one that was, with all that that had; also with a parent. Those that branched off it are as they were.
func TestLoadMain(t *testing.T) {
	p := pairOf(t, deep(3), 300)
	p.write("main", val(0, 1), val(5, 1))
	p.branch("main", "p")
	p.write("main", val(1, 2))
	p.write("main", val(2, 2))
	p.undo("main")
	for i, parent := range []string{"", "p", "none", "p", ""} {
		x := line{past: []lists{p.lists(7)}, now: p.lists(8, int64(i)), future: []lists{p.lists(9)}, parent: parent, base: p.lists(6)}
		if why := p.load("main", x); why != api.OK {
			t.Fatal("Load", why)
		}
		if s, there := p.g.Base("main", "p"); p.g.Parent("p") != "main" || !there || p.g.Book().Full(s) != 2 {
			t.Error("p is not as it was", p.g.Parent("p"), s)
		}
		p.has("main", 8, int64(i))
		p.has("p", 1, 0, 0, 0, 0, 1)
	}
}

// P21.4, P21.8: two that have each other as parents: b's base is that of a and b; a merge makes from's state the base in both orders.
func TestEachOthersParents(t *testing.T) {
	p := pairOf(t, deep(3), 300)
	p.load("p", line{now: p.lists(3, 4), parent: "main", base: p.lists(1, 1)})
	p.load("main", line{now: p.lists(5, 2), parent: "p", base: p.lists(5, 4)})
	for two, want := range map[[2]string]int64{{"main", "p"}: 1, {"p", "main"}: 5} {
		s, there := p.g.Base(two[0], two[1])
		if n, _ := p.g.Book().Value(s, cell(0, inC)); !there || n != want {
			t.Error("Base", two, n, there)
		}
	}
	if l, why := p.merge("p", "main", "ann", api.Abort); len(l) != 0 || why != api.OK {
		t.Error("Merge", l, why)
	}
	p.has("main", 3, 2)
	if l, why := p.merge("main", "p", "ann", api.Abort); len(l) != 0 || why != api.OK {
		t.Error("Merge", l, why)
	}
	p.has("p", 3, 2)
	p.drop("p")
	if p.g.Parent("main") != "" {
		t.Error("Parent", p.g.Parent("main"))
	}
}

// P21.8: one that is its own parent.
func TestOwnParent(t *testing.T) {
	p := pairOf(t, deep(3), 300)
	p.load("p", line{now: p.lists(3), parent: "p", base: p.lists(1)})
	for range 2 {
		if l, why := p.merge("p", "p", "ann", api.Abort); len(l) != 0 || why != api.OK {
			t.Error("Merge", l, why)
		}
		p.has("p", 3)
	}
	p.drop("p")
	if p.used() != 0 {
		t.Error("nodes", p.used())
	}
}

// P21.8: the parent is not asked for: it may be none, no name, or come later; it counts from then on.
func TestLoadParent(t *testing.T) {
	p := pairOf(t, deep(4), 300)
	for _, parent := range []string{"none", "1", "a b", "\xff"} {
		if why := p.load("p", line{now: p.lists(3), parent: parent, base: p.lists(1)}); why != api.OK {
			t.Error("Load", why)
		}
		if p.g.Parent("p") != parent {
			t.Errorf("Parent = %q", p.g.Parent("p"))
		}
		if _, why := p.merge("p", parent, "ann", api.Ours); why != api.ErrNone {
			t.Error("Merge", why)
		}
		p.drop("p")
	}
	p.load("p", line{now: p.lists(3), parent: "late", base: p.lists(1)})
	p.load("late", line{now: p.lists(1, 2)})
	if l, why := p.merge("p", "late", "ann", api.Abort); len(l) != 0 || why != api.OK {
		t.Error("Merge", l, why)
	}
	p.has("late", 3, 2)
	p.drop("late")
	if p.g.Parent("p") != "" {
		t.Error("Parent", p.g.Parent("p"))
	}
}

// P21.8: without a parent there is no base: the one that is handed over is let go.
func TestLoadNoParent(t *testing.T) {
	p := pairOf(t, deep(2), 300)
	p.load("p", line{base: p.lists(1, 2, 3), now: p.lists()})
	for _, two := range [][2]string{{"", "p"}, {"p", ""}, {"main", "p"}, {"p", "main"}} {
		if s, there := p.g.Base(two[0], two[1]); there || s.Root != 0 {
			t.Errorf("Base %q = %v", two, s)
		}
	}
	if p.used() != 0 {
		t.Error("nodes", p.used())
	}
}

// P21.5, P21.8: a history that is handed in twice, or that goes on elsewhere, is two scenarios' own.
func TestLoadTwice(t *testing.T) {
	p := pairOf(t, deep(3), 300)
	b := p.g.Book()
	x := p.lists(1, 2).state(t, b)
	y := p.lists(3).state(t, b)
	h, _ := undo.Load([]state.State{x}, y, nil)
	b.Keep(x)
	b.Keep(y)
	for _, name := range []string{"p", "q"} {
		if why := p.g.Load(name, "", state.State{}, h); why != api.OK {
			t.Fatal("Load", why)
		}
		p.m.load(name, line{past: []lists{p.lists(1, 2)}, now: p.lists(3)}, true)
	}
	p.ask()
	h.Undo()
	p.ask()
	p.undo("p")
	p.write("p", val(4, 4))
	p.has("q", 3)
	p.undo("q")
	p.has("q", 1, 2)
	// main's own history, in place of itself, each state asked for once more.
	p.write("main", val(0, 8))
	p.write("main", val(0, 9))
	own := p.g.History("main")
	for _, s := range append(own.Past(), own.Now()) {
		b.Keep(s)
	}
	if why := p.g.Load("main", "", state.State{}, own); why != api.OK {
		t.Error("Load", why)
	}
	p.ask()
	p.undo("main")
	p.has("main", 8)
}

// P21.8: as many states as a history may have, in each part of it.
func TestLoadLong(t *testing.T) {
	for past := 0; past <= api.MaxUndo; past++ {
		p := pairOf(t, deep(2), 300)
		x := line{now: p.lists(100), parent: "main", base: p.lists(100)}
		for i := range api.MaxUndo {
			l := p.lists(int64(i), 1)
			if i < past {
				x.past = append(x.past, l)
			} else {
				x.future = append(x.future, l)
			}
		}
		if why := p.load("p", x); why != api.OK {
			t.Error("Load", why)
		}
		p.write("p", val(2, 2))
		for range past {
			p.undo("p")
		}
		p.drop("p")
		if p.used() != 0 {
			t.Error("nodes", p.used())
		}
	}
}

// P21.7: when all but main are dropped, and main's states are zero ones, the arena has no nodes.
func TestNoNodes(t *testing.T) {
	p := pairOf(t, deep(5), 500)
	p.write("main", val(0, 1), val(4, 1))
	for i, name := range []string{"p", "q", "r", "s"} {
		p.branch([]string{"main", "p", "q", "main"}[i], name)
		for k := range int64(15) {
			p.write(name, val(i, k+2))
		}
		p.hold(name, cell(0, inB))
		p.undo(name)
	}
	p.merge("p", "main", "ann", api.Theirs)
	p.merge("r", "q", "ann", api.Ours)
	p.merge("main", "s", "ann", api.Ours)
	for _, name := range []string{"q", "p", "s", "r"} {
		if why := p.drop(name); why != api.OK {
			t.Error("Drop", why)
		}
	}
	if p.used() == 0 {
		t.Error("main has no nodes")
	}
	for range api.MaxUndo + 1 {
		p.put("main", func(state.State) (state.State, api.Errno) { return state.State{}, api.OK })
	}
	if p.used() != 0 {
		t.Error("nodes", p.used())
	}
}

// P21.3, rule 4: what is written into a history's lists that are told is seen by no later answer.
func TestToldHistory(t *testing.T) {
	p := pairOf(t, deep(2), 100)
	p.write("main", val(0, 1))
	p.write("main", val(0, 2))
	p.write("main", val(0, 3))
	p.undo("main")
	clear(p.g.History("main").Past())
	clear(p.g.History("main").Future())
	p.ask()
}

// P6: states that are not asked for any more, or never were, of which nothing is promised, make no call panic.
func TestOtherStates(t *testing.T) {
	for _, root := range []int{math.MinInt, -1, 1, 2, 99, 100, 101, math.MaxInt} {
		g, _ := scen.New(dimsOf(t, deep(4)), 100)
		s := state.State{Root: root}
		g.Put("main", s)
		g.Branch("main", "p")
		g.Load("q", "p", s, undo.New(s))
		for _, from := range g.Names() {
			for _, into := range g.Names() {
				g.Merge(from, into, "ann", api.Theirs)
			}
			g.Undo(from)
			g.Redo(from)
		}
		g.Drop("p")
		g.Drop("q")
		g.Load("main", "main", s, undo.New(s))
		g.Merge("main", "main", "ann", api.Ours)
	}
}

// walk is a pair to which many things are done.
type walk struct {
	pair
	r *rand.Rand
}

// P21.1 to P21.8: many calls, right ones and wrong ones, of which all is asked against lists each time.
func TestWalks(t *testing.T) {
	seen := map[api.Errno]int{}
	for seed := range int64(6) {
		cat := deep(4)
		cat.Leaves = 3 + int(seed)
		w := walk{pairOf(t, cat, api.MaxArena), rand.New(rand.NewSource(seed))}
		for range 500 {
			seen[w.step()]++
		}
		for _, name := range w.g.Names() {
			w.drop(name)
		}
		w.load("main", line{now: w.lists()})
		if w.used() != 0 {
			t.Error("nodes", w.used())
		}
	}
	for _, why := range []api.Errno{api.OK, api.ErrNone, api.ErrName, api.ErrTwice, api.ErrFull, api.ErrUsed, api.ErrEmpty, api.ErrBase, api.ErrClash, api.ErrLocked, api.ErrOver} {
		if seen[why] < 5 {
			t.Errorf("the walks came %d times to error %d", seen[why], why)
		}
	}
}

// name is one of a few, of which seldom one is none.
func (w walk) name() string {
	names := []string{"main", "p", "q", "r", "s"}
	if w.r.Intn(30) == 0 {
		return noNames()[w.r.Intn(len(noNames()))]
	}
	return names[w.r.Intn(len(names))]
}

// there is a scenario.
func (w walk) there() string {
	l := w.g.Names()
	return l[w.r.Intn(len(l))]
}

func (w walk) value() state.Val {
	v := val(w.r.Intn(6), int64(w.r.Intn(4)))
	if w.r.Intn(12) == 0 {
		v.N = []int64{least, greatest, greatest - 1}[w.r.Intn(3)]
	}
	return v
}

func (w walk) cell() api.Cell {
	return cell(w.r.Intn(2), w.r.Intn(5))
}

// step does one call, and tells its error.
func (w walk) step() api.Errno {
	w.t.Helper()
	switch w.r.Intn(16) {
	case 0, 1:
		return w.branch(w.name(), w.name())
	case 2:
		return w.drop(w.name())
	case 3:
		return w.undo(w.name())
	case 4:
		return w.redo(w.name())
	case 5, 6, 7:
		return w.write(w.name(), w.value(), w.value(), w.value())
	case 8:
		return w.put(w.there(), w.turn)
	case 9:
		if w.r.Intn(3) == 0 {
			return w.load(w.name(), w.line())
		}
	}
	users := []string{"ann", "bob", "ann", "bob", "1"}
	_, why := w.merge(w.there(), w.there(), users[w.r.Intn(5)], w.r.Intn(3))
	return why
}

// turn is s, of which something is held or locked, or not any more; or, if that can not be, s itself.
func (w walk) turn(s state.State) (state.State, api.Errno) {
	b := w.g.Book()
	next, why := state.State{}, api.ErrNone
	switch w.r.Intn(4) {
	case 0:
		next, why = b.Hold(s, w.cell())
	case 1:
		if l := b.Held(s); len(l) > 0 {
			next, why = b.Release(s, l[w.r.Intn(len(l))])
		}
	case 2:
		next, why = b.Lock(s, w.cell(), []string{"ann", "bob"}[w.r.Intn(2)])
	case 3:
		if l := s.Locks.List(); len(l) > 0 {
			next, why = b.Unlock(s, l[0].Cell, l[0].User)
		}
	}
	if why != api.OK {
		return b.Write(s)
	}
	return next, why
}

// line is a scenario that can be loaded.
func (w walk) line() line {
	l := func() lists { return w.lists(int64(w.r.Intn(3)), int64(w.r.Intn(3)), int64(w.r.Intn(3))) }
	x := line{now: l(), parent: []string{"", "main", "p", "none"}[w.r.Intn(4)], base: l()}
	for range w.r.Intn(7) {
		x.past = append(x.past, l())
		x.future = append(x.future, l())
	}
	return x
}
