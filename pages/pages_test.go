package pages_test

import (
	"math"
	"math/rand"
	"slices"
	"testing"

	"moiety/api"
	"moiety/arena"
	"moiety/pages"
)

var nothing = api.Entry{}

func val(n int64) api.Entry {
	return api.Entry{Val: n}
}

// entries is a tree that is nothing but a list: one for each code.
type entries []api.Entry

func (l entries) with(code int, e api.Entry) entries {
	l = slices.Clone(l)
	l[code] = e
	return l
}

// part is so many entries from first on, or those up to the end of l.
func (l entries) part(first, size int) entries {
	first, end := min(first, len(l)), min(first+size, len(l))
	return l[first:end]
}

func (l entries) empty() bool {
	return !slices.ContainsFunc(l, func(e api.Entry) bool { return e != nothing })
}

// size is how many entries are below a node of the level.
func size(level int) int {
	return int(math.Pow(8, float64(level)))
}

// nodesFor is how many nodes are on the way to a code in a tree with the entries of l.
func (l entries) nodesFor(code, levels int) int {
	many := 0
	for level := 1; level <= levels; level++ {
		if first := code / size(level) * size(level); !l.part(first, size(level)).empty() {
			many++
		}
	}
	return many
}

func newPages(t *testing.T, most, codes int) (*pages.Pages, *arena.Arena) {
	t.Helper()
	a, why := arena.New(most)
	if why != api.OK {
		t.Fatal("arena", why)
	}
	p, why := pages.New(a, codes)
	if p == nil || why != api.OK {
		t.Fatalf("New(%d) = %v, %d", codes, p, why)
	}
	return p, a
}

func mustSet(t *testing.T, p *pages.Pages, root, code int, e api.Entry) int {
	t.Helper()
	id, why := p.Set(root, code, e)
	if why != api.OK {
		t.Fatalf("Set(%d, %d, %v) = %d, %d", root, code, e, id, why)
	}
	return id
}

// holdNode holds the nodes below id against the words of the chapter.
func holdNode(t *testing.T, a *arena.Arena, id, level, first int, l entries) {
	t.Helper()
	if l.part(first, size(level)).empty() {
		if id != 0 {
			t.Fatalf("level %d, codes from %d: all is nothing, but there is the node %d", level, first, id)
		}
		return
	}
	n, why := a.At(id)
	if why != api.OK || n.Leaf != (level == 1) {
		t.Fatalf("level %d, codes from %d: At(%d) = %v, %d", level, first, id, n, why)
	}
	for i := range arena.Fan {
		if level > 1 {
			holdNode(t, a, n.Kids[i], level-1, first+i*size(level-1), l)
			continue
		}
		want := nothing
		if first+i < len(l) {
			want = l[first+i]
		}
		if n.Vals[i] != want {
			t.Fatalf("code %d: %v; want %v", first+i, n.Vals[i], want)
		}
	}
}

// hold asks everything of a tree that the list tells.
func hold(t *testing.T, p *pages.Pages, root int, l entries) {
	t.Helper()
	holdNode(t, p.Arena(), root, p.Levels(), 0, l)
	var all []pages.Leaf
	for code, want := range l {
		if e, why := p.Get(root, code); e != want || why != api.OK {
			t.Fatalf("Get(%d, %d) = %v, %d; want %v", root, code, e, why, want)
		}
		if want != nothing {
			all = append(all, pages.Leaf{Code: code, Entry: want})
		}
	}
	if got, why := p.All(root); !slices.Equal(got, all) || why != api.OK {
		t.Fatalf("All(%d) = %v, %d; want %v", root, got, why, all)
	}
}

// holdDiffer holds Differ of two trees, both ways round, against their lists.
func holdDiffer(t *testing.T, p *pages.Pages, a, b int, x, y entries) {
	t.Helper()
	var want []int
	for code := range x {
		if x[code] != y[code] {
			want = append(want, code)
		}
	}
	there, why := p.Differ(a, b)
	back, whyBack := p.Differ(b, a)
	if !slices.Equal(there, want) || !slices.Equal(back, want) || why != api.OK || whyBack != api.OK {
		t.Fatalf("Differ(%d, %d) = %v, %d, and back %v, %d; want %v", a, b, there, why, back, whyBack, want)
	}
}

// picture is all that an arena tells.
func picture(a *arena.Arena) []any {
	l := []any{a.Used()}
	for id := 1; id <= a.Cap(); id++ {
		n, why := a.At(id)
		l = append(l, n, why, a.Refs(id))
	}
	return l
}

// P10.1 to P10.3, P10.6: the chapter's example.
func TestExample(t *testing.T) {
	p, a := newPages(t, 20, 100)
	if p.Levels() != 3 {
		t.Error("Levels", p.Levels())
	}
	root := mustSet(t, p, 0, 9, val(5))
	if a.Used() != 3 {
		t.Error("Used", a.Used())
	}
	hold(t, p, root, make(entries, 100).with(9, val(5)))
	if back := mustSet(t, p, root, 9, nothing); back != 0 {
		t.Error("Set to nothing", back)
	}
}

// P10.1: how many codes there are, the edges and beyond, and their levels.
func TestNew(t *testing.T) {
	a, _ := arena.New(3)
	for codes, levels := range map[int]int{1: 1, 2: 1, 7: 1, 8: 1, 9: 2, 63: 2, 64: 2, 65: 3, 100: 3, 512: 3, 513: 4, api.MaxLeaves - 1: 4, api.MaxLeaves: 4} {
		p, why := pages.New(a, codes)
		if why != api.OK || p.Codes() != codes || p.Levels() != levels || p.Arena() != a {
			t.Errorf("New(%d) = %d; Codes %d, Levels %d", codes, why, p.Codes(), p.Levels())
		}
	}
	for _, codes := range []int{0, -1, api.MaxLeaves + 1, math.MinInt, math.MaxInt} {
		if p, why := pages.New(a, codes); p != nil || why != api.ErrArg {
			t.Errorf("New(%d) = %v, %d", codes, p, why)
		}
	}
	for _, codes := range []int{1, 0, -1, api.MaxLeaves + 1} {
		if p, why := pages.New(nil, codes); p != nil || why != api.ErrNil {
			t.Errorf("New(nil, %d) = %v, %d", codes, p, why)
		}
	}
	if a.Used() != 0 {
		t.Error("Used", a.Used())
	}
}

// P10.2, P10.3: codes below 0 and too great, of the root 0 and of another one, in a full arena too.
func TestRange(t *testing.T) {
	for _, codes := range []int{1, 7, 8, 9, 100, api.MaxLeaves} {
		p, a := newPages(t, 4, codes)
		some := mustSet(t, p, 0, codes-1, val(3))
		was := picture(a)
		for _, root := range []int{0, some} {
			for _, code := range []int{-1, codes, codes + 1, 4096, math.MinInt, math.MaxInt} {
				if e, why := p.Get(root, code); e != nothing || why != api.ErrRange {
					t.Errorf("%d codes: Get(%d, %d) = %v, %d", codes, root, code, e, why)
				}
				for _, e := range []api.Entry{nothing, val(3)} {
					if id, why := p.Set(root, code, e); id != 0 || why != api.ErrRange {
						t.Errorf("%d codes: Set(%d, %d, %v) = %d, %d", codes, root, code, e, id, why)
					}
				}
			}
		}
		if !slices.Equal(picture(a), was) {
			t.Errorf("%d codes: the arena is not as it was", codes)
		}
		hold(t, p, some, make(entries, codes).with(codes-1, val(3)))
	}
}

// P10.2, P10.6: the tree of the root 0.
func TestEmptyTree(t *testing.T) {
	p, a := newPages(t, 10, 100)
	hold(t, p, 0, make(entries, 100))
	holdDiffer(t, p, 0, 0, make(entries, 100), make(entries, 100))
	for _, code := range []int{0, 50, 99} {
		if root := mustSet(t, p, 0, code, nothing); root != 0 {
			t.Error("Set of nothing", root)
		}
	}
	if a.Used() != 0 {
		t.Error("Used", a.Used())
	}
}

// P10.3: an entry that is there already: the root itself, asked for once more, also where there is no room.
func TestSetSame(t *testing.T) {
	p, a := newPages(t, 3, 100)
	for _, e := range []api.Entry{val(5), {Held: true}, {Val: -5, Held: true}, {Val: math.MinInt64}} {
		root := mustSet(t, p, 0, 42, e)
		for i := range 3 {
			if again := mustSet(t, p, root, 42, e); again != root || a.Refs(root) != 2+i || a.Used() != 3 {
				t.Errorf("Set of %v again = %d; want %d; Refs %d, Used %d", e, again, root, a.Refs(root), a.Used())
			}
		}
		if again := mustSet(t, p, root, 41, nothing); again != root || a.Refs(root) != 5 {
			t.Errorf("Set of nothing where nothing is = %d; want %d; Refs %d", again, root, a.Refs(root))
		}
		for range 5 {
			p.Drop(root)
		}
		if a.Used() != 0 {
			t.Fatal("Used", a.Used())
		}
	}
}

// P10.2, P10.3: a value and whether it is held both count: an entry that is held with the value 0 is something.
func TestHeld(t *testing.T) {
	p, a := newPages(t, 30, 9)
	root := mustSet(t, p, 0, 8, api.Entry{Held: true})
	l := make(entries, 9).with(8, api.Entry{Held: true})
	hold(t, p, root, l)
	if a.Used() != 2 {
		t.Error("Used", a.Used())
	}
	other := mustSet(t, p, root, 8, api.Entry{Val: 7, Held: true})
	free := mustSet(t, p, other, 8, val(7))
	hold(t, p, other, l.with(8, api.Entry{Val: 7, Held: true}))
	hold(t, p, free, l.with(8, val(7)))
	holdDiffer(t, p, other, free, l.with(8, api.Entry{Val: 7, Held: true}), l.with(8, val(7)))
	holdDiffer(t, p, root, 0, l, make(entries, 9))
	if none := mustSet(t, p, root, 8, nothing); none != 0 {
		t.Error("Set to nothing", none)
	}
}

// P10.3: which nodes a Set makes, and which ones both trees have.
func TestShared(t *testing.T) {
	p, a := newPages(t, 100, 1024)
	root := 0
	for _, code := range []int{0, 7, 8, 63, 64, 511, 512, 1023} {
		root = mustSet(t, p, root, code, val(int64(code+1)))
	}
	for _, code := range []int{0, 1, 9, 70, 511, 600, 1023} {
		used := a.Used()
		next := mustSet(t, p, root, code, val(-1))
		if a.Used() != used+4 {
			t.Errorf("Set at %d made %d nodes", code, a.Used()-used)
		}
		holdOtherParts(t, a, root, next, code, 4)
		if p.Drop(next) != api.OK || a.Used() != used {
			t.Errorf("Drop behind a Set at %d: Used %d; want %d", code, a.Used(), used)
		}
	}
}

// holdOtherParts holds that both have the same parts beside the way to the code, and no node on it.
func holdOtherParts(t *testing.T, a *arena.Arena, was, is, code, levels int) {
	t.Helper()
	for level := levels; level >= 1; level-- {
		if was == is {
			t.Errorf("level %d on the way to %d: both have %d", level, code, is)
		}
		old, _ := a.At(was)
		n, why := a.At(is)
		if why != api.OK || a.Refs(is) != 1 {
			t.Errorf("level %d on the way to %d: At(%d) = %d, Refs %d", level, code, is, why, a.Refs(is))
		}
		i := code / size(level-1) % 8
		was, is = old.Kids[i], n.Kids[i]
		old.Kids[i], n.Kids[i], old.Vals[i], n.Vals[i] = 0, 0, nothing, nothing
		if old.Kids != n.Kids || old.Vals != n.Vals {
			t.Errorf("level %d on the way to %d: %v and %v", level, code, old, n)
		}
	}
}

// P10.3, P10.6: an entry back to nothing: of the nodes on its way only those that have other parts are there.
func TestSetNothing(t *testing.T) {
	rows := []struct {
		what   string
		others []int
		nodes  int
	}{
		{"the last one", nil, 0},
		{"another one beside it", []int{8}, 3},
		{"another one in the next node", []int{16}, 2},
		{"another one far off", []int{99}, 1},
		{"several", []int{10, 20, 70}, 3},
	}
	for _, r := range rows {
		p, a := newPages(t, 50, 100)
		root, l := 0, make(entries, 100)
		for _, code := range r.others {
			root, l = mustSet(t, p, root, code, val(1)), l.with(code, val(1))
		}
		full := mustSet(t, p, root, 9, val(5))
		used := a.Used()
		back := mustSet(t, p, full, 9, nothing)
		if a.Used() != used+r.nodes || (back == 0) != (r.nodes == 0) {
			t.Errorf("%s: root %d, %d new nodes; want %d", r.what, back, a.Used()-used, r.nodes)
		}
		hold(t, p, back, l)
		hold(t, p, full, l.with(9, val(5)))
		holdDiffer(t, p, back, root, l, l)
	}
}

// P10.3: a Set for which there is no room, by one node or by all: ErrFull, and the arena is as it was; with just the room it is done.
func TestFull(t *testing.T) {
	for room := range 6 {
		p, a := newPages(t, 8+room, 1024)
		root := mustSet(t, p, 0, 5, val(1))
		root = mustSet(t, p, root, 700, val(2))
		l := make(entries, 1024).with(5, val(1)).with(700, val(2))
		was := picture(a)
		next, why := p.Set(root, 6, val(3))
		if room < 4 {
			if next != 0 || why != api.ErrFull || !slices.Equal(picture(a), was) {
				t.Errorf("room for %d: Set = %d, %d; the arena is as it was: %t", room, next, why, slices.Equal(picture(a), was))
			}
		} else if why != api.OK || a.Used() != 12 {
			t.Errorf("room for %d: Set = %d, %d; Used %d", room, next, why, a.Used())
		} else {
			hold(t, p, next, l.with(6, val(3)))
		}
		hold(t, p, root, l)
	}
}

// P10.3: room is asked for the new nodes alone: one that is not there needs none.
func TestFullButNothing(t *testing.T) {
	p, a := newPages(t, 8, 100)
	one := mustSet(t, p, 0, 90, val(1))
	two := mustSet(t, p, one, 5, val(2))
	used := a.Used()
	if used != 6 {
		t.Fatal("Used", used)
	}
	// Of the way to 5 only the root has another part.
	back := mustSet(t, p, two, 5, nothing)
	if a.Used() != 7 {
		t.Error("Used", a.Used())
	}
	holdDiffer(t, p, back, one, make(entries, 100).with(90, val(1)), make(entries, 100).with(90, val(1)))
	was := picture(a)
	if id, why := p.Set(two, 5, val(3)); id != 0 || why != api.ErrFull || !slices.Equal(picture(a), was) {
		t.Error("Set", id, why)
	}
	if id := mustSet(t, p, one, 90, nothing); id != 0 {
		t.Error("Set of the last one to nothing", id)
	}
}

// P10.2: two trees that have no node in common are held against each other by their entries; those with the same entries do not differ.
func TestDiffer(t *testing.T) {
	p, a := newPages(t, 200, 100)
	codes := []int{0, 3, 8, 64, 99}
	build := func(codes []int) (int, entries) {
		root, l := 0, make(entries, 100)
		for _, code := range codes {
			root, l = mustSet(t, p, root, code, val(int64(code+1))), l.with(code, val(int64(code+1)))
		}
		return root, l
	}
	x, l := build(codes)
	slices.Reverse(codes)
	y, _ := build(codes)
	if x == y {
		t.Fatal("one tree", x)
	}
	holdDiffer(t, p, x, x, l, l)
	holdDiffer(t, p, x, y, l, l)
	holdDiffer(t, p, x, 0, l, make(entries, 100))
	z, m := mustSet(t, p, y, 50, val(9)), l.with(50, val(9))
	z, m = mustSet(t, p, z, 0, nothing), m.with(0, nothing)
	z, m = mustSet(t, p, z, 99, val(-1)), m.with(99, val(-1))
	holdDiffer(t, p, x, z, l, m)
	holdDiffer(t, p, y, z, l, m)
	before := picture(a)
	p.Differ(x, z)
	p.All(z)
	p.Get(z, 99)
	if !slices.Equal(picture(a), before) {
		t.Error("to ask changes the arena")
	}
}

// P10.4: Keep and Drop of 0, of a root, and of none.
func TestKeepDrop(t *testing.T) {
	p, a := newPages(t, 10, 100)
	root := mustSet(t, p, 0, 9, val(5))
	for range 3 {
		if k, d := p.Keep(0), p.Drop(0); k != api.OK || d != api.OK {
			t.Error("of 0: Keep", k, "Drop", d)
		}
	}
	for _, id := range []int{-1, 4, 10, 11, math.MaxInt, math.MinInt} {
		if k, d := p.Keep(id), p.Drop(id); k != api.ErrNone || d != api.ErrNone {
			t.Errorf("of %d: Keep %d, Drop %d", id, k, d)
		}
	}
	if why := p.Keep(root); why != api.OK || a.Refs(root) != 2 {
		t.Error("Keep", why, a.Refs(root))
	}
	if why := p.Drop(root); why != api.OK || a.Refs(root) != 1 || a.Used() != 3 {
		t.Error("Drop", why, a.Refs(root), a.Used())
	}
	hold(t, p, root, make(entries, 100).with(9, val(5)))
	if why := p.Drop(root); why != api.OK || a.Used() != 0 {
		t.Error("Drop", why, a.Used())
	}
	if k, d := p.Keep(root), p.Drop(root); k != api.ErrNone || d != api.ErrNone {
		t.Error("of one that is gone: Keep", k, "Drop", d)
	}
}

// Rule 4: what is written into an answer, or appended to it, is in no later one.
func TestOwnMemory(t *testing.T) {
	p, _ := newPages(t, 50, 100)
	root, l := 0, make(entries, 100)
	for _, code := range []int{1, 2, 60} {
		root, l = mustSet(t, p, root, code, val(4)), l.with(code, val(4))
	}
	all, _ := p.All(root)
	codes, _ := p.Differ(root, 0)
	all[0].Val, all[1].Code, codes[0] = 77, 78, 79
	_ = append(all[:1], pages.Leaf{Code: 5})
	_ = append(codes[:1], 5)
	hold(t, p, root, l)
	holdDiffer(t, p, root, 0, l, make(entries, 100))
}

// Rule 1: trees of other pages in the same arena do not get into each other's way.
func TestTwoPages(t *testing.T) {
	p, a := newPages(t, 50, 100)
	q, _ := pages.New(a, 8)
	x := mustSet(t, p, 0, 9, val(5))
	y := mustSet(t, q, 0, 7, val(6))
	x2 := mustSet(t, p, x, 10, val(7))
	hold(t, p, x, make(entries, 100).with(9, val(5)))
	hold(t, p, x2, make(entries, 100).with(9, val(5)).with(10, val(7)))
	hold(t, q, y, make(entries, 8).with(7, val(6)))
	if a.Used() != 7 {
		t.Error("Used", a.Used())
	}
	// A root that is dropped at the arena is gone for the pages, too.
	if why := a.Drop(y); why != api.OK || q.Keep(y) != api.ErrNone {
		t.Error("Drop", why)
	}
}

// P10.1 to P10.4, P6: nil pages, and those that New did not make.
func TestNil(t *testing.T) {
	var none *pages.Pages
	if none.Arena() != nil || none.Codes() != 0 || none.Levels() != 0 {
		t.Error("Arena", none.Arena(), "Codes", none.Codes(), "Levels", none.Levels())
	}
	for _, n := range []int{0, 1, -1, math.MaxInt, math.MinInt} {
		if e, why := none.Get(n, n); e != nothing || why != api.ErrNil {
			t.Error("Get", e, why)
		}
		if id, why := none.Set(n, n, val(1)); id != 0 || why != api.ErrNil {
			t.Error("Set", id, why)
		}
		if l, why := none.All(n); len(l) != 0 || why != api.ErrNil {
			t.Error("All", l, why)
		}
		if l, why := none.Differ(n, 0); len(l) != 0 || why != api.ErrNil {
			t.Error("Differ", l, why)
		}
		if k, d := none.Keep(n), none.Drop(n); k != api.ErrNil || d != api.ErrNil {
			t.Error("Keep", k, "Drop", d)
		}
	}
	askAll(&pages.Pages{}, []int{0, 1, -1, math.MaxInt, math.MinInt}, []int{0, 1, -1, math.MaxInt, math.MinInt})
}

// askAll does everything with all roots and codes, one after another.
func askAll(p *pages.Pages, roots, codes []int) {
	for _, root := range roots {
		for _, code := range codes {
			p.Get(root, code)
			p.Set(root, code, val(1))
			p.Set(root, code, nothing)
		}
		for _, other := range roots {
			p.Differ(root, other)
		}
		p.All(root)
		p.Keep(root)
		p.Drop(root)
	}
}

// P6: of roots that are none, or nodes of another kind, each call ends; also where nodes were dropped so often that they stand below themselves.
func TestWrongRoots(t *testing.T) {
	p, a := newPages(t, 60, 1024)
	leaf, _ := a.Make(arena.Node{Leaf: true, Vals: [arena.Fan]api.Entry{{Val: 1}}})
	a.Make(arena.Node{})
	up, _ := a.Make(arena.Node{Kids: [arena.Fan]int{leaf, leaf, leaf}})
	for a.Refs(leaf) > 0 {
		a.Drop(leaf)
	}
	// The number of leaf is that of a node above up now, whose Kid it is still.
	loop, _ := a.Make(arena.Node{Kids: [arena.Fan]int{up, up, up, up, up, up, up, up}})
	if n, _ := a.At(up); n.Kids[0] != loop {
		t.Fatal("no loop", n, loop)
	}
	roots := []int{loop, up, 2, 3, 59, 60, 61, -1, math.MaxInt, math.MinInt}
	askAll(p, roots, []int{0, 1, 512, 1023, -1, 1024, math.MaxInt})
}

// kept is a tree that is asked for, and how often.
type kept struct {
	root, refs int
	list       entries
}

// P10.2 to P10.6: Sets, Keeps and Drops of any trees, against lists; in the end the arena has no nodes.
func TestAny(t *testing.T) {
	for seed := range 60 {
		r := rand.New(rand.NewSource(int64(seed)))
		codes := []int{1, 5, 8, 9, 64, 65, 200, 1024}[r.Intn(8)]
		p, a := newPages(t, 40+r.Intn(200), codes)
		trees := []*kept{{0, 1, make(entries, codes)}}
		for range 120 {
			i := r.Intn(len(trees))
			tree := trees[i]
			switch r.Intn(6) {
			case 0:
				if p.Keep(tree.root) != api.OK {
					t.Fatal("Keep", tree.root)
				}
				tree.refs++
			case 1:
				if tree.root == 0 {
					break
				}
				if p.Drop(tree.root) != api.OK {
					t.Fatal("Drop", tree.root)
				}
				if tree.refs--; tree.refs == 0 {
					trees = slices.Delete(trees, i, i+1)
				}
			default:
				if next := anySet(t, r, p, tree); next != nil {
					trees = append(trees, next)
				}
			}
			other := trees[r.Intn(len(trees))]
			tree = trees[r.Intn(len(trees))]
			hold(t, p, tree.root, tree.list)
			holdDiffer(t, p, tree.root, other.root, tree.list, other.list)
		}
		for _, tree := range trees {
			hold(t, p, tree.root, tree.list)
			for range tree.refs {
				if p.Drop(tree.root) != api.OK {
					t.Fatal("Drop", tree.root)
				}
			}
		}
		if a.Used() != 0 {
			t.Fatal("Used", a.Used())
		}
	}
}

// anySet sets an entry of a tree and holds what becomes of the arena; it is the new tree, if there is one.
func anySet(t *testing.T, r *rand.Rand, p *pages.Pages, tree *kept) *kept {
	t.Helper()
	a := p.Arena()
	code, e := r.Intn(p.Codes()), api.Entry{Val: r.Int63n(3), Held: r.Intn(4) == 0}
	if r.Intn(3) == 0 {
		e = nothing
	}
	list, used, was := tree.list.with(code, e), a.Used(), picture(a)
	root, why := p.Set(tree.root, code, e)
	if tree.list[code] == e {
		if root != tree.root || why != api.OK || a.Used() != used {
			t.Fatalf("Set of the same = %d, %d; want %d", root, why, tree.root)
		}
		tree.refs++
		return nil
	}
	need := list.nodesFor(code, p.Levels())
	if used+need > a.Cap() {
		if root != 0 || why != api.ErrFull || !slices.Equal(picture(a), was) {
			t.Fatalf("Set without room = %d, %d", root, why)
		}
		return nil
	}
	if why != api.OK || a.Used() != used+need || root != 0 && a.Refs(root) != 1 {
		t.Fatalf("Set = %d, %d; %d new nodes, want %d; Refs %d", root, why, a.Used()-used, need, a.Refs(root))
	}
	hold(t, p, root, list)
	hold(t, p, tree.root, tree.list)
	return &kept{root, 1, list}
}
