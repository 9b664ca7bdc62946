package arena_test

import (
	"math"
	"math/rand"
	"testing"

	"moiety/api"
	"moiety/arena"
)

type kids = [arena.Fan]int

// model is an arena that has nothing but a list of its nodes.
type model struct {
	most  int
	nodes map[int]*noted
}

type noted struct {
	node arena.Node
	refs int
}

func newModel(most int) *model {
	return &model{most, map[int]*noted{}}
}

func (m *model) make(n arena.Node) (int, api.Errno) {
	if n.Leaf {
		n.Kids = kids{}
	} else {
		n.Vals = [arena.Fan]api.Entry{}
	}
	for _, kid := range n.Kids {
		if kid != 0 && m.nodes[kid] == nil {
			return 0, api.ErrNone
		}
	}
	if len(m.nodes) == m.most {
		return 0, api.ErrFull
	}
	for _, kid := range n.Kids {
		m.keep(kid)
	}
	id := 1
	for m.nodes[id] != nil {
		id++
	}
	m.nodes[id] = &noted{n, 1}
	return id, api.OK
}

func (m *model) keep(id int) api.Errno {
	if m.nodes[id] == nil {
		return api.ErrNone
	}
	m.nodes[id].refs++
	return api.OK
}

func (m *model) drop(id int) api.Errno {
	n := m.nodes[id]
	if n == nil {
		return api.ErrNone
	}
	n.refs--
	if n.refs == 0 {
		delete(m.nodes, id)
		for _, kid := range n.node.Kids {
			m.drop(kid)
		}
	}
	return api.OK
}

// hold asks everything of a that the model tells.
func hold(t *testing.T, what string, a *arena.Arena, m *model) {
	t.Helper()
	if a.Used() != len(m.nodes) || a.Cap() != m.most {
		t.Fatalf("%s: Used %d, Cap %d; want %d, %d", what, a.Used(), a.Cap(), len(m.nodes), m.most)
	}
	for id := -2; id <= m.most+2; id++ {
		want, refs, wantWhy := arena.Node{}, 0, api.ErrNone
		if n := m.nodes[id]; n != nil {
			want, refs, wantWhy = n.node, n.refs, api.OK
		}
		if n, why := a.At(id); n != want || why != wantWhy {
			t.Fatalf("%s: At(%d) = %v, %d; want %v, %d", what, id, n, why, want, wantWhy)
		}
		if a.Refs(id) != refs {
			t.Fatalf("%s: Refs(%d) = %d; want %d", what, id, a.Refs(id), refs)
		}
	}
}

func newArena(t *testing.T, most int) *arena.Arena {
	t.Helper()
	a, why := arena.New(most)
	if a == nil || why != api.OK {
		t.Fatalf("New(%d) = %v, %d", most, a, why)
	}
	return a
}

// mustMake makes a node and holds its number against id.
func mustMake(t *testing.T, a *arena.Arena, n arena.Node, id int) int {
	t.Helper()
	if got, why := a.Make(n); got != id || why != api.OK {
		t.Fatalf("Make(%v) = %d, %d; want %d, 0", n, got, why, id)
	}
	return id
}

func mustDrop(t *testing.T, a *arena.Arena, ids ...int) {
	t.Helper()
	for _, id := range ids {
		if why := a.Drop(id); why != api.OK {
			t.Fatalf("Drop(%d) = %d", id, why)
		}
	}
}

// holdRefs holds how often the nodes 1, 2, .. are asked for, and how many there are.
func holdRefs(t *testing.T, a *arena.Arena, refs ...int) {
	t.Helper()
	used := 0
	for i, want := range refs {
		if got := a.Refs(i + 1); got != want {
			t.Errorf("Refs(%d) = %d; want %d", i+1, got, want)
		}
		_, why := a.At(i + 1)
		if there := why == api.OK; there != (want > 0) {
			t.Errorf("At(%d): %d, but Refs %d", i+1, why, want)
		}
		if want > 0 {
			used++
		}
	}
	if a.Used() != used {
		t.Errorf("Used %d; want %d", a.Used(), used)
	}
}

// P9.2 to P9.4: the chapter's example.
func TestExample(t *testing.T) {
	a := newArena(t, 5)
	x := mustMake(t, a, arena.Node{Leaf: true}, 1)
	y := mustMake(t, a, arena.Node{Kids: kids{x}}, 2)
	holdRefs(t, a, 2, 1)
	mustDrop(t, a, x)
	holdRefs(t, a, 1, 1)
	mustDrop(t, a, y)
	holdRefs(t, a, 0, 0)
}

// P9.1: how many nodes an arena may have, the edges and beyond.
func TestNew(t *testing.T) {
	for _, most := range []int{1, 2, 63, 64, 65, api.MaxArena - 1, api.MaxArena} {
		a := newArena(t, most)
		if a.Cap() != most || a.Used() != 0 {
			t.Errorf("New(%d): Cap %d, Used %d", most, a.Cap(), a.Used())
		}
	}
	for _, most := range []int{0, -1, api.MaxArena + 1, math.MinInt, math.MaxInt} {
		if a, why := arena.New(most); a != nil || why != api.ErrArg {
			t.Errorf("New(%d) = %v, %d", most, a, why)
		}
	}
}

// P9.1, P9.2: the greatest arena takes just so many, all numbers one after another, and is full then; its first and its last nodes are found again.
func TestGreatest(t *testing.T) {
	a := newArena(t, api.MaxArena)
	for i := range api.MaxArena {
		mustMake(t, a, arena.Node{Leaf: true, Vals: [arena.Fan]api.Entry{{Val: int64(i)}}}, i+1)
	}
	if a.Used() != api.MaxArena || a.Cap() != api.MaxArena {
		t.Error("Used", a.Used(), "Cap", a.Cap())
	}
	if id, why := a.Make(arena.Node{}); id != 0 || why != api.ErrFull {
		t.Error("Make", id, why)
	}
	for _, id := range []int{1, 64, 65, api.MaxArena} {
		if n, why := a.At(id); n.Vals[0].Val != int64(id-1) || why != api.OK {
			t.Errorf("At(%d) = %v, %d", id, n, why)
		}
	}
	if _, why := a.At(api.MaxArena + 1); why != api.ErrNone {
		t.Error("At", why)
	}
	mustDrop(t, a, api.MaxArena, 128, 65)
	for _, id := range []int{65, 128, api.MaxArena} {
		mustMake(t, a, arena.Node{}, id)
	}
}

// P9.1, P9.2: an arena for one node.
func TestOne(t *testing.T) {
	a := newArena(t, 1)
	mustMake(t, a, arena.Node{}, 1)
	if id, why := a.Make(arena.Node{Kids: kids{1}}); id != 0 || why != api.ErrFull {
		t.Error("Make", id, why)
	}
	holdRefs(t, a, 1)
	mustDrop(t, a, 1)
	mustMake(t, a, arena.Node{Leaf: true}, 1)
}

// P9.2: Kids of a node of leaves, whatever they are, and Vals of others count for nothing.
func TestOtherParts(t *testing.T) {
	a := newArena(t, 5)
	vals := [arena.Fan]api.Entry{{Val: 5}, {Held: true}, {Val: math.MinInt64, Held: true}, 7: {Val: math.MaxInt64}}
	x := mustMake(t, a, arena.Node{Leaf: true, Vals: vals}, 1)
	y := mustMake(t, a, arena.Node{Leaf: true, Kids: kids{x, -1, 9, math.MaxInt, math.MinInt}, Vals: vals}, 2)
	z := mustMake(t, a, arena.Node{Kids: kids{x, 0, y}, Vals: vals}, 3)
	holdRefs(t, a, 2, 2, 1)
	for id, want := range map[int]arena.Node{
		x: {Leaf: true, Vals: vals},
		y: {Leaf: true, Vals: vals},
		z: {Kids: kids{x, 0, y}},
	} {
		if n, why := a.At(id); n != want || why != api.OK {
			t.Errorf("At(%d) = %v, %d", id, n, why)
		}
	}
	mustDrop(t, a, y)
	holdRefs(t, a, 2, 1, 1)
	mustDrop(t, a, z)
	holdRefs(t, a, 1, 0, 0)
}

// P9.2: Kids that are nodes, in each place and in several, and a node without parts.
func TestKids(t *testing.T) {
	a := newArena(t, 20)
	mustMake(t, a, arena.Node{}, 1)
	mustMake(t, a, arena.Node{Leaf: true}, 2)
	for i := range arena.Fan {
		n := arena.Node{}
		n.Kids[i] = 1 + i%2
		mustMake(t, a, n, 3+i)
		if got, _ := a.At(3 + i); got != n {
			t.Errorf("place %d: %v", i, got)
		}
	}
	holdRefs(t, a, 5, 5, 1, 1, 1, 1, 1, 1, 1, 1)
	all := kids{1, 1, 1, 1, 1, 1, 1, 1}
	mustMake(t, a, arena.Node{Kids: all}, 11)
	holdRefs(t, a, 13, 5, 1, 1, 1, 1, 1, 1, 1, 1, 1)
	mustDrop(t, a, 11)
	holdRefs(t, a, 5, 5, 1, 1, 1, 1, 1, 1, 1, 1, 0)
}

// P9.2, P6: Kids that are none: beyond all, below 0, of a node that is gone, and the one that the new node would be; nothing is changed.
func TestKidsNone(t *testing.T) {
	a := newArena(t, 4)
	mustMake(t, a, arena.Node{Leaf: true}, 1)
	mustMake(t, a, arena.Node{Leaf: true}, 2)
	mustMake(t, a, arena.Node{Leaf: true}, 3)
	mustDrop(t, a, 2)
	for _, kid := range []int{2, 4, 5, -1, 64, api.MaxArena, api.MaxArena + 1, math.MaxInt, math.MinInt} {
		for i := range arena.Fan {
			n := arena.Node{Kids: kids{1, 1, 3, 3, 1, 1, 3, 3}}
			n.Kids[i] = kid
			if id, why := a.Make(n); id != 0 || why != api.ErrNone {
				t.Errorf("Make with %d at %d = %d, %d", kid, i, id, why)
			}
		}
	}
	holdRefs(t, a, 1, 0, 1, 0)
	mustMake(t, a, arena.Node{}, 2)
}

// P9.2, P6: a full arena takes no node; of a Kid that is none it tells that first; nothing is changed.
func TestFull(t *testing.T) {
	a := newArena(t, 2)
	mustMake(t, a, arena.Node{Leaf: true}, 1)
	mustMake(t, a, arena.Node{Kids: kids{1}}, 2)
	for _, n := range []arena.Node{{}, {Leaf: true}, {Leaf: true, Kids: kids{7}}, {Kids: kids{1, 2}}} {
		if id, why := a.Make(n); id != 0 || why != api.ErrFull {
			t.Errorf("Make(%v) = %d, %d", n, id, why)
		}
	}
	for _, kid := range []int{3, -1, math.MaxInt} {
		if id, why := a.Make(arena.Node{Kids: kids{1, kid}}); id != 0 || why != api.ErrNone {
			t.Errorf("Make with %d = %d, %d", kid, id, why)
		}
	}
	holdRefs(t, a, 2, 1, 0)
	// Room comes back only with a node that is gone.
	mustDrop(t, a, 1)
	if _, why := a.Make(arena.Node{}); why != api.ErrFull {
		t.Error("Make", why)
	}
	mustDrop(t, a, 2)
	mustMake(t, a, arena.Node{}, 1)
	mustMake(t, a, arena.Node{}, 2)
}

// P9.2: a new node has the lowest number that none has, behind Drops in no order.
func TestLowest(t *testing.T) {
	a := newArena(t, 200)
	for i := range 150 {
		mustMake(t, a, arena.Node{Leaf: true}, i+1)
	}
	mustDrop(t, a, 130, 7, 64, 65, 3, 150)
	for _, id := range []int{3, 7, 64, 65, 130, 150, 151} {
		mustMake(t, a, arena.Node{}, id)
	}
	mustDrop(t, a, 20, 10)
	mustMake(t, a, arena.Node{}, 10)
	mustDrop(t, a, 5)
	mustMake(t, a, arena.Node{}, 5)
	mustMake(t, a, arena.Node{}, 20)
	mustMake(t, a, arena.Node{}, 152)
}

// P9.3: a node that is kept is there as often; of none nothing is kept and nothing dropped.
func TestKeepDrop(t *testing.T) {
	a := newArena(t, 3)
	none := []int{0, 1, 2, 3, 4, -1, math.MaxInt, math.MinInt}
	for _, id := range none {
		if k, d := a.Keep(id), a.Drop(id); k != api.ErrNone || d != api.ErrNone {
			t.Errorf("of an empty arena: Keep(%d) = %d, Drop %d", id, k, d)
		}
	}
	mustMake(t, a, arena.Node{}, 1)
	for i := range 3 {
		if why := a.Keep(1); why != api.OK || a.Refs(1) != 2+i {
			t.Error("Keep", why, a.Refs(1))
		}
	}
	for i := range 4 {
		if a.Used() != 1 || a.Refs(1) != 4-i {
			t.Error("Used", a.Used(), "Refs", a.Refs(1))
		}
		mustDrop(t, a, 1)
	}
	holdRefs(t, a, 0)
	for _, id := range none {
		if k, d := a.Keep(id), a.Drop(id); k != api.ErrNone || d != api.ErrNone {
			t.Errorf("of one that is gone: Keep(%d) = %d, Drop %d", id, k, d)
		}
	}
	holdRefs(t, a, 0, 0, 0)
}

// P9.3: Drop of a node goes on with its Kids, several levels down, but not with those that others ask for.
func TestDropDown(t *testing.T) {
	a := newArena(t, 9)
	mustMake(t, a, arena.Node{Leaf: true}, 1)                // asked for by 3 alone
	mustMake(t, a, arena.Node{Leaf: true}, 2)                // by 3 in two places, and by 4
	mustMake(t, a, arena.Node{Kids: kids{1, 2, 0, 2}}, 3)    // by 5 in three places
	mustMake(t, a, arena.Node{Kids: kids{7: 2}}, 4)          // by 5, and kept
	mustMake(t, a, arena.Node{Kids: kids{3, 4, 3, 3}}, 5)    // by 6
	mustMake(t, a, arena.Node{Kids: kids{0, 0, 5, 0}}, 6)    // told
	mustMake(t, a, arena.Node{Leaf: true, Kids: kids{1}}, 7) // beside all
	mustDrop(t, a, 1, 2, 3, 5)
	holdRefs(t, a, 1, 3, 3, 2, 1, 1, 1)
	mustDrop(t, a, 6)
	holdRefs(t, a, 0, 1, 0, 1, 0, 0, 1)
	mustDrop(t, a, 4)
	holdRefs(t, a, 0, 0, 0, 0, 0, 0, 1)
	mustDrop(t, a, 7)
	holdRefs(t, a, 0, 0, 0, 0, 0, 0, 0)
}

// P9.3, P9.5: nodes below one another, as deep as an arena goes, and with each one in all places of the next.
func TestDeep(t *testing.T) {
	a := newArena(t, api.MaxArena)
	id := mustMake(t, a, arena.Node{Leaf: true}, 1)
	for i := 2; i <= api.MaxArena; i++ {
		next := mustMake(t, a, arena.Node{Kids: kids{id, id, id, id, id, id, id, id}}, i)
		mustDrop(t, a, id)
		id = next
	}
	if a.Refs(1) != 8 || a.Refs(id) != 1 || a.Used() != api.MaxArena {
		t.Error("Refs", a.Refs(1), a.Refs(id), "Used", a.Used())
	}
	mustDrop(t, a, id)
	if a.Used() != 0 || a.Refs(1) != 0 {
		t.Error("Used", a.Used(), "Refs", a.Refs(1))
	}
	mustMake(t, a, arena.Node{}, 1)
}

// P9.4: what an empty, a full and an emptied arena tells of all numbers.
func TestAsk(t *testing.T) {
	a, m := newArena(t, 3), newModel(3)
	hold(t, "empty", a, m)
	for i := range 4 {
		n := arena.Node{Leaf: i == 0, Kids: kids{i}, Vals: [arena.Fan]api.Entry{{Val: int64(i)}}}
		a.Make(n)
		m.make(n)
		hold(t, "filling", a, m)
	}
	for id := 3; id >= 1; id-- {
		a.Drop(id)
		m.drop(id)
		hold(t, "emptying", a, m)
	}
	for _, id := range []int{math.MaxInt, math.MinInt, api.MaxArena + 1} {
		if n, why := a.At(id); n != (arena.Node{}) || why != api.ErrNone || a.Refs(id) != 0 {
			t.Errorf("At(%d) = %v, %d", id, n, why)
		}
	}
}

// P9.6, Rules 4 and 5: a node is as it was made, whatever is written into the one that was handed in or out.
func TestOwnMemory(t *testing.T) {
	a := newArena(t, 3)
	n := arena.Node{Leaf: true, Vals: [arena.Fan]api.Entry{{Val: 1}, {Val: 2, Held: true}}}
	was := n
	mustMake(t, a, n, 1)
	n.Leaf, n.Kids[0], n.Vals[0].Val, n.Vals[7].Held = false, 1, 9, true
	if got, _ := a.At(1); got != was {
		t.Error("At behind a write into the one handed in", got)
	}
	got, _ := a.At(1)
	got.Leaf, got.Kids[3], got.Vals[1] = false, 5, api.Entry{}
	if again, _ := a.At(1); again != was {
		t.Error("At behind a write into the one handed out", again)
	}
}

// P9.1 to P9.4, P6: a nil arena, and one that New did not make.
func TestNil(t *testing.T) {
	var none *arena.Arena
	for _, id := range []int{0, 1, -1, math.MaxInt, math.MinInt} {
		if n, why := none.At(id); n != (arena.Node{}) || why != api.ErrNil {
			t.Error("At", n, why)
		}
		if k, d := none.Keep(id), none.Drop(id); k != api.ErrNil || d != api.ErrNil {
			t.Error("Keep", k, "Drop", d)
		}
		if none.Refs(id) != 0 {
			t.Error("Refs", none.Refs(id))
		}
		for _, leaf := range []bool{true, false} {
			if got, why := none.Make(arena.Node{Leaf: leaf, Kids: kids{id}}); got != 0 || why != api.ErrNil {
				t.Error("Make", got, why)
			}
		}
	}
	if none.Used() != 0 || none.Cap() != 0 {
		t.Error("Used", none.Used(), "Cap", none.Cap())
	}
	zero := &arena.Arena{}
	if id, why := zero.Make(arena.Node{}); id != 0 || why != api.ErrFull {
		t.Error("Make of an arena without room", id, why)
	}
	if k, d := zero.Keep(1), zero.Drop(1); k != api.ErrNone || d != api.ErrNone || zero.Cap() != 0 {
		t.Error("Keep", k, "Drop", d)
	}
}

func anyNode(r *rand.Rand, most int) arena.Node {
	n := arena.Node{Leaf: r.Intn(3) == 0}
	for i := range n.Kids {
		if r.Intn(3) == 0 {
			n.Kids[i] = 1 + r.Intn(most)
		}
		if r.Intn(40) == 0 {
			n.Kids[i] = r.Intn(3*most) - most
		}
		n.Vals[i] = api.Entry{Val: r.Int63n(9) - 4, Held: r.Intn(2) == 0}
	}
	return n
}

// P9.1 to P9.6: calls of any kind, against a list of nodes; nodes are dropped more often than they were told, too.
func TestAny(t *testing.T) {
	for seed := range 60 {
		r := rand.New(rand.NewSource(int64(seed)))
		most := 1 + r.Intn(12)
		a, m := newArena(t, most), newModel(most)
		for range 300 {
			id := r.Intn(most+3) - 1
			switch r.Intn(5) {
			case 0:
				if got, want := a.Keep(id), m.keep(id); got != want {
					t.Fatalf("Keep(%d) = %d; want %d", id, got, want)
				}
			case 1, 2:
				if got, want := a.Drop(id), m.drop(id); got != want {
					t.Fatalf("Drop(%d) = %d; want %d", id, got, want)
				}
			default:
				n := anyNode(r, most)
				got, why := a.Make(n)
				if want, wantWhy := m.make(n); got != want || why != wantWhy {
					t.Fatalf("Make(%v) = %d, %d; want %d, %d", n, got, why, want, wantWhy)
				}
			}
			hold(t, "any", a, m)
		}
	}
}

// P9.5, P9.6: numbers that were told and kept, dropped in any order as often: till then each node is as it was made, then there are none.
func TestAllDropped(t *testing.T) {
	for seed := range 40 {
		r := rand.New(rand.NewSource(int64(seed)))
		a := newArena(t, 300)
		made := map[int]arena.Node{}
		var told []int
		for range 250 {
			n := arena.Node{Leaf: len(told) == 0 || r.Intn(4) == 0}
			for i := range n.Kids {
				if !n.Leaf && r.Intn(2) == 0 {
					n.Kids[i] = told[r.Intn(len(told))]
				}
			}
			id, why := a.Make(n)
			if why != api.OK {
				t.Fatal("Make", why)
			}
			made[id] = n
			told = append(told, id)
			for r.Intn(3) == 0 {
				if why := a.Keep(id); why != api.OK {
					t.Fatal("Keep", why)
				}
				told = append(told, id)
			}
		}
		r.Shuffle(len(told), func(i, j int) { told[i], told[j] = told[j], told[i] })
		for i, id := range told {
			for _, kept := range told[i:] {
				if n, why := a.At(kept); n != made[kept] || why != api.OK {
					t.Fatalf("At(%d) = %v, %d", kept, n, why)
				}
			}
			mustDrop(t, a, id)
		}
		if a.Used() != 0 {
			t.Fatal("Used", a.Used())
		}
	}
}
