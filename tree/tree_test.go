package tree_test

import (
	"math"
	"math/rand"
	"slices"
	"strconv"
	"testing"

	"moiety/api"
	"moiety/tree"
)

// nodes are members m0, m1 and so on, below those of ups.
func nodes(ups ...int) []api.Node {
	l := make([]api.Node, len(ups))
	for i, up := range ups {
		l[i] = api.Node{Name: "m" + strconv.Itoa(i), Up: up}
	}
	return l
}

// chain is many members, each below the one ahead of it.
func chain(many int) []api.Node {
	var ups []int
	for i := range many {
		ups = append(ups, i-1)
	}
	return nodes(ups...)
}

// flat is many members at the top.
func flat(many int) []api.Node {
	return nodes(slices.Repeat([]int{-1}, many)...)
}

func grown(t *testing.T, l []api.Node) *tree.Tree {
	t.Helper()
	x, at, why := tree.New(l)
	if x == nil || at != 0 || why != api.OK {
		t.Fatalf("New(%v) = %v, %d, %d", l, x, at, why)
	}
	return x
}

// model answers by the members' list alone, in the words of the chapter.
type model []api.Node

func (m model) above(i int) []int {
	l := []int{i}
	for m[i].Up != -1 {
		i = m[i].Up
		l = append(l, i)
	}
	return l
}

func (m model) kids(up int) []int {
	var l []int
	for i := range m {
		if m[i].Up == up {
			l = append(l, i)
		}
	}
	return l
}

// order is sorted by the ways down to the members, which is what the chapter's words come to.
func (m model) order() []int {
	down := func(i int) []int {
		l := m.above(i)
		slices.Reverse(l)
		return l
	}
	var l []int
	for i := range m {
		l = append(l, i)
	}
	slices.SortFunc(l, func(a, b int) int { return slices.Compare(down(a), down(b)) })
	return l
}

func (m model) leaves() []int {
	return slices.DeleteFunc(m.order(), func(i int) bool { return len(m.kids(i)) > 0 })
}

// shuffled are trees at chance, their places in any order, at most MaxDepth-1 above each.
func shuffled(r *rand.Rand) []api.Node {
	n := 1 + r.Intn(api.MaxNodes)
	places := r.Perm(n)
	ups, depth := make([]int, n), make([]int, n)
	for i, at := range places {
		ups[at] = -1
		if i == 0 || r.Intn(5) == 0 {
			continue
		}
		if up := places[r.Intn(i)]; depth[up] < api.MaxDepth-1 {
			ups[at], depth[at] = up, depth[up]+1
		}
	}
	return nodes(ups...)
}

func hold(t *testing.T, what string, l []api.Node, got, want []int) {
	t.Helper()
	if !slices.Equal(got, want) {
		t.Errorf("%s of %v = %v; want %v", what, l, got, want)
	}
}

func holdMember(t *testing.T, l []api.Node, x *tree.Tree, i int) {
	t.Helper()
	m := model(l)
	above, leaves := m.above(i), m.leaves()
	hold(t, "Kids", l, x.Kids(i), m.kids(i))
	hold(t, "Above", l, x.Above(i), above)
	if x.Name(i) != l[i].Name || x.Up(i) != l[i].Up || x.Find(l[i].Name) != i || x.Depth(i) != len(above)-1 {
		t.Errorf("%d of %v: Name %q, Up %d, Find %d, Depth %d", i, l, x.Name(i), x.Up(i), x.Find(l[i].Name), x.Depth(i))
	}
	if leaf := len(m.kids(i)) == 0; x.Leaf(i) != leaf || x.Rank(i) != slices.Index(leaves, i) {
		t.Errorf("%d of %v: Leaf %t, Rank %d", i, l, x.Leaf(i), x.Rank(i))
	}
	for k := -2; k < len(l)+2; k++ {
		if x.Within(i, k) != slices.Contains(above, k) {
			t.Errorf("Within(%d, %d) of %v = %t", i, k, l, x.Within(i, k))
		}
	}
	from, to := x.Span(i)
	if from < 0 || from >= to || to > len(leaves) {
		t.Fatalf("Span(%d) of %v = %d, %d", i, l, from, to)
	}
	for rank, leaf := range leaves {
		if within := slices.Contains(m.above(leaf), i); within != (from <= rank && rank < to) {
			t.Errorf("Span(%d) of %v = %d, %d, and the leaf %d", i, l, from, to, leaf)
		}
	}
}

// P5.2, P5.3, P5.4, P5.5: against lists alone, also of members whose places are not in order.
func TestShuffled(t *testing.T) {
	r := rand.New(rand.NewSource(5))
	for range 400 {
		l := shuffled(r)
		x := grown(t, l)
		hold(t, "Order", l, x.Order(), model(l).order())
		hold(t, "Leaves", l, x.Leaves(), model(l).leaves())
		if x.Len() != len(l) {
			t.Errorf("Len of %v = %d", l, x.Len())
		}
		for i := range l {
			holdMember(t, l, x, i)
			holdApart(t, l, x, i)
		}
	}
}

// holdApart holds the spans of i and of all others to P5.4.
func holdApart(t *testing.T, l []api.Node, x *tree.Tree, i int) {
	t.Helper()
	a, b := x.Span(i)
	for k := range l {
		c, d := x.Span(k)
		apart := b <= c || d <= a
		within := a <= c && d <= b || c <= a && b <= d
		if !apart && !within {
			t.Errorf("Spans of %d and %d of %v: %d, %d and %d, %d", i, k, l, a, b, c, d)
		}
	}
}

// P5.2, P5.3: the chapter's example, and one whose places are not in order, written out.
func TestWrittenOut(t *testing.T) {
	l := []api.Node{{Name: "all", Up: -1}, {Name: "a", Up: 0}, {Name: "b", Up: 0}, {Name: "c", Up: 1}}
	x := grown(t, l)
	hold(t, "Order", l, x.Order(), []int{0, 1, 3, 2})
	hold(t, "Leaves", l, x.Leaves(), []int{3, 2})
	if from, to := x.Span(1); from != 0 || to != 1 {
		t.Errorf("Span(1) = %d, %d", from, to)
	}
	l = nodes(4, -1, 4, 0, -1, 1, 0)
	x = grown(t, l)
	hold(t, "Order", l, x.Order(), []int{1, 5, 4, 0, 3, 6, 2})
	hold(t, "Leaves", l, x.Leaves(), []int{5, 3, 6, 2})
	hold(t, "Kids(4)", l, x.Kids(4), []int{0, 2})
	hold(t, "Above(6)", l, x.Above(6), []int{6, 0, 4})
	if from, to := x.Span(0); from != 1 || to != 3 {
		t.Errorf("Span(0) = %d, %d", from, to)
	}
	if from, to := x.Span(4); from != 1 || to != 4 {
		t.Errorf("Span(4) = %d, %d", from, to)
	}
	if x.Rank(6) != 2 || x.Rank(0) != -1 || x.Depth(6) != 2 || x.Depth(4) != 0 || !x.Within(6, 4) || x.Within(4, 6) || !x.Within(4, 4) {
		t.Error("Rank, Depth, Within")
	}
}

// P5.1: each error with the member's place.
func TestNewRefused(t *testing.T) {
	named := func(l []api.Node, i int, name string) []api.Node {
		l[i].Name = name
		return l
	}
	rows := []struct {
		what string
		l    []api.Node
		at   int
		why  api.Errno
	}{
		{"nil", nil, 0, api.ErrSize},
		{"none", []api.Node{}, 0, api.ErrSize},
		{"one too many", flat(api.MaxNodes + 1), 0, api.ErrSize},
		{"too many, and all else wrong", make([]api.Node, 100), 0, api.ErrSize},
		{"empty name", named(flat(3), 2, ""), 2, api.ErrName},
		{"digit ahead", named(flat(3), 0, "1a"), 0, api.ErrName},
		{"a name of 13 bytes", named(flat(3), 1, "abcdefghijklm"), 1, api.ErrName},
		{"any bytes", named(flat(3), 1, "\xff\x00/"), 1, api.ErrName},
		{"twice", named(flat(4), 3, "m1"), 3, api.ErrTwice},
		{"three times", named(named(flat(4), 2, "m1"), 3, "m1"), 2, api.ErrTwice},
		{"above it one behind the last", nodes(-1, 2), 1, api.ErrRange},
		{"above it -2", nodes(-1, -1, -2), 2, api.ErrRange},
		{"above it the least", nodes(math.MinInt), 0, api.ErrRange},
		{"above it the greatest", nodes(-1, math.MaxInt), 1, api.ErrRange},
		{"above itself", nodes(-1, 0, 2), 2, api.ErrLoop},
		{"the only one above itself", nodes(0), 0, api.ErrLoop},
		{"above itself by another one", nodes(-1, 3, 0, 1), 1, api.ErrLoop},
		{"below a loop, not in it", nodes(1, 2, 1), 1, api.ErrLoop},
		{"below one that is above itself", nodes(1, 1), 1, api.ErrLoop},
		{"MaxDepth above it", chain(api.MaxDepth + 1), api.MaxDepth, api.ErrDeep},
		{"MaxDepth above it, and more behind", chain(api.MaxDepth + 4), api.MaxDepth, api.ErrDeep},
		{"MaxDepth above the first one", nodes(1, 2, 3, 4, 5, 6, -1), 0, api.ErrDeep},
	}
	for _, r := range rows {
		if x, at, why := tree.New(r.l); x != nil || at != r.at || why != r.why {
			t.Errorf("%s: New = %v, %d, %d; want nil, %d, %d", r.what, x, at, why, r.at, r.why)
		}
	}
}

// P5.1, P6: a loop of all members, from each of them on.
func TestNewLongLoop(t *testing.T) {
	for size := 1; size <= api.MaxNodes; size++ {
		l := flat(api.MaxNodes)
		first := api.MaxNodes - size
		for i := first; i < len(l); i++ {
			l[i].Up = first + (i-first+1)%size
		}
		if x, at, why := tree.New(l); x != nil || at != first || why != api.ErrLoop {
			t.Errorf("a loop of %d: New = %v, %d, %d; want nil, %d, ErrLoop", size, x, at, why, first)
		}
	}
}

// P5.1: which of two is first: each is asked of all members ahead of the next.
func TestNewFirst(t *testing.T) {
	// Of each error a member that has it, behind members that are right by it and by all ahead of it.
	faults := []struct {
		why api.Errno
		put func(l []api.Node, i int)
	}{
		{api.ErrName, func(l []api.Node, i int) { l[i].Name = "no name" }},
		{api.ErrTwice, func(l []api.Node, i int) { l[i].Name = "twin" }},
		{api.ErrRange, func(l []api.Node, i int) { l[i].Up = len(l) }},
		{api.ErrLoop, func(l []api.Node, i int) { l[i].Up = i }},
		{api.ErrDeep, func(l []api.Node, i int) { l[i].Up = 6 }},
	}
	for a := range faults {
		for b := range faults[:a] {
			// Places 1 to 6 are six above each other; 0 has the name twin; the later error stands ahead.
			l := nodes(-1, -1, 1, 2, 3, 4, 5, -1, -1)
			l[0].Name = "twin"
			faults[a].put(l, 7)
			faults[b].put(l, 8)
			if x, at, why := tree.New(l); x != nil || at != 8 || why != faults[b].why {
				t.Errorf("%d ahead of %d: New = %v, %d, %d", faults[a].why, faults[b].why, x, at, why)
			}
			faults[b].put(l, 7)
			if x, at, why := tree.New(l); x != nil || at != 7 || why != faults[b].why {
				t.Errorf("%d twice: New = %v, %d, %d", faults[b].why, x, at, why)
			}
		}
	}
}

// P5.1: at the limits, and one fewer above one.
func TestNewAtLimits(t *testing.T) {
	if x := grown(t, flat(api.MaxNodes)); x.Len() != api.MaxNodes || x.Rank(31) != 31 {
		t.Error("MaxNodes", x.Len())
	}
	if x := grown(t, flat(1)); x.Len() != 1 || !x.Leaf(0) {
		t.Error("one member")
	}
	if x := grown(t, chain(api.MaxDepth)); x.Depth(api.MaxDepth-1) != api.MaxDepth-1 {
		t.Error("MaxDepth - 1 above one")
	}
	l := flat(1)
	l[0].Name = "Abcdefgh_012"
	if x := grown(t, l); x.Find("Abcdefgh_012") != 0 {
		t.Error("a name of MaxName bytes")
	}
}

func holdNone(t *testing.T, what string, x *tree.Tree, i int) {
	t.Helper()
	from, to := x.Span(i)
	if x.Name(i) != "" || x.Up(i) != -1 || len(x.Kids(i)) != 0 || x.Leaf(i) || x.Rank(i) != -1 || from != 0 || to != 0 || len(x.Above(i)) != 0 || x.Depth(i) != 0 {
		t.Errorf("%s, %d: %q, %d, %v, %t, %d, %d, %d, %v, %d", what, i, x.Name(i), x.Up(i), x.Kids(i), x.Leaf(i), x.Rank(i), from, to, x.Above(i), x.Depth(i))
	}
	for _, k := range []int{i, -1, 0, 1, math.MinInt, math.MaxInt} {
		if x.Within(i, k) {
			t.Errorf("%s: Within(%d, %d)", what, i, k)
		}
	}
}

// P5.2, P5.3, P6: of a place that is none, and of nil.
func TestNone(t *testing.T) {
	x := grown(t, nodes(-1, 0, 0))
	for _, i := range []int{-1, -2, 3, 4, 32, math.MinInt, math.MaxInt} {
		holdNone(t, "no place", x, i)
		if x.Within(1, i) {
			t.Errorf("Within(1, %d)", i)
		}
	}
	for _, name := range []string{"", "M0", "m", "m3", "m00", "no name", "\xff"} {
		if x.Find(name) != -1 {
			t.Errorf("Find(%q) = %d", name, x.Find(name))
		}
	}
	for what, x := range map[string]*tree.Tree{"nil": nil, "zero": {}} {
		for _, i := range []int{0, 1, -1, math.MinInt, math.MaxInt} {
			holdNone(t, what, x, i)
		}
		if x.Len() != 0 || x.Find("m0") != -1 || x.Find("") != -1 || len(x.Leaves()) != 0 || len(x.Order()) != 0 {
			t.Errorf("%s: %d, %d, %v, %v", what, x.Len(), x.Find("m0"), x.Leaves(), x.Order())
		}
	}
}

// P5.2, P5.3, rules 4 and 5: no list is kept, none is shared.
func TestMemory(t *testing.T) {
	l := nodes(4, -1, 4, 0, -1, 1, 0)
	same := slices.Clone(l)
	x := grown(t, l)
	if !slices.Equal(l, same) {
		t.Error("New wrote into its list")
	}
	for i := range l {
		l[i] = api.Node{Name: "x", Up: 99}
	}
	for _, answer := range []func() []int{
		x.Order, x.Leaves,
		func() []int { return x.Kids(4) },
		func() []int { return x.Kids(0) },
		func() []int { return x.Above(6) },
	} {
		was := slices.Clone(answer())
		other := answer()
		got := answer()
		for i := range got {
			got[i] = -7
		}
		_ = append(got[:0:cap(got)], slices.Repeat([]int{-7}, cap(got))...)
		if !slices.Equal(answer(), was) || !slices.Equal(other, was) {
			t.Errorf("an answer is seen by another one: %v, %v; want %v", answer(), other, was)
		}
	}
	for i := range same {
		holdMember(t, same, x, i)
	}
	hold(t, "Order", same, x.Order(), model(same).order())
}
