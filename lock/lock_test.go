package lock_test

import (
	"math"
	"math/rand"
	"slices"
	"strconv"
	"strings"
	"testing"

	"moiety/api"
	"moiety/coord"
	"moiety/dims"
	"moiety/lock"
	"moiety/region"
)

// catOf is a catalogue of so many measures, and of dimensions whose members stand below those of each list.
func catOf(measures int, ups ...[]int) api.Cat {
	cat := api.Cat{Leaves: 1, Scens: 1}
	for i := range measures {
		cat.Meas = append(cat.Meas, "m"+strconv.Itoa(i))
	}
	for k, l := range ups {
		d := api.Dim{Name: "d" + strconv.Itoa(k)}
		for i, up := range l {
			d.Nodes = append(d.Nodes, api.Node{Name: "n" + strconv.Itoa(i), Up: up})
		}
		cat.Dims = append(cat.Dims, d)
	}
	return cat
}

func spaceOf(t *testing.T, cat api.Cat) *coord.Space {
	t.Helper()
	d, _, why := dims.New(cat)
	if why != api.OK {
		t.Fatal("dims", why)
	}
	s, _ := coord.New(d)
	return s
}

// deep is two measures of all 0; a 1 and b 2 below it; c 3 and d 4 below a. Its leaves' codes: c 0, d 1, b 2; 3, 4, 5.
func deep() api.Cat {
	return catOf(2, []int{-1, 0, 0, 1, 1})
}

// wide is four measures of 20 cells in all.
func wide() api.Cat {
	return catOf(4, []int{-1, 0, 0, 1, 1})
}

// cats are of one to four dimensions, of which some have members ahead of those above them.
func cats() map[string]api.Cat {
	tops := []int{5, -1, 5, 4, -1, -1, 4}
	return map[string]api.Cat{
		"one leaf": catOf(1, []int{-1}),
		"deep":     deep(),
		"one":      catOf(4, tops),
		"two":      catOf(2, []int{-1, 0, 0, 1}, []int{-1, 0, 0}),
		"three":    catOf(1, tops, []int{1, 2, -1}, []int{-1, -1}),
		"four":     catOf(2, []int{-1, 0, 1}, tops, []int{-1}, []int{2, 2, -1}),
	}
}

// users are names, and noNames are texts that are none.
func users() []string { return []string{"ann", "bob", "Cy_3", "ann2"} }
func noNames() []string {
	return []string{"", "1", "_a", "a b", "a-b", "ä", "a23456789012b", "\x00", "\xff"}
}

func cell(measure int, at ...int) api.Cell {
	c := api.Cell{Meas: measure}
	copy(c.At[:], at)
	return c
}

func of(user string, measure int, at ...int) api.Lock {
	return api.Lock{Cell: cell(measure, at...), User: user}
}

// wrong are cells that can not be: by their measure, by a member, by a place of a dimension that there is not.
func wrong(cat api.Cat) []api.Cell {
	l := []api.Cell{cell(-1), cell(len(cat.Meas)), cell(math.MinInt), cell(math.MaxInt)}
	for k := range api.MaxDims {
		members := 1
		if k < len(cat.Dims) {
			members = len(cat.Dims[k].Nodes)
		}
		for _, i := range []int{-1, members, math.MinInt, math.MaxInt} {
			x := cell(0)
			x.At[k] = i
			l = append(l, x)
		}
	}
	return l
}

// off are codes that no leaf has.
func off(s *coord.Space) []int {
	return []int{-1, -2, math.MinInt, s.Leaves(), s.Leaves() + 1, s.Cells() + 1, math.MaxInt}
}

// within says by the catalogue's lists alone whether c is within e.
func within(cat api.Cat, c, e api.Cell) bool {
	for k, d := range cat.Dims {
		i := c.At[k]
		for i != -1 && i != e.At[k] {
			i = d.Nodes[i].Up
		}
		if i == -1 {
			return false
		}
	}
	return c.Meas == e.Meas
}

// locks are those of list, added one after another.
func locks(t *testing.T, s *coord.Space, list ...api.Lock) lock.Locks {
	t.Helper()
	var l lock.Locks
	for _, x := range list {
		next, why := l.Add(s, x.Cell, x.User)
		if why != api.OK {
			t.Fatalf("Add(%v) = %d", x, why)
		}
		l = next
	}
	return l
}

// first are the cells of the first indexes, locked by one user.
func first(s *coord.Space, many int, user string) []api.Lock {
	var l []api.Lock
	for i := range many {
		c, _ := s.Cell(i)
		l = append(l, api.Lock{Cell: c, User: user})
	}
	return l
}

// owners are the users by whom a leaf is locked, by a list of locks alone.
func owners(cat api.Cat, list []api.Lock, leaf api.Cell) []string {
	var l []string
	for _, x := range list {
		if within(cat, leaf, x.Cell) && !slices.Contains(l, x.User) {
			l = append(l, x.User)
		}
	}
	return l
}

// ask asks everything of locks that a list of them, in order, tells.
func ask(t *testing.T, cat api.Cat, s *coord.Space, l lock.Locks, want []api.Lock) {
	t.Helper()
	if list := l.List(); !slices.Equal(list, want) {
		t.Fatalf("List = %v; want %v", list, want)
	}
	askOwners(t, cat, s, l, want)
	for _, user := range append(users(), noNames()...) {
		var foreign []int
		for i := range s.Cells() {
			c, _ := s.Cell(i)
			in := slices.ContainsFunc(want, func(x api.Lock) bool { return x.User != user && within(cat, c, x.Cell) })
			if l.Within(s, c, user) != in {
				t.Fatalf("%v: Within(%v, %q) = %t", want, c, user, !in)
			}
			if code := s.Code(c); in && code >= 0 {
				foreign = append(foreign, code)
			}
		}
		slices.Sort(foreign)
		if r := l.Foreign(s, user); !r.Same(region.Of(foreign...)) || !slices.Equal(r.All(), foreign) {
			t.Fatalf("%v: Foreign(%q) = %v; want %v", want, user, r.All(), foreign)
		}
	}
}

// askOwners asks by whom each leaf is locked, and whether it is by one at most.
func askOwners(t *testing.T, cat api.Cat, s *coord.Space, l lock.Locks, want []api.Lock) {
	t.Helper()
	for code := range s.Leaves() {
		leaf, _ := s.Leaf(code)
		by := owners(cat, want, leaf)
		if len(by) > 1 {
			t.Fatalf("%v: %v is locked by %v", want, leaf, by)
		}
		if owner := l.Owner(s, code); owner != append(by, "")[0] {
			t.Fatalf("%v: Owner(%d) = %q; want %v", want, code, owner, by)
		}
	}
	for _, code := range off(s) {
		if owner := l.Owner(s, code); owner != "" {
			t.Fatalf("%v: Owner(%d) = %q", want, code, owner)
		}
	}
}

// refused asks whether an answer is no locks, and the error.
func refused(t *testing.T, what string, l lock.Locks, why, want api.Errno) {
	t.Helper()
	if why != want || len(l.List()) != 0 || !l.Same(lock.Locks{}) {
		t.Errorf("%s = %v, %d; want none, %d", what, l.List(), why, want)
	}
}

// P14.1: the chapter's example.
func TestExample(t *testing.T) {
	cat := catOf(1, []int{-1, 0})
	s := spaceOf(t, cat)
	l := locks(t, s, of("ann", 0, 1))
	for _, c := range []api.Cell{cell(0, 0), cell(0, 1)} {
		a, why := l.Add(s, c, "bob")
		refused(t, "Add by bob", a, why, api.ErrLocked)
	}
	more, why := l.Add(s, cell(0, 0), "ann")
	if why != api.OK {
		t.Fatalf("Add by ann = %d", why)
	}
	ask(t, cat, s, l, []api.Lock{of("ann", 0, 1)})
	ask(t, cat, s, more, []api.Lock{of("ann", 0, 0), of("ann", 0, 1)})
}

// P14.1, P6: which error is told where several apply: no space, ahead of no name, ahead of a cell that can not be, ahead of what is locked, ahead of that there are too many.
func TestFirstError(t *testing.T) {
	cat := wide()
	s := spaceOf(t, cat)
	full := first(s, api.MaxLocks-1, "ann")
	full = append(full, of("bob", 3, 3))
	for _, list := range [][]api.Lock{nil, full[:1], full} {
		l := locks(t, s, list...)
		for _, user := range append(noNames(), "ann", "bob") {
			for _, c := range append(wrong(cat), cell(0), cell(3, 3), cell(3, 4)) {
				a, why := l.Add(nil, c, user)
				refused(t, "Add without a space", a, why, api.ErrNil)
				d, why := l.Drop(nil, c, user)
				refused(t, "Drop without a space", d, why, api.ErrNil)
				want := api.ErrRange
				switch {
				case slices.Contains(noNames(), user):
					want = api.ErrName
				case !slices.Contains(wrong(cat), c):
					continue
				}
				a, why = l.Add(s, c, user)
				refused(t, "Add", a, why, want)
				d, why = l.Drop(s, c, user)
				refused(t, "Drop", d, why, want)
			}
		}
		ask(t, cat, s, l, list)
	}
	l := locks(t, s, full...)
	rows := []struct {
		c    api.Cell
		user string
		want api.Errno
	}{
		{cell(0), "ann", api.ErrTwice}, {cell(3, 3), "bob", api.ErrTwice},
		{cell(0), "bob", api.ErrLocked}, {cell(3, 3), "ann", api.ErrLocked}, {cell(3, 1), "ann", api.ErrLocked}, {cell(3, 0), "ann", api.ErrLocked},
		{cell(3, 4), "ann", api.ErrFull}, {cell(3, 1), "bob", api.ErrFull}, {cell(3, 4), "Cy_3", api.ErrFull},
	}
	for _, r := range rows {
		a, why := l.Add(s, r.c, r.user)
		refused(t, "Add to 16", a, why, r.want)
	}
	ask(t, cat, s, l, full)
}

// P14.1: cells that can not be, in all kinds of spaces.
func TestCellsWrong(t *testing.T) {
	for name, cat := range cats() {
		s := spaceOf(t, cat)
		list := first(s, min(3, s.Cells()), "ann")
		l := locks(t, s, list...)
		for _, c := range wrong(cat) {
			for _, user := range users() {
				a, why := l.Add(s, c, user)
				refused(t, name+": Add", a, why, api.ErrRange)
				d, why := l.Drop(s, c, user)
				refused(t, name+": Drop", d, why, api.ErrRange)
				if l.Within(s, c, user) {
					t.Errorf("%s: Within of %v", name, c)
				}
			}
		}
		ask(t, cat, s, l, list)
	}
}

// P14.1: names of one byte and of as many as may be; letters of both kinds are two names.
func TestNames(t *testing.T) {
	cat := deep()
	s := spaceOf(t, cat)
	for _, user := range []string{"a", "Z", "a_1", strings.Repeat("x", api.MaxName)} {
		l, why := lock.Locks{}.Add(s, cell(0, 1), user)
		if why != api.OK || l.Owner(s, 1) != user {
			t.Errorf("Add by %q = %d", user, why)
		}
	}
	l := locks(t, s, of("ann", 0, 1))
	for _, user := range []string{"Ann", "an", "anna"} {
		a, why := l.Add(s, cell(0, 1), user)
		refused(t, "Add by "+user, a, why, api.ErrLocked)
		d, why := l.Drop(s, cell(0, 1), user)
		refused(t, "Drop by "+user, d, why, api.ErrLocked)
	}
}

// P14.1: what one user has locked, as others and as the user find it: the cell, those above, below and beside it.
func TestAddBeside(t *testing.T) {
	cat := deep()
	s := spaceOf(t, cat)
	l := locks(t, s, of("ann", 0, 1))
	rows := []struct {
		c        api.Cell
		ann, bob api.Errno
	}{
		{cell(0, 1), api.ErrTwice, api.ErrLocked},
		{cell(0, 0), api.OK, api.ErrLocked},
		{cell(0, 3), api.OK, api.ErrLocked},
		{cell(0, 4), api.OK, api.ErrLocked},
		{cell(0, 2), api.OK, api.OK},
		{cell(1, 0), api.OK, api.OK},
		{cell(1, 1), api.OK, api.OK},
	}
	for _, r := range rows {
		for user, want := range map[string]api.Errno{"ann": r.ann, "bob": r.bob} {
			more, why := l.Add(s, r.c, user)
			if want != api.OK {
				refused(t, "Add by "+user, more, why, want)
				continue
			}
			if why != api.OK || !slices.Contains(more.List(), api.Lock{Cell: r.c, User: user}) || len(more.List()) != 2 {
				t.Errorf("Add(%v) by %s = %v, %d", r.c, user, more.List(), why)
			}
		}
	}
	ask(t, cat, s, l, []api.Lock{of("ann", 0, 1)})
}

// P14.1: cells that have but one leaf in common, of which none is within the other one.
func TestAddAcross(t *testing.T) {
	cat := catOf(1, []int{-1, 0, 0}, []int{-1, 0, 0})
	s := spaceOf(t, cat)
	l := locks(t, s, of("ann", 0, 1, 0))
	a, why := l.Add(s, cell(0, 0, 2), "bob")
	refused(t, "Add across", a, why, api.ErrLocked)
	more, why := l.Add(s, cell(0, 0, 2), "ann")
	if why != api.OK {
		t.Fatalf("Add across by ann = %d", why)
	}
	ask(t, cat, s, more, []api.Lock{of("ann", 0, 0, 2), of("ann", 0, 1, 0)})
	both, why := l.Add(s, cell(0, 2, 0), "bob")
	if why != api.OK {
		t.Fatalf("Add beside by bob = %d", why)
	}
	ask(t, cat, s, both, []api.Lock{of("ann", 0, 1, 0), of("bob", 0, 2, 0)})
}

// P14.1: the 16th lock and the 17th, of one user and of two.
func TestFull(t *testing.T) {
	cat := wide()
	s := spaceOf(t, cat)
	all := first(s, s.Cells(), "ann")
	for i := 15; i < len(all); i++ {
		all[i].User = "bob"
	}
	l := locks(t, s, all[:api.MaxLocks-1]...)
	for _, x := range all[api.MaxLocks-1:] {
		full, why := l.Add(s, x.Cell, x.User)
		if why != api.OK {
			t.Fatalf("Add of the 16th = %d", why)
		}
		ask(t, cat, s, full, append(slices.Clone(all[:api.MaxLocks-1]), x))
		for _, y := range all {
			want := api.ErrFull
			if y.User == "ann" || y == x {
				want = api.ErrTwice
			}
			a, why := full.Add(s, y.Cell, y.User)
			refused(t, "Add of the 17th", a, why, want)
		}
		less, why := full.Drop(s, all[3].Cell, "ann")
		if why != api.OK {
			t.Fatalf("Drop of 16 = %d", why)
		}
		again, why := less.Add(s, all[3].Cell, "ann")
		if why != api.OK || !again.Same(full) {
			t.Errorf("Add behind Drop = %v, %d", again.List(), why)
		}
	}
	ask(t, cat, s, l, all[:api.MaxLocks-1])
}

// P14.1: Drop of a lock of nobody's, though cells above, below and beside it are locked; of another user's; of one's own.
func TestDrop(t *testing.T) {
	cat := deep()
	s := spaceOf(t, cat)
	list := []api.Lock{of("ann", 0, 1), of("ann", 0, 3), of("bob", 1, 0)}
	l := locks(t, s, list...)
	rows := []struct {
		c        api.Cell
		ann, bob api.Errno
	}{
		{cell(0, 0), api.ErrNone, api.ErrNone},
		{cell(0, 2), api.ErrNone, api.ErrNone},
		{cell(0, 4), api.ErrNone, api.ErrNone},
		{cell(1, 3), api.ErrNone, api.ErrNone},
		{cell(0, 1), api.OK, api.ErrLocked},
		{cell(0, 3), api.OK, api.ErrLocked},
		{cell(1, 0), api.ErrLocked, api.OK},
	}
	for _, r := range rows {
		for user, want := range map[string]api.Errno{"ann": r.ann, "bob": r.bob} {
			less, why := l.Drop(s, r.c, user)
			if want != api.OK {
				refused(t, "Drop by "+user, less, why, want)
				continue
			}
			if why != api.OK {
				t.Fatalf("Drop(%v) by %s = %d", r.c, user, why)
			}
			ask(t, cat, s, less, slices.DeleteFunc(slices.Clone(list), func(x api.Lock) bool { return x.Cell == r.c }))
		}
	}
	d, why := lock.Locks{}.Drop(s, cell(0), "ann")
	refused(t, "Drop of none", d, why, api.ErrNone)
	ask(t, cat, s, l, list)
}

// P14.2, P14.3: written out: a leaf within two locks of one user, one of nobody's; a user's own locks, others', and those of a text that is no name.
func TestWrittenOut(t *testing.T) {
	cat := deep()
	s := spaceOf(t, cat)
	list := []api.Lock{of("ann", 0, 1), of("ann", 0, 3), of("bob", 1, 2)}
	l := locks(t, s, list...)
	for code, want := range []string{"ann", "ann", "", "", "", "bob"} {
		if owner := l.Owner(s, code); owner != want {
			t.Errorf("Owner(%d) = %q; want %q", code, owner, want)
		}
	}
	rows := []struct {
		user   string
		codes  []int
		inside [3]bool // c of the one measure, b of the one, and b of the other
	}{
		{"ann", []int{5}, [3]bool{false, false, true}},
		{"bob", []int{0, 1}, [3]bool{true, false, false}},
		{"Cy_3", []int{0, 1, 5}, [3]bool{true, false, true}},
		{"", []int{0, 1, 5}, [3]bool{true, false, true}},
		{"1", []int{0, 1, 5}, [3]bool{true, false, true}},
	}
	for _, r := range rows {
		if codes := l.Foreign(s, r.user).All(); !slices.Equal(codes, r.codes) {
			t.Errorf("Foreign(%q) = %v; want %v", r.user, codes, r.codes)
		}
		if got := [3]bool{l.Within(s, cell(0, 3), r.user), l.Within(s, cell(0, 2), r.user), l.Within(s, cell(1, 2), r.user)}; got != r.inside {
			t.Errorf("Within by %q = %v; want %v", r.user, got, r.inside)
		}
		// Cells above those that are locked are not within them.
		if l.Within(s, cell(0, 0), r.user) || l.Within(s, cell(1, 0), r.user) {
			t.Errorf("Within of all by %q", r.user)
		}
	}
	ask(t, cat, s, l, list)
	ask(t, cat, s, lock.Locks{}, nil)
}

// P14.2: whatever the order of the Adds, the list is by rising indexes, and the locks are the same.
func TestOrder(t *testing.T) {
	for name, cat := range cats() {
		t.Run(name, func(t *testing.T) {
			s := spaceOf(t, cat)
			r := rand.New(rand.NewSource(3))
			for range 20 {
				list := anyLocks(cat, s, r)
				var mixed []api.Lock
				for _, i := range r.Perm(len(list)) {
					mixed = append(mixed, list[i])
				}
				straight, about := locks(t, s, list...), locks(t, s, mixed...)
				ask(t, cat, s, about, list)
				if !straight.Same(about) || !about.Same(straight) {
					t.Fatalf("Same of %v and %v", list, mixed)
				}
			}
		})
	}
}

// anyLocks are locks that can be together, in order.
func anyLocks(cat api.Cat, s *coord.Space, r *rand.Rand) []api.Lock {
	var list []api.Lock
	for _, i := range r.Perm(s.Cells()) {
		c, _ := s.Cell(i)
		x := api.Lock{Cell: c, User: users()[r.Intn(len(users()))]}
		if len(list) < api.MaxLocks && !apart(cat, s, list, x) {
			list = append(list, x)
		}
	}
	return sorted(s, list)
}

// apart tells whether a leaf within the cell of x is locked by another user.
func apart(cat api.Cat, s *coord.Space, list []api.Lock, x api.Lock) bool {
	for code := range s.Leaves() {
		leaf, _ := s.Leaf(code)
		other := func(user string) bool { return user != x.User }
		if within(cat, leaf, x.Cell) && slices.ContainsFunc(owners(cat, list, leaf), other) {
			return true
		}
	}
	return false
}

func sorted(s *coord.Space, list []api.Lock) []api.Lock {
	slices.SortFunc(list, func(a, b api.Lock) int {
		if d := s.Index(a.Cell) - s.Index(b.Cell); d != 0 {
			return d
		}
		return strings.Compare(a.User, b.User)
	})
	return list
}

// P14.2: none and none, the same in another order, fewer, more, other cells, other users.
func TestSame(t *testing.T) {
	s := spaceOf(t, deep())
	a, b, c := of("ann", 0, 1), of("ann", 0, 3), of("bob", 1, 0)
	rows := []struct {
		x, y []api.Lock
		same bool
	}{
		{nil, nil, true},
		{nil, []api.Lock{a}, false},
		{[]api.Lock{a}, []api.Lock{a}, true},
		{[]api.Lock{a}, []api.Lock{b}, false},
		{[]api.Lock{a, b}, []api.Lock{b, a}, true},
		{[]api.Lock{a, b, c}, []api.Lock{c, b, a}, true},
		{[]api.Lock{a, b}, []api.Lock{a}, false},
		{[]api.Lock{a, b}, []api.Lock{b}, false},
		{[]api.Lock{a, b}, []api.Lock{a, c}, false},
		{[]api.Lock{a, b}, []api.Lock{a, b, c}, false},
		{[]api.Lock{a}, []api.Lock{of("bob", 0, 1)}, false},
		{[]api.Lock{a, c}, []api.Lock{a, of("ann", 1, 0)}, false},
		// The same leaves are locked by the same user, and yet by other cells.
		{[]api.Lock{of("ann", 0, 1), of("ann", 0, 2)}, []api.Lock{of("ann", 0, 0)}, false},
	}
	for _, r := range rows {
		x, y := locks(t, s, r.x...), locks(t, s, r.y...)
		if x.Same(y) != r.same || y.Same(x) != r.same || !x.Same(x) {
			t.Errorf("%v, %v: Same = %t, %t", r.x, r.y, x.Same(y), y.Same(x))
		}
	}
}

// P14.2: locks of two spaces are the same, if their cells and users are, whatever indexes these have there.
func TestSameOfTwoSpaces(t *testing.T) {
	x, y := spaceOf(t, deep()), spaceOf(t, catOf(2, []int{-1, 0, 0}))
	list := []api.Lock{of("ann", 1, 1), of("bob", 0, 2)}
	if !locks(t, x, list...).Same(locks(t, y, list...)) || locks(t, x, list...).Same(locks(t, y, list[0])) {
		t.Error("Same")
	}
}

// P14.5: what was locked, and is unlocked, is as if it had never been: other users can lock it.
func TestAsIfNever(t *testing.T) {
	for name, cat := range cats() {
		s := spaceOf(t, cat)
		r := rand.New(rand.NewSource(11))
		for range 10 {
			list := anyLocks(cat, s, r)
			at := r.Intn(len(list))
			x := list[at]
			list = slices.Delete(list, at, at+1)
			before := locks(t, s, list...)
			added, why := before.Add(s, x.Cell, x.User)
			if why != api.OK {
				t.Fatalf("%s: Add(%v) = %d", name, x, why)
			}
			after, why := added.Drop(s, x.Cell, x.User)
			if why != api.OK || !after.Same(before) || !before.Same(after) || added.Same(after) {
				t.Fatalf("%s: Drop(%v) = %v, %d", name, x, after.List(), why)
			}
			ask(t, cat, s, after, list)
			for _, user := range users() {
				_, want := before.Add(s, x.Cell, user)
				if _, why := after.Add(s, x.Cell, user); why != want {
					t.Fatalf("%s: Add(%v) by %s = %d; want %d", name, x.Cell, user, why, want)
				}
			}
			d, why := after.Drop(s, x.Cell, x.User)
			refused(t, "Drop of what is dropped", d, why, api.ErrNone)
		}
	}
	s := spaceOf(t, deep())
	l := locks(t, s, of("ann", 0, 0))
	none, _ := l.Drop(s, cell(0, 0), "ann")
	if mine, why := none.Add(s, cell(0, 3), "bob"); why != api.OK || mine.Owner(s, 0) != "bob" || !none.Same(lock.Locks{}) {
		t.Error("Add by bob behind ann's Drop", why)
	}
}

// P14.1: the locks that a call is asked of are as they were, also where several calls are asked of the same ones.
func TestNeverChanged(t *testing.T) {
	cat := deep()
	s := spaceOf(t, cat)
	a, b, c, d := of("ann", 0, 1), of("ann", 0, 3), of("bob", 1, 1), of("ann", 1, 2)
	was := []api.Lock{a, b, c, d}
	l := locks(t, s, was...)
	add := func(l lock.Locks, x api.Lock) lock.Locks { m, _ := l.Add(s, x.Cell, x.User); return m }
	drop := func(l lock.Locks, x api.Lock) lock.Locks { m, _ := l.Drop(s, x.Cell, x.User); return m }
	low, middle, high := of("ann", 0, 0), of("ann", 0, 4), of("bob", 1, 4)
	lower, between, higher := add(l, low), add(l, middle), add(l, high)
	less, last := drop(l, a), drop(l, d)
	other := add(less, high)
	ask(t, cat, s, l, was)
	ask(t, cat, s, lower, []api.Lock{low, a, b, c, d})
	ask(t, cat, s, between, []api.Lock{a, b, middle, c, d})
	ask(t, cat, s, higher, []api.Lock{a, b, c, d, high})
	ask(t, cat, s, less, []api.Lock{b, c, d})
	ask(t, cat, s, last, []api.Lock{a, b, c})
	ask(t, cat, s, other, []api.Lock{b, c, d, high})
}

// P14.1: of locks of every number all that branch off by one Add or one Drop stay what they are, and so do the locks.
func TestBranches(t *testing.T) {
	cat := wide()
	s := spaceOf(t, cat)
	all := first(s, s.Cells(), "ann")
	for many := range api.MaxLocks {
		was := all[:many]
		l := locks(t, s, was...)
		var off []lock.Locks
		var wants [][]api.Lock
		for i, x := range all {
			next, want := lock.Locks{}, slices.Clone(was)
			if i < many {
				next, want = drop(t, s, l, want, x)
			} else {
				next, want = add(t, cat, s, l, want, x)
			}
			off, wants = append(off, next), append(wants, want)
		}
		ask(t, cat, s, l, was)
		for i, x := range off {
			ask(t, cat, s, x, wants[i])
		}
	}
}

// Rule 4: what is written into a list that was told, or appended to it, is seen by no later answer.
func TestOwnMemory(t *testing.T) {
	cat := deep()
	s := spaceOf(t, cat)
	was := []api.Lock{of("ann", 0, 1), of("ann", 0, 3), of("bob", 1, 1)}
	l := locks(t, s, was...)
	less, _ := l.Drop(s, cell(1, 1), "bob")
	for _, list := range [][]api.Lock{l.List(), less.List()} {
		_ = append(list, of("x", 9))
		_ = append(list[:1], of("x", 8))
		for i := range list {
			list[i] = of("x", 7, 7)
		}
	}
	ask(t, cat, s, l, was)
	ask(t, cat, s, less, was[:2])
}

// P14.1 to P14.5: many Adds and Drops by all users, right ones and wrong ones, against a list of locks.
func TestWalks(t *testing.T) {
	for name, cat := range cats() {
		t.Run(name, func(t *testing.T) {
			s := spaceOf(t, cat)
			r := rand.New(rand.NewSource(5))
			var l lock.Locks
			var want []api.Lock
			for step := range 300 {
				c, _ := s.Cell(r.Intn(s.Cells()))
				x := api.Lock{Cell: c, User: users()[r.Intn(2)]}
				// It goes up towards the limit, then down to none, and so on.
				if up := step/80%2 == 0; r.Intn(4) == 0 != up {
					l, want = add(t, cat, s, l, want, x)
				} else {
					l, want = drop(t, s, l, want, x)
				}
				ask(t, cat, s, l, want)
			}
		})
	}
}

// add adds x to locks and to their list, or asks whether it is refused.
func add(t *testing.T, cat api.Cat, s *coord.Space, l lock.Locks, list []api.Lock, x api.Lock) (lock.Locks, []api.Lock) {
	t.Helper()
	next, why := l.Add(s, x.Cell, x.User)
	switch {
	case slices.Contains(list, x):
		refused(t, "Add", next, why, api.ErrTwice)
	case apart(cat, s, list, x):
		refused(t, "Add", next, why, api.ErrLocked)
	case len(list) == api.MaxLocks:
		refused(t, "Add", next, why, api.ErrFull)
	case why != api.OK:
		t.Fatalf("Add(%v) = %d", x, why)
	default:
		return next, sorted(s, append(list, x))
	}
	return l, list
}

// drop drops x of locks and of their list, or asks whether it is refused.
func drop(t *testing.T, s *coord.Space, l lock.Locks, list []api.Lock, x api.Lock) (lock.Locks, []api.Lock) {
	t.Helper()
	next, why := l.Drop(s, x.Cell, x.User)
	at := slices.IndexFunc(list, func(y api.Lock) bool { return y.Cell == x.Cell })
	switch {
	case at < 0:
		refused(t, "Drop", next, why, api.ErrNone)
	case list[at].User != x.User:
		refused(t, "Drop", next, why, api.ErrLocked)
	case why != api.OK:
		t.Fatalf("Drop(%v) = %d", x, why)
	default:
		return next, slices.Delete(list, at, at+1)
	}
	return l, list
}

// P14.2, P14.3: as many cells and leaves as there may be.
func TestLimits(t *testing.T) {
	pairs := make([]int, 32)
	for i := range 16 {
		pairs[2*i], pairs[2*i+1] = -1, 2*i
	}
	cat := catOf(4, pairs, pairs)
	s := spaceOf(t, cat)
	if s.Cells() != api.MaxCells || s.Leaves() != api.MaxLeaves {
		t.Fatal("Cells, Leaves", s.Cells(), s.Leaves())
	}
	var list []api.Lock
	for i := range api.MaxLocks {
		c, _ := s.Cell(i * (s.Cells() - 1) / (api.MaxLocks - 1))
		list = append(list, api.Lock{Cell: c, User: users()[i%2]})
	}
	ask(t, cat, s, locks(t, s, list...), list)
}

// P6: a nil space, one that coord.New did not make, and one of a catalogue that dims.New did not make have no cell that can be.
func TestNothing(t *testing.T) {
	right := spaceOf(t, deep())
	list := []api.Lock{of("ann", 0, 0), of("bob", 1, 3)}
	l := locks(t, right, list...)
	empty, _ := coord.New(&dims.Dims{})
	for name, s := range map[string]*coord.Space{"nil": nil, "zero": {}, "empty": empty} {
		want := api.ErrRange
		if s == nil {
			want = api.ErrNil
		}
		for _, x := range []lock.Locks{{}, l} {
			for _, c := range append(wrong(deep()), cell(0), cell(0, 1), cell(1, 3)) {
				a, why := x.Add(s, c, "ann")
				refused(t, name+": Add", a, why, want)
				d, why := x.Drop(s, c, "ann")
				refused(t, name+": Drop", d, why, want)
				if x.Within(s, c, "bob") || x.Within(s, c, "") {
					t.Errorf("%s: Within of %v", name, c)
				}
			}
			for _, code := range append(off(s), 0, 1) {
				if owner := x.Owner(s, code); owner != "" {
					t.Errorf("%s: Owner(%d) = %q", name, code, owner)
				}
			}
			if x.Foreign(s, "").Many() != 0 || x.Foreign(s, "bob").Many() != 0 {
				t.Errorf("%s: Foreign", name)
			}
		}
	}
	ask(t, deep(), right, l, list)
}

// P6: locks of another space, of which nothing more is promised, make no call panic.
func TestOtherSpace(t *testing.T) {
	many, few := spaceOf(t, cats()["four"]), spaceOf(t, deep())
	l := locks(t, many, of("ann", 1, 2, 6, 0, 2), of("bob", 0, 1, 1), of("ann", 0, 0, 6))
	var cells []api.Cell
	for _, x := range first(few, few.Cells(), "ann") {
		cells = append(cells, x.Cell)
	}
	for _, c := range append(wrong(deep()), cells...) {
		for _, user := range []string{"ann", "bob", ""} {
			if more, why := l.Add(few, c, user); why == api.OK {
				more.List()
				more.Drop(few, c, user)
				more.Owner(many, 3)
				more.Foreign(many, user)
			}
			l.Drop(few, c, user)
			l.Within(few, c, user)
			l.Foreign(few, user)
		}
	}
}
