package merge_test

import (
	"math"
	"math/rand"
	"slices"
	"strconv"
	"testing"

	"moiety/api"
	"moiety/merge"
	"moiety/state"
)

func clash(c api.Cell, base, ours, from int64, held bool) api.Clash {
	return api.Clash{Cell: c, Base: base, Ours: ours, From: from, Held: held}
}

// of is a merging by ann of three states, in which as many leaves as there are may have a value.
func of(base, ours, from state.State, how int) merge.Merging {
	return merge.Merging{Base: base, Ours: ours, From: from, User: "ann", How: how, Most: api.MaxLeaves}
}

// clashing asks whether Clashes tells just these, whoever the user is and whatever else the merging has, and leaves the arena as it was.
func clashing(t *testing.T, b *state.Book, m merge.Merging, want ...api.Clash) {
	t.Helper()
	was := arenaOf(b)
	for _, user := range append(noNames(), users()...) {
		for _, how := range []int{m.How, -1, 0, 1, 2, 3} {
			m.User, m.How, m.Most = user, how, how
			if l, why := merge.Clashes(b, m); why != api.OK || !slices.Equal(l, want) {
				t.Fatalf("Clashes = %v, %d; want %v", l, why, want)
			}
		}
	}
	asItWas(t, b, was)
}

// refused asks whether Merge tells that error, with the clashes of ErrClash alone, and the zero state, and leaves all as it was.
func refused(t *testing.T, b *state.Book, cat api.Cat, m merge.Merging, want api.Errno) {
	t.Helper()
	x, was := trioOf(t, cat, b, m), arenaOf(b)
	var told []api.Clash
	if want == api.ErrClash {
		told = x.clashes()
	}
	askRefused(t, b, m, want, told)
	x.ask(t, b, m)
	asItWas(t, b, was)
}

func askRefused(t *testing.T, b *state.Book, m merge.Merging, want api.Errno, told []api.Clash) {
	t.Helper()
	s, l, why := merge.Merge(b, m)
	if why != want || !slices.Equal(l, told) || s.Root != 0 || len(s.Holds.List()) != 0 || len(s.Locks.List()) != 0 {
		t.Errorf("Merge = %v, %v, %d; want the zero state, %v, %d", s, l, why, told, want)
	}
}

// done asks whether Merge tells a state with just these values, and with the holds and locks of Ours, and these clashes, and leaves the three as they were; the state is let go.
func done(t *testing.T, b *state.Book, cat api.Cat, m merge.Merging, values []int64, clashes ...api.Clash) {
	t.Helper()
	x, was := trioOf(t, cat, b, m), arenaOf(b)
	s, l, why := merge.Merge(b, m)
	if why != api.OK || !slices.Equal(l, clashes) {
		t.Errorf("Merge = %v, %d; want %v", l, why, clashes)
		return
	}
	x.ask(t, b, m)
	want := x.ours
	want.vals = values
	want.ask(t, b, s)
	b.Drop(s)
	asItWas(t, b, was)
}

// P20.1, P20.2: the chapter's example, and that of the whole.
func TestExample(t *testing.T) {
	cat := apart(1)
	b := bookOf(t, cat, 100)
	m := of(stateOf(t, b, 1), stateOf(t, b, 2), stateOf(t, b, 3), api.Abort)
	one := clash(cell(0), 1, 2, 3, false)
	clashing(t, b, m, one)
	refused(t, b, cat, m, api.ErrClash)
	m.How = api.Ours
	done(t, b, cat, m, []int64{2}, one)
	m.How = api.Theirs
	done(t, b, cat, m, []int64{3}, one)
	for how := range 3 {
		m := of(stateOf(t, b, 1), stateOf(t, b, 1), stateOf(t, b, 3), how)
		clashing(t, b, m)
		done(t, b, cat, m, []int64{3})
	}
}

// ways is a catalogue of the five ways in which a leaf may differ, by three ways in which it may be barred; and all above either.
func ways() api.Cat {
	return catOf(1, []int{-1, 0, 0, 0, 0, 0}, []int{-1, 0, 0, 0})
}

// The members of the first dimension of ways, behind all: all alike; from as base; ours as base; ours as from; all unlike.
const (
	alike = iota + 1
	fromAsBase
	oursAsBase
	oursAsFrom
	unlike
)

// The members of its second one: not barred; held itself; within a cell that is held.
const (
	notBarred = iota + 1
	heldItself
	heldAbove
)

// fifteen is a merging in which each way of ways is there; x, y and z are unlike.
func fifteen(t *testing.T, b *state.Book, x, y, z int64) merge.Merging {
	t.Helper()
	each := func(l ...int64) state.State {
		var values []int64
		for _, n := range l {
			values = append(values, n, n, n)
		}
		return stateOf(t, b, values...)
	}
	m := of(each(x, x, x, x, x), each(x, y, x, z, y), each(x, x, z, z, z), api.Abort)
	for way := alike; way <= unlike; way++ {
		m.Ours = held(t, b, m.Ours, cell(0, way, heldItself))
	}
	m.Ours = held(t, b, m.Ours, cell(0, all, heldAbove))
	return m
}

// sevenOf is what clashes in it.
func sevenOf(x, y, z int64) []api.Clash {
	return []api.Clash{
		clash(cell(0, oursAsBase, heldItself), x, x, z, true),
		clash(cell(0, oursAsBase, heldAbove), x, x, z, true),
		clash(cell(0, oursAsFrom, heldItself), x, z, z, true),
		clash(cell(0, oursAsFrom, heldAbove), x, z, z, true),
		clash(cell(0, unlike, notBarred), x, y, z, false),
		clash(cell(0, unlike, heldItself), x, y, z, true),
		clash(cell(0, unlike, heldAbove), x, y, z, true),
	}
}

// P20.1, P20.2, P20.5: each way in which a leaf may differ, barred and not, with 0 among the values and without.
func TestEachWay(t *testing.T) {
	b := bookOf(t, ways(), 200)
	for _, v := range [][3]int64{{1, 2, 3}, {0, 2, 3}, {1, 0, 3}, {1, 2, 0}, {3, 1, 2}, {-5, 5, 0}, {7, -7, 8}} {
		x, y, z := v[0], v[1], v[2]
		m := fifteen(t, b, x, y, z)
		clashing(t, b, m, sevenOf(x, y, z)...)
		refused(t, b, ways(), m, api.ErrClash)
		values := []int64{
			x, x, x,
			y, y, y,
			z, x, x,
			z, z, z,
			y, y, y,
		}
		m.How = api.Ours
		done(t, b, ways(), m, values, sevenOf(x, y, z)...)
		m.How = api.Theirs
		values[12] = z
		done(t, b, ways(), m, values, sevenOf(x, y, z)...)
		b.Drop(m.Base)
		b.Drop(m.Ours)
		b.Drop(m.From)
	}
}

// P20.1: clashes at both ends of the numbers.
func TestClashesAtEnds(t *testing.T) {
	b := bookOf(t, ways(), 200)
	for _, v := range [][3]int64{{least, greatest, 0}, {0, least, greatest}, {greatest, 0, least}, {least, least + 1, greatest}} {
		m := fifteen(t, b, v[0], v[1], v[2])
		clashing(t, b, m, sevenOf(v[0], v[1], v[2])...)
		b.Drop(m.Base)
		b.Drop(m.Ours)
		b.Drop(m.From)
	}
}

// P20.2, P20.4: leaves that become the least number, or the greatest, from the other one.
func TestMergeAtEnds(t *testing.T) {
	cat := apart(4)
	b := bookOf(t, cat, 100)
	base := stateOf(t, b, least, greatest, 0, 1)
	from := stateOf(t, b, greatest, least, least, greatest)
	done(t, b, cat, of(base, base, from, api.Abort), []int64{greatest, least, least, greatest})
	ours := stateOf(t, b, 0, 0, greatest, least)
	l := []api.Clash{
		clash(cell(0, 0), least, 0, greatest, false), clash(cell(0, 1), greatest, 0, least, false),
		clash(cell(0, 2), 0, greatest, least, false), clash(cell(0, 3), 1, least, greatest, false),
	}
	refused(t, b, cat, of(base, ours, from, api.Abort), api.ErrClash)
	done(t, b, cat, of(base, ours, from, api.Ours), []int64{0, 0, greatest, least}, l...)
	done(t, b, cat, of(base, ours, from, api.Theirs), []int64{greatest, least, least, greatest}, l...)
}

// P20.1: by rising codes, which are not the order of the members: c and d stand ahead of b.
func TestRising(t *testing.T) {
	b := bookOf(t, deep(), 100)
	base, ours, from := stateOf(t, b), stateOf(t, b, 1, 2, 3, 4, 5, 6), stateOf(t, b, 6, 5, 4, 3, 2, 1)
	clashing(t, b, of(base, held(t, b, ours, cell(0, inD), cell(1, all)), from, api.Ours),
		clash(cell(0, inC), 0, 1, 6, false), clash(cell(0, inD), 0, 2, 5, true), clash(cell(0, inB), 0, 3, 4, false),
		clash(cell(1, inC), 0, 4, 3, true), clash(cell(1, inD), 0, 5, 2, true), clash(cell(1, inB), 0, 6, 1, true))
}

// P20.1: what Base or From alone bars, or another measure's leaf, is not barred; a leaf that is held twice over is.
func TestBarredElsewhere(t *testing.T) {
	b := bookOf(t, deep(), 100)
	base := func() state.State { return stateOf(t, b, 1, 1, 1, 1, 1, 1) }
	from := func() state.State { return stateOf(t, b, 3, 3, 3) }
	bars := []api.Cell{cell(0, inC), cell(0, inA), cell(0, all)}
	c3, c4, c5 := clash(cell(1, inC), 1, 2, 0, false), clash(cell(1, inD), 1, 2, 0, false), clash(cell(1, inB), 1, 2, 0, false)
	ours := func() state.State { return stateOf(t, b, 1, 1, 1, 2, 2, 2) }
	clashing(t, b, of(held(t, b, base(), bars...), ours(), from(), 0), c3, c4, c5)
	clashing(t, b, of(base(), ours(), held(t, b, from(), bars...), 0), c3, c4, c5)
	clashing(t, b, of(held(t, b, base(), bars...), ours(), held(t, b, from(), bars...), 0), c3, c4, c5)
	done(t, b, deep(), of(held(t, b, base(), bars...), ours(), held(t, b, from(), bars...), api.Theirs), []int64{3, 3, 3, 0, 0, 0}, c3, c4, c5)
	done(t, b, deep(), of(held(t, b, base(), bars...), ours(), held(t, b, from(), bars...), api.Ours), []int64{3, 3, 3, 2, 2, 2}, c3, c4, c5)
	c0, c1, c2 := clash(cell(0, inC), 1, 1, 3, true), clash(cell(0, inD), 1, 1, 3, true), clash(cell(0, inB), 1, 1, 3, true)
	clashing(t, b, of(base(), held(t, b, ours(), cell(0, inC)), from(), 0), c0, c3, c4, c5)
	clashing(t, b, of(base(), held(t, b, ours(), cell(0, inA)), from(), 0), c0, c1, c3, c4, c5)
	clashing(t, b, of(base(), held(t, b, ours(), bars...), from(), 0), c0, c1, c2, c3, c4, c5)
	done(t, b, deep(), of(base(), held(t, b, ours(), bars...), from(), api.Theirs), []int64{1, 1, 1, 0, 0, 0}, c0, c1, c2, c3, c4, c5)
}

// P20.1, P20.2: no book, whatever else is wrong.
func TestNoBook(t *testing.T) {
	b := bookOf(t, deep(), 100)
	s := held(t, b, stateOf(t, b, 1, 2), cell(0, all))
	for _, m := range []merge.Merging{{}, of(s, s, s, 0), of(state.State{}, s, state.State{Root: 7}, 1), {User: "1"}, {User: "ann", How: 7}, {User: "ann", Most: -1}} {
		if l, why := merge.Clashes(nil, m); why != api.ErrNil || len(l) != 0 {
			t.Errorf("Clashes = %v, %d", l, why)
		}
		askRefused(t, nil, m, api.ErrNil, nil)
	}
}

// P20.2: users that are no names, and numbers that are no How, below and above them; both at once.
func TestNameAndHow(t *testing.T) {
	b := bookOf(t, deep(), 100)
	base, ours, from := stateOf(t, b, 1, 1), stateOf(t, b, 1, 2), stateOf(t, b, 3, 3)
	for _, user := range noNames() {
		for _, how := range append(noHows(), 0, 1, 2) {
			for _, x := range []state.State{base, ours, from} {
				m := of(base, x, from, how)
				m.User = user
				refused(t, b, deep(), m, api.ErrName)
			}
		}
	}
	for _, how := range noHows() {
		for _, x := range []state.State{base, ours, from} {
			refused(t, b, deep(), of(base, x, from, how), api.ErrArg)
			refused(t, b, deep(), of(base, x, base, how), api.ErrArg)
		}
	}
	for _, user := range users() {
		m := of(base, ours, from, api.Theirs)
		m.User = user
		done(t, b, deep(), m, []int64{3, 3, 0, 0, 0, 0}, clash(cell(0, inD), 1, 2, 3, false))
	}
}

// P20.2, P20.5: a leaf that becomes what is not ours and that another user has locked in Ours, itself or by a cell above; of one that the user has locked, or that is locked in Base or From alone, it is not asked.
func TestLocked(t *testing.T) {
	b := bookOf(t, deep(), 200)
	base := func() state.State { return stateOf(t, b, 1, 1, 1, 1) }
	from := func() state.State { return stateOf(t, b, 1, 3, 1, 1) }
	for how := range 3 {
		for _, c := range []api.Cell{cell(0, inD), cell(0, inA), cell(0, all)} {
			ours := locked(t, b, base(), "bob", c)
			m := of(base(), ours, from(), how)
			refused(t, b, deep(), m, api.ErrLocked)
			m.User = "bob"
			done(t, b, deep(), m, []int64{1, 3, 1, 1, 0, 0})
			m.User = "Bob"
			refused(t, b, deep(), m, api.ErrLocked)
			done(t, b, deep(), of(base(), locked(t, b, base(), "ann", c), from(), how), []int64{1, 3, 1, 1, 0, 0})
			done(t, b, deep(), of(ours, base(), from(), how), []int64{1, 3, 1, 1, 0, 0})
			done(t, b, deep(), of(base(), base(), locked(t, b, from(), "bob", c), how), []int64{1, 3, 1, 1, 0, 0})
		}
		// Leaves beside it, and those of another measure, are not it.
		ours := locked(t, b, base(), "bob", cell(0, inC), cell(0, inB), cell(1, all))
		done(t, b, deep(), of(base(), ours, from(), how), []int64{1, 3, 1, 1, 0, 0})
		// Two users: whichever merges, one of both is another one.
		ours = locked(t, b, locked(t, b, base(), "ann", cell(0, inC)), "bob", cell(0, inD))
		both := stateOf(t, b, 3, 3, 1, 1)
		for _, user := range users() {
			m := of(base(), ours, both, how)
			m.User = user
			refused(t, b, deep(), m, api.ErrLocked)
		}
	}
}

// P20.2, P20.5: a leaf that another user has locked in Ours, and that stays as it is: from is base, ours is from, it clashes and stays by Ours, or is barred.
func TestLockedButKept(t *testing.T) {
	b := bookOf(t, deep(), 100)
	bobs := func(values ...int64) state.State { return locked(t, b, stateOf(t, b, values...), "bob", cell(0, all)) }
	base := stateOf(t, b, 1, 1, 1)
	for how := range 3 {
		done(t, b, deep(), of(base, bobs(1, 2, 7), base, how), []int64{1, 2, 7, 0, 0, 0})
		done(t, b, deep(), of(base, bobs(3, 2, 0), stateOf(t, b, 3, 1, 0, 9), how), []int64{3, 2, 0, 9, 0, 0})
	}
	from := stateOf(t, b, 3, 1, 1, 9)
	c := clash(cell(0, inC), 1, 2, 3, false)
	refused(t, b, deep(), of(base, bobs(2, 2, 1), from, api.Abort), api.ErrClash)
	done(t, b, deep(), of(base, bobs(2, 2, 1), from, api.Ours), []int64{2, 2, 1, 9, 0, 0}, c)
	refused(t, b, deep(), of(base, bobs(2, 2, 1), from, api.Theirs), api.ErrLocked)
	c.Held = true
	barred := held(t, b, bobs(2, 2, 1), cell(0, inC))
	refused(t, b, deep(), of(base, barred, from, api.Abort), api.ErrClash)
	done(t, b, deep(), of(base, barred, from, api.Ours), []int64{2, 2, 1, 9, 0, 0}, c)
	done(t, b, deep(), of(base, barred, from, api.Theirs), []int64{2, 2, 1, 9, 0, 0}, c)
}

// P20.2: a cell that comes to be too great, of what is ours and what is from, though each of the three states can be; at both ends.
func TestOver(t *testing.T) {
	b := bookOf(t, deep(), 100)
	base := stateOf(t, b, 1, 1, 1)
	for how := range 3 {
		for _, most := range []int{6, 1, -1, math.MinInt} {
			m := of(base, stateOf(t, b, greatest-2, 1, 1), stateOf(t, b, 1, 1, 2), how)
			m.Most = most
			refused(t, b, deep(), m, api.ErrOver)
			m = of(state.State{}, stateOf(t, b, 0, 0, 0, least), stateOf(t, b, 0, 0, 0, 0, -1), how)
			m.Most = most
			refused(t, b, deep(), m, api.ErrOver)
			// a does not fit, all does.
			m = of(state.State{}, stateOf(t, b, greatest, 0, -5), stateOf(t, b, 0, 5), how)
			m.Most = most
			refused(t, b, deep(), m, api.ErrOver)
			// Nothing becomes what is not ours: Ours itself can not be.
			m = of(base, stateOf(t, b, greatest, 1), base, how)
			m.Most = most
			refused(t, b, deep(), m, api.ErrOver)
		}
		done(t, b, deep(), of(base, stateOf(t, b, greatest-3, 1, 1), stateOf(t, b, 1, 1, 2), how), []int64{greatest - 3, 1, 2, 0, 0, 0})
	}
	// By Ours it fits, by Theirs it does not.
	c := clash(cell(0, inB), 1, 0, 2, false)
	m := of(base, stateOf(t, b, greatest-1, 1, 0), stateOf(t, b, 1, 1, 2), api.Ours)
	done(t, b, deep(), m, []int64{greatest - 1, 1, 0, 0, 0, 0}, c)
	m.How = api.Theirs
	refused(t, b, deep(), m, api.ErrOver)
}

// P20.2: just as many leaves as Most come to have a value, and one more; also of a merge that changes nothing.
func TestMost(t *testing.T) {
	b := bookOf(t, deep(), 100)
	for _, r := range []struct {
		base, ours, from []int64
		want             []int64
		full             int
	}{
		{nil, []int64{1}, []int64{0, 2}, []int64{1, 2, 0, 0, 0, 0}, 2},
		{nil, nil, []int64{1, 1, 1, 1, 1, 1}, []int64{1, 1, 1, 1, 1, 1}, 6},
		{[]int64{1, 1, 1}, []int64{1, 1, 1, 4}, nil, []int64{0, 0, 0, 4, 0, 0}, 1},
		{[]int64{1, 1, 1}, []int64{1, 1, 1}, nil, []int64{0, 0, 0, 0, 0, 0}, 0},
		{[]int64{1}, []int64{1, 2, 3}, []int64{1}, []int64{1, 2, 3, 0, 0, 0}, 3},
	} {
		for how := range 3 {
			m := of(stateOf(t, b, r.base...), stateOf(t, b, r.ours...), stateOf(t, b, r.from...), how)
			for _, most := range []int{r.full - 1, r.full - 2, -1, math.MinInt} {
				m.Most = most
				refused(t, b, deep(), m, api.ErrFull)
			}
			for _, most := range []int{r.full, r.full + 1, math.MaxInt} {
				m.Most = most
				done(t, b, deep(), m, r.want)
			}
		}
	}
}

// P20.2: there is no room at the first leaf, at a middle one, at the last one; all is then as it was, and a merge that changes nothing is done still.
func TestNoRoom(t *testing.T) {
	// Base, which is Ours, too, has 2 nodes and From 4; each leaf makes 2 more, and those of the one ahead of it that are not shared are gone.
	for room, at := range map[int]int{7: 0, 8: 8, 9: 8, 10: 16, 11: -1, 12: -1} {
		b := bookOf(t, grid(), room)
		base := stateOf(t, b, 3)
		from, why := b.Write(base, state.Val{Code: 0, N: 9}, state.Val{Code: 8, N: 6}, state.Val{Code: 16, N: 5})
		got(t, from, why)
		want := make([]int64, 24)
		want[0], want[8], want[16] = 9, 6, 5
		for how := range 3 {
			m := of(base, base, from, how)
			x := trioOf(t, grid(), b, m)
			if code := x.fails(b, base, model{vals: want}); code != at {
				t.Errorf("room %d: no room at %d; want %d", room, code, at)
			}
			for _, most := range []int{24, 3} {
				m.Most = most
				if at < 0 {
					done(t, b, grid(), m, want)
				} else {
					refused(t, b, grid(), m, api.ErrFull)
				}
			}
			done(t, b, grid(), of(from, base, from, how), x.ours.vals)
			done(t, b, grid(), of(base, from, from, how), want)
		}
	}
}

// P20.2: a leaf that becomes 0 in a full arena leaves no node, and needs no room.
func TestMergeToNothing(t *testing.T) {
	b := bookOf(t, grid(), 2)
	base := stateOf(t, b, 3)
	for how := range 3 {
		done(t, b, grid(), of(base, base, state.State{}, how), make([]int64, 24))
	}
}

// several are the errors that a merging may have at once.
type several struct {
	noBook, noName, noHow, clash, locked, noRoom, over, most bool
}

// merging is one in which just these apply, with its book; that of noBook is to be left out.
func (e several) merging(t *testing.T, cat api.Cat, how int) (*state.Book, merge.Merging) {
	t.Helper()
	b := bookOf(t, cat, 20)
	base, ours, from := []int64{0, 1, 1, 1}, []int64{0, 1, 1, 1}, []int64{5, 1, 1, 1}
	if e.clash {
		ours[1], from[1] = 2, 3
	}
	if e.locked {
		from[2] = 4
	}
	if e.over {
		base[3], ours[3], from[3] = greatest-4, greatest-4, greatest-4
	}
	m := of(stateOf(t, b, base...), locked(t, b, stateOf(t, b, ours...), "bob", cell(0, 3)), stateOf(t, b, from...), how)
	if e.noName {
		m.User = "1"
	}
	if e.noHow {
		m.How = how + 3
	}
	if e.most {
		m.Most = 3
	}
	for n := int64(100); e.noRoom && used(b) < 20; n++ {
		stateOf(t, b, n)
	}
	return b, m
}

// first is the one that is named first.
func (e several) first(how int) api.Errno {
	switch {
	case e.noBook:
		return api.ErrNil
	case e.noName:
		return api.ErrName
	case e.noHow:
		return api.ErrArg
	case e.clash && how == api.Abort:
		return api.ErrClash
	case e.locked:
		return api.ErrLocked
	case e.noRoom:
		return api.ErrFull
	case e.over:
		return api.ErrOver
	case e.most:
		return api.ErrFull
	}
	return api.OK
}

// P20.2, P6: all errors, each alone and together with all others: the one that is named first, and with each but ErrClash nothing is told, and all is as it was.
func TestSeveralErrors(t *testing.T) {
	cat := catOf(1, []int{-1, 0, 0, 0, 0})
	for i := range 256 {
		has := func(bit int) bool { return i>>bit&1 == 1 }
		e := several{has(0), has(1), has(2), has(3), has(4), has(5), has(6), has(7)}
		for how := range 3 {
			b, m := e.merging(t, cat, how)
			want := e.first(how)
			if e.noBook {
				askRefused(t, nil, m, api.ErrNil, nil)
				continue
			}
			if want != api.OK {
				refused(t, b, cat, m, want)
				continue
			}
			x := trioOf(t, cat, b, m)
			values := []int64{5, 1, 1, 1}
			if e.clash {
				values[1] = int64(1 + how)
			}
			done(t, b, cat, m, values, x.clashes()...)
		}
	}
}

// P20.2: what is held and locked is that of Ours, whatever Base and From have; also of leaves that change.
func TestHeldAndLockedAsOurs(t *testing.T) {
	b := bookOf(t, deep(), 100)
	base := locked(t, b, held(t, b, stateOf(t, b, 1, 1, 1, 1), cell(0, inC), cell(0, all)), "bob", cell(1, inB))
	from := locked(t, b, held(t, b, stateOf(t, b, 3, 3, 0, 1, 4), cell(0, inD), cell(1, inD), cell(1, all)), "bob", cell(0, all))
	for how := range 3 {
		ours := stateOf(t, b, 1, 1, 1, 1)
		done(t, b, deep(), of(base, ours, from, how), []int64{3, 3, 0, 1, 4, 0})
		ours = locked(t, b, held(t, b, ours, cell(1, inB), cell(1, inC)), "ann", cell(0, inA), cell(1, all))
		done(t, b, deep(), of(base, ours, from, how), []int64{3, 3, 0, 1, 4, 0})
	}
	ours := locked(t, b, held(t, b, stateOf(t, b, 1, 1, 1, 1), cell(0, inC), cell(0, inB), cell(1, inA)), "bob", cell(0, inC))
	l := []api.Clash{clash(cell(0, inC), 1, 1, 3, true), clash(cell(0, inB), 1, 1, 0, true), clash(cell(1, inD), 0, 0, 4, true)}
	refused(t, b, deep(), of(base, ours, from, api.Abort), api.ErrClash)
	done(t, b, deep(), of(base, ours, from, api.Ours), []int64{1, 3, 1, 1, 0, 0}, l...)
	done(t, b, deep(), of(base, ours, from, api.Theirs), []int64{1, 3, 1, 1, 0, 0}, l...)
}

// P20.6: From as Base, whatever is held and locked in any of the three: Ours comes out as it was, itself, asked for once more.
func TestFromAsBase(t *testing.T) {
	b := bookOf(t, deep(), 100)
	base := stateOf(t, b, 1, 2, 0, 4)
	for _, from := range []state.State{
		base,
		stateOf(t, b, 1, 2, 0, 4),
		locked(t, b, held(t, b, stateOf(t, b, 1, 2, 0, 4), cell(0, inB), cell(0, all)), "bob", cell(1, inC)),
	} {
		for _, ours := range []state.State{
			base,
			stateOf(t, b, 5, 0, 3),
			locked(t, b, held(t, b, stateOf(t, b, 5, 0, 3, 0, 1), cell(0, inD), cell(1, all)), "bob", cell(0, all)),
		} {
			for how := range 3 {
				m := of(base, ours, from, how)
				clashing(t, b, m)
				was, asked := used(b), refs(b, ours)
				x, l, why := merge.Merge(b, m)
				if !b.Same(got(t, x, why), ours) || len(l) != 0 || x.Root != ours.Root || used(b) != was || refs(b, ours) != asked+1 {
					t.Errorf("Merge = %v, %v", x, l)
				}
				b.Drop(x)
			}
		}
	}
	for how := range 3 {
		done(t, b, deep(), of(state.State{}, state.State{}, state.State{}, how), make([]int64, 6))
	}
}

// P20.6: Ours as Base, that bars and locks nothing: From's values come out.
func TestOursAsBase(t *testing.T) {
	b := bookOf(t, deep(), 100)
	states := [][]int64{make([]int64, 6), {1, 2, 3, 4, 5, 6}, {0, 2, 0, 0, 5, 7}, {-1, 0, 9, 4, 0, -6}}
	for _, x := range states {
		for _, y := range states {
			for how := range 3 {
				base, from := stateOf(t, b, x...), stateOf(t, b, y...)
				m := of(base, base, from, how)
				clashing(t, b, m)
				done(t, b, deep(), m, y)
				s, _, why := merge.Merge(b, m)
				if !b.Same(got(t, s, why), from) {
					t.Error("not as From")
				}
				for _, gone := range []state.State{s, base, from} {
					b.Drop(gone)
				}
			}
		}
	}
}

// P20.4, P4: where no leaf clashes, each has from's value, where that is not base, and else ours, whatever How is.
func TestNoClash(t *testing.T) {
	b := bookOf(t, deep(), 100)
	base, ours, from := stateOf(t, b, 1, 1, 1, 1, 1, 0), stateOf(t, b, 1, 2, 1, 3, 0, 0), stateOf(t, b, 1, 1, 3, 3, 1, 7)
	for how := range 3 {
		done(t, b, deep(), of(base, ours, from, how), []int64{1, 2, 3, 3, 0, 7})
	}
}

// P20.2: the state that Merge tells is asked for once, the three as often as they were; when all are let go, there are no nodes.
func TestAskedOnceMore(t *testing.T) {
	b := bookOf(t, deep(), 100)
	base, ours, from := stateOf(t, b, 1, 1, 1), stateOf(t, b, 1, 2, 0), stateOf(t, b, 5, 3, 1)
	x, l, why := merge.Merge(b, of(base, ours, from, api.Theirs))
	m := modelOf(t, deep(), b, got(t, x, why))
	if refs(b, base) != 1 || refs(b, ours) != 1 || refs(b, from) != 1 || refs(b, x) != 1 || used(b) != 4 || len(l) != 1 {
		t.Error("Refs", refs(b, base), refs(b, ours), refs(b, from), refs(b, x), used(b))
	}
	for _, s := range []state.State{base, ours, from} {
		b.Drop(s)
	}
	m.ask(t, b, x)
	b.Drop(x)
	if used(b) != 0 {
		t.Error("Used", used(b))
	}
}

// Rule 4: what is written into an answer is seen by no later one.
func TestOwnMemory(t *testing.T) {
	b := bookOf(t, ways(), 200)
	m := fifteen(t, b, 1, 2, 3)
	spoil := func(l []api.Clash) {
		for i := range l {
			l[i] = clash(cell(9), 9, 9, 9, !l[i].Held)
		}
		clear(append(l, clash(cell(9), 9, 9, 9, true)))
	}
	for how := range 3 {
		m.How = how
		l, _ := merge.Clashes(b, m)
		spoil(l)
		x, l, _ := merge.Merge(b, m)
		spoil(l)
		b.Drop(x)
		clashing(t, b, m, sevenOf(1, 2, 3)...)
		if x, l, _ := merge.Merge(b, m); !merge.Same(l, sevenOf(1, 2, 3)) {
			t.Error("Merge", x, l)
		}
	}
}

// P20.3: Same of lists that differ in each of their parts, in their order, in how many they are; of none; of alike ones.
func TestSame(t *testing.T) {
	l := []api.Clash{clash(cell(0, inC), 1, 2, 3, false), clash(cell(1, inB), 4, 5, 6, true)}
	if !merge.Same(l, slices.Clone(l)) || !merge.Same(l[1:], slices.Clone(l[1:])) {
		t.Error("alike ones are not the same")
	}
	if !merge.Same(nil, nil) || !merge.Same(nil, []api.Clash{}) || !merge.Same([]api.Clash{}, nil) || !merge.Same(l[:0], nil) {
		t.Error("none are not the same")
	}
	other := [][]api.Clash{
		nil, l[:1], l[1:], append(slices.Clone(l), l[1]), append(slices.Clone(l), api.Clash{}), {l[1], l[0]}, {l[0], l[0]},
	}
	for i := range l {
		for _, turn := range []func(c *api.Clash){
			func(c *api.Clash) { c.Base++ },
			func(c *api.Clash) { c.Ours++ },
			func(c *api.Clash) { c.From++ },
			func(c *api.Clash) { c.Held = !c.Held },
			func(c *api.Clash) { c.Ours, c.From = c.From, c.Ours },
			func(c *api.Clash) { c.Cell.Meas++ },
			func(c *api.Clash) { c.Cell.At[0]++ },
			func(c *api.Clash) { c.Cell.At[1]++ },
			func(c *api.Clash) { c.Cell.At[2]++ },
			func(c *api.Clash) { c.Cell.At[3]++ },
		} {
			x := slices.Clone(l)
			turn(&x[i])
			other = append(other, x)
		}
	}
	for _, x := range other {
		if merge.Same(l, x) || merge.Same(x, l) {
			t.Error("Same", l, x)
		}
	}
	if merge.Same([]api.Clash{{}}, nil) || merge.Same(nil, []api.Clash{{}}) {
		t.Error("a zero clash is none")
	}
}

// live is a state that is asked for once, and what it must be.
type live struct {
	s state.State
	m model
}

// walk is a book and states of it that are asked for.
type walk struct {
	b    *state.Book
	r    *rand.Rand
	cat  api.Cat
	live []live
}

// P20.1 to P20.6: many merges, right ones and wrong ones, of many states that live beside each other, against lists.
func TestWalks(t *testing.T) {
	seen := map[api.Errno]int{}
	for name, cat := range cats() {
		for _, room := range []int{40, api.MaxArena} {
			t.Run(name+strconv.Itoa(room), func(t *testing.T) {
				b := bookOf(t, cat, room)
				w := &walk{b, rand.New(rand.NewSource(20)), cat, nil}
				w.live = []live{{state.State{}, modelOf(t, cat, b, state.State{})}}
				for range 700 {
					w.turn(t)
					if w.r.Intn(2) == 0 {
						seen[w.step(t)]++
					}
					for len(w.live) > 10 {
						w.dropOne(t)
					}
				}
				for len(w.live) > 0 {
					w.dropOne(t)
				}
				if used(b) != 0 {
					t.Errorf("Used = %d", used(b))
				}
			})
		}
	}
	for _, why := range []api.Errno{api.OK, api.ErrName, api.ErrArg, api.ErrClash, api.ErrLocked, api.ErrOver, api.ErrFull} {
		if seen[why] < 30 {
			t.Errorf("the walks came %d times to error %d", seen[why], why)
		}
	}
}

func (w *walk) any() live {
	return w.live[w.r.Intn(len(w.live))]
}

// dropOne lets go of a state, behind asking all of it.
func (w *walk) dropOne(t *testing.T) {
	t.Helper()
	i := w.r.Intn(len(w.live))
	w.live[i].m.ask(t, w.b, w.live[i].s)
	if why := w.b.Drop(w.live[i].s); why != api.OK {
		t.Fatal("Drop", why)
	}
	w.live = slices.Delete(w.live, i, i+1)
}

// turn makes another state by the calls below, so that there are states of all kinds.
func (w *walk) turn(t *testing.T) {
	t.Helper()
	from := w.any()
	c, _ := w.b.Space().Cell(w.r.Intn(w.b.Space().Cells()))
	s, why := state.State{}, api.OK
	switch w.r.Intn(9) {
	case 0:
		s, why = w.b.Hold(from.s, c)
	case 1, 2:
		if l := w.b.Held(from.s); len(l) > 0 {
			c = l[w.r.Intn(len(l))]
		}
		s, why = w.b.Release(from.s, c)
	case 3:
		s, why = w.b.Lock(from.s, c, users()[w.r.Intn(3)])
	case 4:
		if l := from.s.Locks.List(); len(l) > 0 {
			lock := l[w.r.Intn(len(l))]
			s, why = w.b.Unlock(from.s, lock.Cell, lock.User)
		}
	default:
		s, why = w.b.Write(from.s, w.value(), w.value(), w.value())
	}
	if why == api.OK {
		w.live = append(w.live, live{s, modelOf(t, w.cat, w.b, s)})
	}
}

// value is one of few small ones most times, so that those of three states are often alike, and seldom one near an end.
func (w *walk) value() state.Val {
	v := state.Val{Code: w.r.Intn(w.b.Space().Leaves()), N: int64(w.r.Intn(3))}
	if w.r.Intn(40) == 0 {
		v.N = []int64{least, greatest, least + 1, greatest - 3}[w.r.Intn(4)]
	}
	return v
}

// merging is one of three states, which can be most times, and seldom wrong in one thing or more.
func (w *walk) merging() (merge.Merging, trio) {
	base, ours, from := w.any(), w.any(), w.any()
	if w.r.Intn(4) == 0 {
		ours = base
	}
	m := merge.Merging{Base: base.s, Ours: ours.s, From: from.s, User: users()[w.r.Intn(3)], How: w.r.Intn(3), Most: w.r.Intn(w.b.Space().Leaves()*2 + 1)}
	if l := noNames(); w.r.Intn(25) == 0 {
		m.User = l[w.r.Intn(len(l))]
	}
	if l := noHows(); w.r.Intn(25) == 0 {
		m.How = l[w.r.Intn(len(l))]
	}
	return m, trio{base.m, ours.m, from.m}
}

// step merges, and tells the error.
func (w *walk) step(t *testing.T) api.Errno {
	t.Helper()
	m, x := w.merging()
	l, why := merge.Clashes(w.b, m)
	if clashes := x.clashes(); why != api.OK || !slices.Equal(l, clashes) {
		t.Fatalf("Clashes = %v, %d; want %v", l, why, clashes)
	}
	want, wantWhy := x.merged(m)
	if wantWhy == api.OK && x.fails(w.b, m.Ours, want) >= 0 {
		wantWhy = api.ErrFull
	} else if wantWhy == api.OK {
		wantWhy = want.check(w.b, m.Most)
	}
	if wantWhy != api.OK {
		refused(t, w.b, w.cat, m, wantWhy)
		return wantWhy
	}
	s, k, why := merge.Merge(w.b, m)
	if !slices.Equal(k, l) {
		t.Fatalf("Merge: %v; want %v", k, l)
	}
	want.ask(t, w.b, got(t, s, why))
	x.ask(t, w.b, m)
	x.askKept(t, want.vals, m.User)
	w.live = append(w.live, live{s, want})
	return api.OK
}

// askKept asks whether what Ours bars, or another user has locked in it, has the value it had.
func (x trio) askKept(t *testing.T, values []int64, user string) {
	t.Helper()
	for code, leaf := range x.ours.leaves {
		if values[code] != x.ours.vals[code] && (x.ours.bars(leaf) || x.ours.isForeign(leaf, user)) {
			t.Fatalf("the leaf %d is kept, and is %d; want %d", code, values[code], x.ours.vals[code])
		}
	}
}

// P20.1, P20.2: as many leaves as there may be, in three states that differ in all ways.
func TestLimits(t *testing.T) {
	pairs := make([]int, 32)
	for i := range 16 {
		pairs[2*i], pairs[2*i+1] = -1, 2*i
	}
	cat := catOf(4, pairs, pairs)
	b := bookOf(t, cat, api.MaxArena)
	of3 := func(by int) state.State {
		var l []int64
		for code := range api.MaxLeaves {
			l = append(l, int64(code/by%3))
		}
		return stateOf(t, b, l...)
	}
	m := of(of3(1), held(t, b, of3(3), cell(0, 1, 1), cell(2, 4, 6), cell(3, 30, 30)), of3(9), api.Abort)
	x := trioOf(t, cat, b, m)
	if l, why := merge.Clashes(b, m); why != api.OK || len(l) < 100 || !slices.Equal(l, x.clashes()) {
		t.Error("Clashes", len(l), why)
	}
	for _, how := range []int{api.Ours, api.Theirs} {
		m.How = how
		want, _ := x.merged(m)
		s, l, why := merge.Merge(b, m)
		want.ask(t, b, got(t, s, why))
		if !slices.Equal(l, x.clashes()) {
			t.Error("Merge", len(l))
		}
	}
}

// P6: a book that New did not make, and states that are not asked for any more, or never were, make no call panic.
func TestNothing(t *testing.T) {
	zero := &state.Book{}
	b := bookOf(t, deep(), 100)
	gone := held(t, b, stateOf(t, b, 1, 2, 3), cell(0, inC), cell(0, all))
	b.Drop(gone)
	there := stateOf(t, b, 4, 5, 6)
	for _, root := range []int{0, gone.Root, math.MinInt, -1, 1, 5, 100, 101, math.MaxInt} {
		gone.Root = root
		for how := -1; how <= 3; how++ {
			for _, m := range []merge.Merging{of(gone, there, there, how), of(there, gone, there, how), of(there, there, gone, how), of(gone, gone, gone, how), of(state.State{}, gone, there, how)} {
				merge.Clashes(zero, m)
				merge.Merge(zero, m)
				merge.Clashes(b, m)
				merge.Merge(b, m)
			}
		}
	}
}
