package roll_test

import (
	"math"
	"math/big"
	"math/rand"
	"slices"
	"strconv"
	"testing"

	"moiety/api"
	"moiety/arena"
	"moiety/coord"
	"moiety/dims"
	"moiety/pages"
	"moiety/roll"
	"moiety/view"
)

const (
	least    = math.MinInt64
	greatest = math.MaxInt64
)

// spaceOf is the space of so many measures, and of dimensions whose members stand below those of each list.
func spaceOf(t *testing.T, measures int, ups ...[]int) *coord.Space {
	t.Helper()
	cat := api.Cat{Leaves: 1, Scens: 1}
	for i := range measures {
		cat.Meas = append(cat.Meas, "m"+strconv.Itoa(i))
	}
	for k, l := range ups {
		d := api.Dim{Name: "d" + strconv.Itoa(k)}
		for i, up := range l {
			d.Nodes = append(d.Nodes, api.Node{Name: "n" + strconv.Itoa(i), Up: up})
		}
		cat.Dims = append(cat.Dims, d)
	}
	d, _, why := dims.New(cat)
	if why != api.OK {
		t.Fatal("dims", why)
	}
	s, _ := coord.New(d)
	return s
}

func newRoll(t *testing.T, s *coord.Space) *roll.Roll {
	t.Helper()
	r, why := roll.New(s)
	if r == nil || why != api.OK || r.Space() != s {
		t.Fatalf("New = %v, %d", r, why)
	}
	return r
}

// turn gives leaves their values, from the code 0 on.
func turn(t *testing.T, r *roll.Roll, values ...int64) {
	t.Helper()
	for code, n := range values {
		if why := r.Turn(code, n); why != api.OK {
			t.Fatalf("Turn(%d, %d) = %d", code, n, why)
		}
	}
}

func cell(measure int, at ...int) api.Cell {
	c := api.Cell{Meas: measure}
	copy(c.At[:], at)
	return c
}

// some are spaces of one to four dimensions, of which some have members ahead of those above them.
func some(t *testing.T) map[string]*coord.Space {
	t.Helper()
	tops := []int{5, -1, 5, 4, -1, -1, 4}
	return map[string]*coord.Space{
		"one leaf": spaceOf(t, 1, []int{-1}),
		"one":      spaceOf(t, 4, tops),
		"two":      spaceOf(t, 2, []int{-1, 0, 0, 1}, []int{-1, 0, 0}),
		"three":    spaceOf(t, 1, tops, []int{1, 2, -1}, []int{-1, -1}),
		"four":     spaceOf(t, 2, []int{-1, 0, 1}, tops, []int{-1}, []int{2, 2, -1}),
	}
}

// hold asks everything of a roll that the leaves' values tell, in the words of the chapter.
func hold(t *testing.T, r *roll.Roll, values []int64) {
	t.Helper()
	full := 0
	for code, want := range values {
		if n, why := r.Leaf(code); n != want || why != api.OK {
			t.Fatalf("Leaf(%d) = %d, %d; want %d", code, n, why, want)
		}
		if want != 0 {
			full++
		}
	}
	if r.Full() != full {
		t.Fatalf("Full = %d; want %d", r.Full(), full)
	}
	var beyond []api.Cell
	for i := range r.Space().Cells() {
		c, _ := r.Space().Cell(i)
		sum := new(big.Int)
		for _, code := range r.Space().Under(c) {
			sum.Add(sum, big.NewInt(values[code]))
		}
		want, wantWhy := sum.Int64(), api.OK
		if !sum.IsInt64() {
			want, wantWhy = 0, api.ErrOver
			beyond = append(beyond, c)
		}
		if n, why := r.Value(c); n != want || why != wantWhy {
			t.Fatalf("Value(%v) = %d, %d; want %d, %d", c, n, why, want, wantWhy)
		}
	}
	first := append(beyond, api.Cell{})[0]
	if c, over := r.Over(); c != first || over != (len(beyond) > 0) {
		t.Fatalf("Over = %v, %t; want the first of %v", c, over, beyond)
	}
}

// P12.1, P12.2: the chapter's example.
func TestExample(t *testing.T) {
	s := spaceOf(t, 2, []int{-1, 0, 0})
	r := newRoll(t, s)
	turn(t, r, 5)
	turn(t, r, 7)
	for _, c := range s.Over(0) {
		if n, why := r.Value(c); n != 7 || why != api.OK {
			t.Errorf("Value(%v) = %d, %d", c, n, why)
		}
	}
	hold(t, r, []int64{7, 0, 0, 0})
}

// P12.1, P12.2: at first all is 0; without a space there is no roll.
func TestNew(t *testing.T) {
	for name, s := range some(t) {
		t.Run(name, func(t *testing.T) {
			hold(t, newRoll(t, s), make([]int64, s.Leaves()))
		})
	}
	if r, why := roll.New(nil); r != nil || why != api.ErrNil {
		t.Error("New(nil)", r, why)
	}
}

// P12.1: codes below 0 and too great; a Turn that is refused changes nothing.
func TestCodesOff(t *testing.T) {
	for name, s := range some(t) {
		r, values := newRoll(t, s), make([]int64, s.Leaves())
		values[0], values[len(values)-1] = 3, 4
		turn(t, r, values...)
		for _, code := range []int{-1, s.Leaves(), s.Leaves() + 1, s.Cells() + 1, math.MinInt, math.MaxInt} {
			if why := r.Turn(code, 9); why != api.ErrRange {
				t.Errorf("%s: Turn(%d) = %d", name, code, why)
			}
			if n, why := r.Leaf(code); n != 0 || why != api.ErrRange {
				t.Errorf("%s: Leaf(%d) = %d, %d", name, code, n, why)
			}
		}
		hold(t, r, values)
	}
}

// P12.2: cells that can not be, where all sums are beyond 64 bits too.
func TestCellsWrong(t *testing.T) {
	s := spaceOf(t, 2, []int{-1, 0, 0}, []int{-1, 0, 0})
	for _, n := range []int64{0, greatest} {
		r := newRoll(t, s)
		turn(t, r, n, n, n, n, n, n, n, n)
		for _, c := range []api.Cell{
			cell(-1), cell(2), cell(math.MinInt), cell(math.MaxInt),
			cell(0, -1), cell(0, 3), cell(0, math.MinInt), cell(0, math.MaxInt),
			cell(1, 0, -1), cell(1, 0, 3), cell(1, 2, math.MaxInt),
			cell(0, 0, 0, 1), cell(0, 0, 0, -1), cell(0, 0, 0, 0, 1), cell(0, 0, 0, 0, math.MinInt),
		} {
			if n, why := r.Value(c); n != 0 || why != api.ErrRange {
				t.Errorf("Value(%v) = %d, %d", c, n, why)
			}
		}
	}
}

// P12.1, P12.2: a leaf that turns over and over, back to 0, and to the least and the greatest number.
func TestTurns(t *testing.T) {
	for name, s := range some(t) {
		t.Run(name, func(t *testing.T) {
			r, values := newRoll(t, s), make([]int64, s.Leaves())
			for _, n := range []int64{5, 7, 7, 0, 0, -3, greatest, least, least, greatest, 1, least, 0, -1, 0} {
				for _, code := range []int{0, s.Leaves() - 1} {
					values[code] = n
					if why := r.Turn(code, n); why != api.OK {
						t.Fatalf("Turn(%d, %d) = %d", code, n, why)
					}
					hold(t, r, values)
				}
			}
		})
	}
}

// P12.2: cells just at the ends of 64 bits, one beyond, far beyond, and back within.
func TestBeyond(t *testing.T) {
	// Members 1 and 2 below 0; the leaves 3 and 4 below 1, 5 and 6 below 2.
	s := spaceOf(t, 2, []int{-1, 0, 0, 1, 1, 2, 2})
	rows := []struct {
		values [8]int64
		first  api.Cell
		over   bool
	}{
		{[8]int64{greatest, 0, 0, 0}, api.Cell{}, false},
		{[8]int64{greatest, 0, 0, 1}, cell(0, 0), true},
		{[8]int64{greatest, 1, -1, 0}, cell(0, 1), true},
		{[8]int64{greatest, 1, -2, 0, least, -1}, cell(0, 1), true},
		{[8]int64{greatest, 1, 0, 0, least, -1}, cell(0, 0), true},
		{[8]int64{0, 0, 0, 0, least, -1, 0, 1}, cell(1, 1), true},
		{[8]int64{greatest, greatest, greatest, greatest, least, least, least, least}, cell(0, 0), true},
		{[8]int64{greatest, greatest, least, least, 1}, cell(0, 1), true},
		{[8]int64{0, 0, least, least, 1}, cell(0, 0), true},
		{[8]int64{greatest, least, least, greatest, 0, 0, -1, least + 1}, api.Cell{}, false},
		{[8]int64{0, 0, 0, 0, 0, 0, 0, least}, api.Cell{}, false},
		{[8]int64{}, api.Cell{}, false},
	}
	// One roll goes through all of it, so that cells are beyond and come back.
	r := newRoll(t, s)
	for _, row := range rows {
		turn(t, r, row.values[:]...)
		if c, over := r.Over(); c != row.first || over != row.over {
			t.Errorf("%v: Over = %v, %t; want %v, %t", row.values, c, over, row.first, row.over)
		}
		hold(t, r, row.values[:])
	}
}

// P12.2: as many leaves as there may be, all at one end, then all at the other one, then at 0.
func TestLimits(t *testing.T) {
	pairs := make([]int, 32)
	for i := range 16 {
		pairs[2*i], pairs[2*i+1] = -1, 2*i
	}
	wide := append([]int{-1}, make([]int, 31)...)
	for _, s := range []*coord.Space{spaceOf(t, 4, pairs, pairs), spaceOf(t, 1, wide, wide)} {
		r := newRoll(t, s)
		for _, n := range []int64{greatest, least, 0} {
			values := slices.Repeat([]int64{n}, s.Leaves())
			turn(t, r, values...)
			hold(t, r, values)
		}
	}
}

// P12.3: a copy is as the roll is, and what is done to one of both does not change the other.
func TestCopy(t *testing.T) {
	s := spaceOf(t, 2, []int{-1, 0, 0}, []int{-1})
	r := newRoll(t, s)
	turn(t, r, 1, greatest, 3, -4)
	c := r.Copy()
	if c == nil || c == r || c.Space() != s || !c.Same(r) || !r.Same(c) {
		t.Fatal("Copy", c, r)
	}
	hold(t, c, []int64{1, greatest, 3, -4})
	turn(t, c, 0, 6)
	hold(t, r, []int64{1, greatest, 3, -4})
	hold(t, c, []int64{0, 6, 3, -4})
	turn(t, r, 8, 8, 8, greatest)
	hold(t, r, []int64{8, 8, 8, greatest})
	hold(t, c, []int64{0, 6, 3, -4})
	again := c.Copy()
	turn(t, c, 5, 5, 5, 5)
	hold(t, again, []int64{0, 6, 3, -4})
	if c.Same(again) || again.Same(c) {
		t.Error("Same")
	}
}

// P12.3: as many leaves, with the same values, one after another; of whatever spaces.
func TestSame(t *testing.T) {
	two, three := spaceOf(t, 1, []int{-1, 0, 0}), spaceOf(t, 1, []int{-1, -1, -1})
	other := spaceOf(t, 2, []int{-1})
	rows := []struct {
		a, b         *coord.Space
		first, later []int64
		same         bool
	}{
		{two, two, nil, nil, true},
		{two, two, []int64{4, 5}, []int64{4, 5}, true},
		{two, two, []int64{4, 5}, []int64{5, 4}, false},
		{two, two, []int64{4, 5}, []int64{4, 6}, false},
		{two, two, []int64{greatest, 1}, []int64{greatest, 2}, false},
		{two, other, []int64{4, 5}, []int64{4, 5}, true},
		{two, other, []int64{4, 5}, []int64{4, -5}, false},
		{two, other, nil, nil, true},
		{two, three, nil, nil, false},
		{two, three, []int64{4, 5}, []int64{4, 5, 0}, false},
		{two, three, []int64{4, 5}, []int64{4, 5, 6}, false},
	}
	for _, row := range rows {
		a, b := newRoll(t, row.a), newRoll(t, row.b)
		turn(t, a, row.first...)
		turn(t, b, row.later...)
		if a.Same(b) != row.same || b.Same(a) != row.same {
			t.Errorf("%v, %v: Same = %t, %t", row.first, row.later, a.Same(b), b.Same(a))
		}
		if !a.Same(a) || !b.Same(b) {
			t.Error("Same as itself")
		}
	}
}

// P12.1 to P12.3, P6: a nil roll, and one that New did not make.
func TestNil(t *testing.T) {
	var none *roll.Roll
	if none.Space() != nil || none.Full() != 0 || none.Copy() != nil || !none.Same(nil) || !none.Same(none.Copy()) {
		t.Error("Space, Full, Copy, Same of nil")
	}
	empty, _ := coord.New(&dims.Dims{})
	for name, r := range map[string]*roll.Roll{"some": newRoll(t, spaceOf(t, 1, []int{-1})), "zero": {}, "empty": newRoll(t, empty)} {
		if none.Same(r) || r.Same(nil) || !r.Same(r.Copy()) {
			t.Errorf("%s: Same", name)
		}
	}
	for r, want := range map[*roll.Roll]api.Errno{none: api.ErrNil, {}: api.ErrRange, newRoll(t, empty): api.ErrRange} {
		for _, i := range []int{0, 1, -1, math.MinInt, math.MaxInt} {
			if why := r.Turn(i, 1); why != want {
				t.Errorf("Turn(%d) = %d; want %d", i, why, want)
			}
			if n, why := r.Leaf(i); n != 0 || why != want {
				t.Errorf("Leaf(%d) = %d, %d; want %d", i, n, why, want)
			}
			if n, why := r.Value(cell(i, i)); n != 0 || why != want {
				t.Errorf("Value = %d, %d; want %d", n, why, want)
			}
		}
		if c, over := r.Over(); over || c != (api.Cell{}) || r.Full() != 0 {
			t.Error("Over", c, over)
		}
	}
}

func anyValue(r *rand.Rand) int64 {
	values := []int64{0, 0, 1, -1, 5, greatest, least, greatest/2 + 1, least / 2}
	return values[r.Intn(len(values))]
}

// P12.4: whatever stood in between, and in whatever order the leaves came to their values, the rolls are the same.
func TestOrder(t *testing.T) {
	for name, s := range some(t) {
		t.Run(name, func(t *testing.T) {
			for seed := range 10 {
				r := rand.New(rand.NewSource(int64(seed)))
				straight, about := newRoll(t, s), newRoll(t, s)
				values := make([]int64, s.Leaves())
				for code := range values {
					values[code] = anyValue(r)
				}
				turn(t, straight, values...)
				for range 3 * s.Leaves() {
					about.Turn(r.Intn(s.Leaves()), anyValue(r))
				}
				for _, code := range r.Perm(s.Leaves()) {
					about.Turn(code, values[code])
				}
				hold(t, straight, values)
				hold(t, about, values)
				if !straight.Same(about) || !about.Same(straight) {
					t.Fatal("Same")
				}
			}
		})
	}
}

// P12.5: a roll says what a view says of a tree with these values.
func TestAsView(t *testing.T) {
	for name, s := range some(t) {
		t.Run(name, func(t *testing.T) {
			nodes, _ := arena.New(api.MaxArena)
			trees, _ := pages.New(nodes, s.Leaves())
			v, why := view.New(s, trees)
			if why != api.OK {
				t.Fatal("view", why)
			}
			r, sums, root := rand.New(rand.NewSource(7)), newRoll(t, s), 0
			for range 60 {
				code, n := r.Intn(s.Leaves()), anyValue(r)
				sums.Turn(code, n)
				next, _ := trees.Set(root, code, api.Entry{Val: n, Held: r.Intn(3) == 0})
				trees.Drop(root)
				root = next
				holdView(t, sums, v, root)
			}
		})
	}
}

func holdView(t *testing.T, r *roll.Roll, v *view.View, root int) {
	t.Helper()
	full := 0
	for i := range r.Space().Cells() {
		c, _ := r.Space().Cell(i)
		n, why := r.Value(c)
		if want, wantWhy := v.Value(root, c); n != want || why != wantWhy {
			t.Fatalf("Value(%v) = %d, %d; the view's %d, %d", c, n, why, want, wantWhy)
		}
		if r.Space().Code(c) >= 0 {
			many, _ := v.Many(root, c)
			full += many
		}
	}
	if r.Full() != full {
		t.Fatalf("Full = %d; the view's leaves %d", r.Full(), full)
	}
	c, over := r.Over()
	if want, wantOver := v.Over(root); c != want || over != wantOver {
		t.Fatalf("Over = %v, %t; the view's %v, %t", c, over, want, wantOver)
	}
}
