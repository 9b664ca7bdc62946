package region_test

import (
	"math"
	"math/bits"
	"math/rand"
	"slices"
	"testing"

	"moiety/region"
)

// width is how many numbers the sets of bits below have room for.
const width = 7

// listed is the places of the bits of a mask.
func listed(mask uint) []int {
	var l []int
	for n := range width + 2 {
		if mask>>n&1 == 1 {
			l = append(l, n)
		}
	}
	return l
}

// sets are all of numbers below width, each at the place of its mask.
func sets() []region.Set {
	var l []region.Set
	for mask := range uint(1 << width) {
		l = append(l, region.Of(listed(mask)...))
	}
	return l
}

// hold asks everything of s that the numbers of a mask tell.
func hold(t *testing.T, what string, s region.Set, mask uint) {
	t.Helper()
	if !slices.Equal(s.All(), listed(mask)) || s.Many() != bits.OnesCount(mask) {
		t.Errorf("%s: All %v, Many %d; want %v", what, s.All(), s.Many(), listed(mask))
	}
	// A run begins at each number whose one ahead is not there.
	if runs := bits.OnesCount(mask &^ (mask << 1)); s.Runs() != runs {
		t.Errorf("%s: Runs of %v = %d; want %d", what, s.All(), s.Runs(), runs)
	}
	for n := -2; n < width+4; n++ {
		if has := n >= 0 && mask>>n&1 == 1; s.Has(n) != has {
			t.Errorf("%s: Has(%d) of %v = %t", what, n, s.All(), s.Has(n))
		}
	}
	if !s.Same(region.Of(listed(mask)...)) {
		t.Errorf("%s: %v is not the same as Of it", what, s.All())
	}
}

func holdList(t *testing.T, what string, s region.Set, want ...int) {
	t.Helper()
	if !slices.Equal(s.All(), want) || s.Many() != len(want) {
		t.Errorf("%s: All %v, Many %d; want %v", what, s.All(), s.Many(), want)
	}
}

// P8.1 to P8.3: the chapter's example.
func TestExample(t *testing.T) {
	s := region.Of(5, 1, 2, 2, -1)
	holdList(t, "Of", s, 1, 2, 5)
	if s.Runs() != 2 {
		t.Error("Runs", s.Runs())
	}
	holdList(t, "Less", region.Run(0, 4).Less(s), 0, 3)
}

// P8.1, P8.3: every set of few numbers.
func TestOf(t *testing.T) {
	for mask, s := range sets() {
		hold(t, "Of", s, uint(mask))
	}
}

// P8.1: no numbers, some twice, some below 0, and in no order.
func TestOfAny(t *testing.T) {
	rows := []struct {
		what string
		l    []int
		want []int
		runs int
	}{
		{"nil", nil, nil, 0},
		{"none", []int{}, nil, 0},
		{"below 0", []int{-1, math.MinInt, -7}, nil, 0},
		{"0", []int{0}, []int{0}, 1},
		{"-1 and 0", []int{-1, 0}, []int{0}, 1},
		{"twice", []int{3, 3, 3}, []int{3}, 1},
		{"twice, apart", []int{3, 9, 3, 9}, []int{3, 9}, 2},
		{"falling", []int{4, 3, 2, 1}, []int{1, 2, 3, 4}, 1},
		{"in no order", []int{8, 2, -3, 0, 9, 1, 8, 5}, []int{0, 1, 2, 5, 8, 9}, 3},
		{"far apart", []int{1 << 40, 0}, []int{0, 1 << 40}, 2},
		{"the greatest", []int{math.MaxInt}, []int{math.MaxInt}, 1},
		{"the greatest two", []int{math.MaxInt, math.MaxInt - 1}, []int{math.MaxInt - 1, math.MaxInt}, 1},
	}
	for _, r := range rows {
		s := region.Of(r.l...)
		holdList(t, r.what, s, r.want...)
		if s.Runs() != r.runs {
			t.Errorf("%s: Runs %d", r.what, s.Runs())
		}
	}
}

// P8.1: runs that are empty, that begin below 0, that end ahead of their beginning.
func TestRun(t *testing.T) {
	for from := -3; from <= width; from++ {
		for to := -3; to <= width; to++ {
			mask := uint(0)
			for n := max(from, 0); n < to; n++ {
				mask |= 1 << n
			}
			hold(t, "Run", region.Run(from, to), mask)
		}
	}
	holdList(t, "the least to the least", region.Run(math.MinInt, math.MinInt))
	holdList(t, "the greatest to the least", region.Run(math.MaxInt, math.MinInt))
	holdList(t, "the greatest to the greatest", region.Run(math.MaxInt, math.MaxInt))
	holdList(t, "the least to 2", region.Run(math.MinInt, 2), 0, 1)
	holdList(t, "up to the greatest", region.Run(math.MaxInt-2, math.MaxInt), math.MaxInt-2, math.MaxInt-1)
}

// P8.2, P8.4, P8.5: of every two sets of few numbers; none is changed by it.
func TestPairs(t *testing.T) {
	l := sets()
	for a, s := range l {
		for b, u := range l {
			both, rest, join := s.Meet(u), s.Less(u), s.Join(u)
			hold(t, "Join", join, uint(a|b))
			hold(t, "Meet", both, uint(a&b))
			hold(t, "Less", rest, uint(a&^b))
			if s.Same(u) != (a == b) {
				t.Errorf("Same of %v and %v", s.All(), u.All())
			}
			if !rest.Join(both).Same(s) || rest.Meet(both).Many() != 0 {
				t.Errorf("Less and Meet of %v and %v are %v and %v", s.All(), u.All(), rest.All(), both.All())
			}
			if !u.Join(s).Same(join) || !u.Meet(s).Same(both) {
				t.Errorf("Join or Meet of %v and %v hang on the order", s.All(), u.All())
			}
		}
	}
	for mask, s := range l {
		hold(t, "behind all that", s, uint(mask))
	}
}

// P8.2, P8.5: no set, one, and several, in any order; none is changed by it.
func TestJoinMany(t *testing.T) {
	l := sets()
	r := rand.New(rand.NewSource(8))
	for range 3000 {
		first := uint(r.Intn(len(l)))
		all := first
		var more []region.Set
		for range r.Intn(6) {
			mask := uint(r.Intn(len(l)))
			more, all = append(more, l[mask]), all|mask
		}
		s := l[first].Join(more...)
		hold(t, "Join", s, all)
		r.Shuffle(len(more), func(i, k int) { more[i], more[k] = more[k], more[i] })
		if !(region.Set{}).Join(append(more, l[first])...).Same(s) {
			t.Errorf("Join of %v hangs on the order", s.All())
		}
	}
	for mask, s := range l {
		hold(t, "Join of none", s.Join(), uint(mask))
		hold(t, "Join of itself", s.Join(s, s), uint(mask))
		hold(t, "behind all that", s, uint(mask))
	}
}

// P8.2, P8.3: runs that touch, that overlap, that are within one another, and that are apart.
func TestTouching(t *testing.T) {
	rows := []struct {
		what             string
		s, t             region.Set
		join, meet, less []int
		runs             int
	}{
		{"touch", region.Run(2, 4), region.Run(4, 6), []int{2, 3, 4, 5}, nil, []int{2, 3}, 1},
		{"touch from below", region.Run(4, 6), region.Run(2, 4), []int{2, 3, 4, 5}, nil, []int{4, 5}, 1},
		{"one between", region.Run(2, 4), region.Run(5, 6), []int{2, 3, 5}, nil, []int{2, 3}, 2},
		{"overlap", region.Run(2, 5), region.Run(4, 7), []int{2, 3, 4, 5, 6}, []int{4}, []int{2, 3}, 1},
		{"within", region.Run(2, 7), region.Run(4, 5), []int{2, 3, 4, 5, 6}, []int{4}, []int{2, 3, 5, 6}, 1},
		{"over all", region.Run(4, 5), region.Run(2, 7), []int{2, 3, 4, 5, 6}, []int{4}, nil, 1},
		{"same beginning", region.Run(0, 3), region.Run(0, 1), []int{0, 1, 2}, []int{0}, []int{1, 2}, 1},
		{"same end", region.Run(0, 3), region.Of(2), []int{0, 1, 2}, []int{2}, []int{0, 1}, 1},
		{"between two", region.Of(1, 3), region.Of(2), []int{1, 2, 3}, nil, []int{1, 3}, 1},
		{"itself", region.Of(1, 3), region.Of(1, 3), []int{1, 3}, []int{1, 3}, nil, 2},
		{"with none", region.Of(1, 3), region.Of(), []int{1, 3}, nil, []int{1, 3}, 2},
		{"none", region.Of(), region.Of(1, 3), []int{1, 3}, nil, nil, 2},
	}
	for _, r := range rows {
		holdList(t, r.what+": Join", r.s.Join(r.t), r.join...)
		holdList(t, r.what+": Meet", r.s.Meet(r.t), r.meet...)
		holdList(t, r.what+": Less", r.s.Less(r.t), r.less...)
		if n := r.s.Join(r.t).Runs(); n != r.runs {
			t.Errorf("%s: Runs of Join = %d; want %d", r.what, n, r.runs)
		}
	}
}

// P8.3: at the edges of a run, and of numbers that no set has.
func TestHas(t *testing.T) {
	s := region.Run(3, 6).Join(region.Of(9, math.MaxInt))
	for n, want := range map[int]bool{math.MinInt: false, -1: false, 0: false, 2: false, 3: true, 4: true, 5: true, 6: false, 8: false, 9: true, 10: false, math.MaxInt - 1: false, math.MaxInt: true} {
		if s.Has(n) != want {
			t.Errorf("Has(%d) = %t", n, !want)
		}
	}
}

// P8.3: the same numbers, come by in different ways, and numbers that are not the same.
func TestSame(t *testing.T) {
	same := []region.Set{
		region.Run(2, 6),
		region.Of(5, 4, 3, 2),
		region.Of(2, 4).Join(region.Of(5, 3)),
		region.Run(0, 9).Meet(region.Run(2, 6)),
		region.Run(0, 9).Less(region.Of(0, 1, 6, 7, 8)),
		region.Run(2, 4).Join(region.Run(4, 6)),
	}
	for i, s := range same {
		for k, u := range same {
			if !s.Same(u) || s.Runs() != 1 {
				t.Errorf("%d and %d: %v and %v", i, k, s.All(), u.All())
			}
		}
	}
	for _, u := range []region.Set{{}, region.Of(2), region.Run(2, 5), region.Run(2, 7), region.Run(1, 6), region.Run(3, 6), region.Of(2, 3, 5), region.Of(2, 5), region.Run(2, 6).Join(region.Of(8))} {
		if u.Same(same[0]) || same[0].Same(u) {
			t.Errorf("%v is the same as %v", u.All(), same[0].All())
		}
	}
}

// P8.1 to P8.3, P6: the zero value is empty, and can be asked everything.
func TestZero(t *testing.T) {
	var zero, other region.Set
	hold(t, "zero", zero, 0)
	hold(t, "Join", zero.Join(), 0)
	hold(t, "Join", zero.Join(other, zero), 0)
	hold(t, "Meet", zero.Meet(other), 0)
	hold(t, "Less", zero.Less(other), 0)
	for _, empty := range []region.Set{region.Of(), region.Of(-1), region.Run(4, 4), region.Of(1).Less(region.Of(1)), region.Of(1).Meet(region.Of(3))} {
		if !zero.Same(empty) || !empty.Same(zero) {
			t.Error("an empty set that is not the zero value", empty)
		}
	}
	hold(t, "zero", zero, 0)
}

// P8.1 to P8.3, P6: the greatest numbers; those of long runs are counted, not listed.
func TestGreatest(t *testing.T) {
	const most = math.MaxInt
	long, last := region.Run(0, most), region.Of(most)
	if long.Many() != most || long.Runs() != 1 || long.Has(most) || !long.Has(most-1) {
		t.Error("all but the greatest", long.Many(), long.Runs())
	}
	all := long.Join(last)
	if all.Runs() != 1 || !all.Has(most) || !all.Less(long).Same(last) || !all.Less(last).Same(long) || !all.Meet(last).Same(last) {
		t.Error("all numbers")
	}
	if all.Less(all).Many() != 0 || last.Less(all).Many() != 0 || last.Less(last).Many() != 0 || last.Meet(long).Many() != 0 {
		t.Error("less all numbers")
	}
	// One more than an int can tell.
	if all.Many() != most {
		t.Error("Many of all numbers", all.Many())
	}
	holdList(t, "less all but a few", region.Of(3, 7, most).Less(region.Run(4, most)), 3, most)
	holdList(t, "Join", last.Join(region.Of(most-1)), most-1, most)
}

// Rules 4 and 5: writing into a list that was handed in, or handed out, changes no set.
func TestOwnMemory(t *testing.T) {
	in := []int{4, 1, 2}
	s := region.Of(in...)
	if !slices.Equal(in, []int{4, 1, 2}) {
		t.Error("Of changed its list", in)
	}
	clear(in)
	out := s.All()
	for i := range out {
		out[i] = 77
	}
	_ = append(out[:0], 5, 6)
	holdList(t, "s", s, 1, 2, 4)

	parts := []region.Set{region.Of(8), region.Of(6)}
	join := s.Join(parts...)
	if !parts[0].Same(region.Of(8)) || !parts[1].Same(region.Of(6)) {
		t.Error("Join changed its list")
	}
	clear(parts)
	holdList(t, "Join", join, 1, 2, 4, 6, 8)
}

// P8.2: sets that were made of one set do not see each other.
func TestOneSource(t *testing.T) {
	s := region.Of(1, 4, 7)
	kept := s.Join()
	a, b := s.Join(region.Of(9)), s.Join(region.Of(11))
	c, d := s.Join(region.Of(2, 3)), s.Meet(region.Run(0, 5))
	e := d.Join(region.Of(5))
	holdList(t, "s", s, 1, 4, 7)
	holdList(t, "kept", kept, 1, 4, 7)
	holdList(t, "a", a, 1, 4, 7, 9)
	holdList(t, "b", b, 1, 4, 7, 11)
	holdList(t, "c", c, 1, 2, 3, 4, 7)
	holdList(t, "d", d, 1, 4)
	holdList(t, "e", e, 1, 4, 5)
}
