package basis_test

import (
	"math"
	"math/big"
	"math/rand"
	"slices"
	"strconv"
	"testing"

	"moiety/api"
	"moiety/basis"
	"moiety/dims"
	"moiety/share"
	"moiety/state"
)

const (
	least    = math.MinInt64
	greatest = math.MaxInt64
)

// bookOf is a book of so many measures, and of one dimension: all, and so many leaves below it.
func bookOf(t *testing.T, measures, leaves int) *state.Book {
	t.Helper()
	nodes := []api.Node{{Name: "all", Up: -1}}
	for i := range leaves {
		nodes = append(nodes, api.Node{Name: "l" + strconv.Itoa(i), Up: 0})
	}
	return bookOfDims(t, measures, api.Dim{Name: "place", Nodes: nodes})
}

func bookOfDims(t *testing.T, measures int, l ...api.Dim) *state.Book {
	t.Helper()
	d, _, why := dims.New(api.Cat{Dims: l, Meas: []string{"m", "n", "o", "p"}[:measures], Leaves: 9, Scens: 1})
	if why != api.OK {
		t.Fatal("dims", why)
	}
	b, why := state.New(d, api.MaxArena)
	if why != api.OK {
		t.Fatal("state", why)
	}
	return b
}

// stateOf is one with these values, from the code 0 on.
func stateOf(t *testing.T, b *state.Book, values ...int64) state.State {
	t.Helper()
	var l []state.Val
	for code, n := range values {
		l = append(l, state.Val{Code: code, N: n})
	}
	s, why := b.Write(state.State{}, l...)
	if why != api.OK {
		t.Fatal("Write", why)
	}
	return s
}

// noWays are numbers of no way to spread, and edges are numbers that are no measures' places.
func noWays() []int { return []int{-1, 3, 4, math.MinInt, math.MaxInt} }
func edges(measures int) []int {
	return []int{-1, -2, measures, measures + 1, math.MinInt, math.MaxInt}
}

// asWas asks whether a state is, and is asked for, as before.
func asWas(t *testing.T, b *state.Book, s state.State, values ...int64) {
	t.Helper()
	a := b.View().Pages().Arena()
	if !b.Same(s, stateOf(t, b, values...)) || s.Root != 0 && a.Refs(s.Root) != 1 {
		t.Error("the state is not as it was")
	}
}

// P16.1: ordinary numbers, and the ends.
func TestFar(t *testing.T) {
	rows := []struct {
		n   int64
		far uint64
	}{
		{0, 0}, {1, 1}, {-1, 1}, {7, 7}, {-12, 12}, {greatest, 1<<63 - 1}, {least + 1, 1<<63 - 1}, {least, 1 << 63},
	}
	for _, r := range rows {
		if far := basis.Far(r.n); far != r.far {
			t.Errorf("Far(%d) = %d; want %d", r.n, far, r.far)
		}
	}
}

// P16.1: each way, those below and above them, each measure, those below and above them; no book.
func TestRight(t *testing.T) {
	for measures := 1; measures <= api.MaxMeas; measures++ {
		b := bookOf(t, measures, 2)
		for _, measure := range append(edges(measures), 0, measures-1) {
			there := measure >= 0 && measure < measures
			for how, want := range map[int]bool{api.Equal: true, api.Prop: true, api.Weight: there} {
				if basis.Right(b, how, measure) != want {
					t.Errorf("Right(%d, %d) of %d measures = %t", how, measure, measures, !want)
				}
				if basis.Right(nil, how, measure) {
					t.Errorf("Right of no book, %d, %d", how, measure)
				}
			}
			for _, how := range noWays() {
				if basis.Right(b, how, measure) || basis.Right(nil, how, measure) {
					t.Errorf("Right(%d, %d)", how, measure)
				}
			}
		}
	}
}

// P16.1: where dimensions differ in the place of their first leaf, or have members ahead of those above them.
func TestRightOfDims(t *testing.T) {
	x := api.Dim{Name: "x", Nodes: []api.Node{{Name: "a", Up: 1}, {Name: "b", Up: -1}}}
	y := api.Dim{Name: "y", Nodes: []api.Node{{Name: "a", Up: -1}, {Name: "b", Up: 0}}}
	b := bookOfDims(t, 2, x, y)
	if !basis.Right(b, api.Weight, 0) || !basis.Right(b, api.Weight, 1) || basis.Right(b, api.Weight, 2) {
		t.Error("Right")
	}
}

// P16.2: no codes, one, many, in any order, one more than once; each way.
func TestWeights(t *testing.T) {
	b := bookOf(t, 3, 3)
	values := []int64{6, -2, 0, least, greatest, 5, 0, 0, -1}
	s := stateOf(t, b, values...)
	rows := []struct {
		codes        []int
		how, measure int
		want         []uint64
	}{
		{nil, api.Equal, 0, nil},
		{nil, api.Prop, 0, nil},
		{nil, api.Weight, 2, nil},
		{[]int{}, api.Equal, 0, nil},
		{[]int{2}, api.Equal, 0, []uint64{1}},
		{[]int{0, 1, 2, 8}, api.Equal, 0, []uint64{1, 1, 1, 1}},
		{[]int{0, 1, 2}, api.Prop, 0, []uint64{6, 2, 0}},
		{[]int{8, 3, 4, 0}, api.Prop, 0, []uint64{1, 1 << 63, 1<<63 - 1, 6}},
		{[]int{1, 1, 0, 1}, api.Prop, 0, []uint64{2, 2, 6, 2}},
		{[]int{1, 1}, api.Equal, 0, []uint64{1, 1}},
		{[]int{0, 1, 2}, api.Weight, 1, []uint64{1 << 63, 1<<63 - 1, 5}},
		{[]int{0, 1, 2}, api.Weight, 0, []uint64{6, 2, 0}},
		{[]int{2, 0, 2}, api.Weight, 2, []uint64{1, 0, 1}},
		{[]int{3, 7, 1}, api.Weight, 0, []uint64{6, 2, 2}},
		{[]int{3, 5, 8}, api.Weight, 2, []uint64{0, 1, 1}},
	}
	for _, r := range rows {
		codes := slices.Clone(r.codes)
		w, why := basis.Weights(b, s, codes, r.how, r.measure)
		if why != api.OK || !slices.Equal(w, r.want) {
			t.Errorf("Weights(%v, %d, %d) = %v, %d; want %v", r.codes, r.how, r.measure, w, why, r.want)
		}
		if !slices.Equal(codes, r.codes) {
			t.Errorf("the list is changed: %v", codes)
		}
		// Rule 4: what is written into an answer is seen by no later one.
		clear(w)
		if w, _ := basis.Weights(b, s, codes, r.how, r.measure); !slices.Equal(w, r.want) {
			t.Errorf("Weights again = %v", w)
		}
	}
	asWas(t, b, s, values...)
}

// P16.2: spread Equal or Prop, the measure plays no part.
func TestMeasureUnasked(t *testing.T) {
	b := bookOf(t, 2, 3)
	s := stateOf(t, b, 6, 2, 0, 9, 9, 9)
	for _, measure := range append(edges(2), 0, 1) {
		if w, why := basis.Weights(b, s, []int{0, 1}, api.Equal, measure); why != api.OK || !slices.Equal(w, []uint64{1, 1}) {
			t.Errorf("Equal, %d: %v, %d", measure, w, why)
		}
		if w, why := basis.Weights(b, s, []int{0, 1}, api.Prop, measure); why != api.OK || !slices.Equal(w, []uint64{6, 2}) {
			t.Errorf("Prop, %d: %v, %d", measure, w, why)
		}
		l, why := basis.Spread(b, s, []int{0, 1}, 4, false, api.Prop, measure)
		if why != api.OK || !slices.Equal(l, []state.Val{{Code: 0, N: 9}, {Code: 1, N: 3}}) {
			t.Errorf("Spread, %d: %v, %d", measure, l, why)
		}
	}
}

// refused asks whether Weights and Spread both tell that error, and nothing else.
func refused(t *testing.T, b *state.Book, s state.State, codes []int, how, measure int, want api.Errno) {
	t.Helper()
	if w, why := basis.Weights(b, s, codes, how, measure); why != want || len(w) != 0 {
		t.Errorf("Weights(%v, %d, %d) = %v, %d; want %d", codes, how, measure, w, why, want)
	}
	for _, far := range []uint64{0, 1, math.MaxUint64} {
		for _, below := range []bool{false, true} {
			if l, why := basis.Spread(b, s, codes, far, below, how, measure); why != want || len(l) != 0 {
				t.Errorf("Spread(%v, %d, %t, %d, %d) = %v, %d; want %d", codes, far, below, how, measure, l, why, want)
			}
		}
	}
}

// P16.2, P16.3, P6: no book, ahead of a way that is not Right, ahead of a code that is none, ahead of Split's errors, where several apply.
func TestFirstError(t *testing.T) {
	b := bookOf(t, 2, 3)
	s := stateOf(t, b, greatest, least, 0)
	long := make([]int, api.MaxLeaves+1)
	lists := [][]int{nil, {0}, {2}, {0, 1}, {6}, {-1}, {0, 6}, {math.MinInt, 0}, {0, 1, math.MaxInt, 2}, append(slices.Clone(long), -1), long}
	for _, codes := range lists {
		none := slices.ContainsFunc(codes, func(code int) bool { return code < 0 || code > 5 })
		for _, how := range append(noWays(), api.Equal, api.Prop, api.Weight) {
			for _, measure := range append(edges(2), 0, 1) {
				refused(t, nil, s, codes, how, measure, api.ErrNil)
				switch {
				case !basis.Right(b, how, measure):
					refused(t, b, s, codes, how, measure, api.ErrArg)
				case none:
					refused(t, b, s, codes, how, measure, api.ErrRange)
				}
			}
		}
	}
}

// P16.3: the chapter's example.
func TestExample(t *testing.T) {
	b := bookOf(t, 1, 2)
	s := stateOf(t, b, 6, 2)
	l, why := basis.Spread(b, s, []int{0, 1}, 4, false, api.Prop, 0)
	if why != api.OK || !slices.Equal(l, []state.Val{{Code: 0, N: 9}, {Code: 1, N: 3}}) {
		t.Errorf("Spread = %v, %d", l, why)
	}
}

// spreadRow is a Spread, and what it must tell.
type spreadRow struct {
	codes        []int
	far          uint64
	below        bool
	how, measure int
	want         []int64
	why          api.Errno
}

func (r spreadRow) ask(t *testing.T, b *state.Book, s state.State) {
	t.Helper()
	codes := slices.Clone(r.codes)
	l, why := basis.Spread(b, s, codes, r.far, r.below, r.how, r.measure)
	if why != r.why || len(l) != len(r.want) {
		t.Errorf("Spread(%v) = %v, %d", r, l, why)
		return
	}
	for i, v := range l {
		if v.Code != r.codes[i] || v.N != r.want[i] {
			t.Errorf("Spread(%v) = %v", r, l)
		}
	}
	if !slices.Equal(codes, r.codes) {
		t.Errorf("the list is changed: %v", codes)
	}
}

// P16.3: each way, below and not; in the codes' order; a far of 0; one leaf; a code more than once, each time from the value that it has.
func TestSpread(t *testing.T) {
	b := bookOf(t, 2, 4)
	values := []int64{6, -2, 0, 4, 1, 0, -3, 0}
	s := stateOf(t, b, values...)
	rows := []spreadRow{
		{[]int{0, 1, 2}, 5, false, api.Equal, 0, []int64{8, 0, 1}, api.OK},
		{[]int{0, 1, 2}, 5, true, api.Equal, 0, []int64{4, -4, -1}, api.OK},
		{[]int{2, 1, 0}, 5, false, api.Equal, 0, []int64{2, 0, 7}, api.OK},
		{[]int{0, 1, 2, 3}, 12, false, api.Prop, 0, []int64{12, 0, 0, 8}, api.OK},
		{[]int{0, 1, 2, 3}, 12, true, api.Prop, 0, []int64{0, -4, 0, 0}, api.OK},
		{[]int{0, 1, 2, 3}, 4, true, api.Weight, 1, []int64{5, -2, -3, 4}, api.OK},
		{[]int{4, 5}, 4, false, api.Weight, 0, []int64{4, 1}, api.OK},
		{[]int{0, 1, 2, 3}, 0, false, api.Equal, 0, []int64{6, -2, 0, 4}, api.OK},
		{[]int{0, 1, 2, 3}, 0, true, api.Prop, 0, []int64{6, -2, 0, 4}, api.OK},
		{[]int{2}, 9, true, api.Equal, 0, []int64{-9}, api.OK},
		{[]int{1}, 9, false, api.Prop, 0, []int64{7}, api.OK},
		{[]int{2}, 9, false, api.Weight, 1, []int64{9}, api.OK},
		{[]int{0, 0, 0}, 5, false, api.Equal, 0, []int64{8, 8, 7}, api.OK},
		{[]int{1, 3, 1}, 8, true, api.Prop, 0, []int64{-4, 0, -4}, api.OK},
	}
	for _, r := range rows {
		r.ask(t, b, s)
	}
	asWas(t, b, s, values...)
}

// P16.3: Split's errors: no codes, too many, weights that are 0 altogether, weights whose sum does not fit; also of a far of 0, and ahead of values that do not fit.
func TestSpreadOfNoWeights(t *testing.T) {
	b := bookOf(t, 3, 3)
	s := stateOf(t, b, greatest, least, least, 0, 0, 0, greatest, greatest, 1)
	for _, far := range []uint64{0, 1, 1 << 63, math.MaxUint64} {
		for _, below := range []bool{false, true} {
			rows := []spreadRow{
				{nil, far, below, api.Equal, 0, nil, api.ErrFree},
				{[]int{}, far, below, api.Prop, 0, nil, api.ErrFree},
				{nil, far, below, api.Weight, 1, nil, api.ErrFree},
				{make([]int, api.MaxLeaves+1), far, below, api.Equal, 0, nil, api.ErrSize},
				{make([]int, api.MaxLeaves+1), far, below, api.Weight, 1, nil, api.ErrSize},
				{[]int{3}, far, below, api.Prop, 0, nil, api.ErrZero},
				{[]int{3, 4, 5}, far, below, api.Prop, 0, nil, api.ErrZero},
				{[]int{0, 1, 2}, far, below, api.Weight, 1, nil, api.ErrZero},
				{[]int{1, 2}, far, below, api.Prop, 0, nil, api.ErrOver},
				{[]int{4, 5}, far, below, api.Weight, 0, nil, api.ErrOver},
			}
			for _, r := range rows {
				r.ask(t, b, s)
			}
		}
	}
	// 2^63, 2^63 - 1 and nothing more: the greatest sum that fits.
	spreadRow{[]int{1, 0, 3}, 0, false, api.Prop, 0, []int64{least, greatest, 0}, api.OK}.ask(t, b, s)
}

// P16.3: parts by which a value comes to the ends, or beyond them, at the first, a middle and the last leaf, while the others fit; far up to the greatest.
func TestSpreadOver(t *testing.T) {
	b := bookOf(t, 2, 3)
	high := stateOf(t, b, greatest-1, 0, greatest-2, greatest, 1, 0)
	rows := []spreadRow{
		{[]int{0, 1, 2}, 3, false, api.Equal, 0, []int64{greatest, 1, greatest - 1}, api.OK},
		{[]int{0, 1, 2}, 4, false, api.Equal, 0, nil, api.ErrOver},
		{[]int{1, 0, 2}, 5, false, api.Equal, 0, nil, api.ErrOver},
		{[]int{1, 2, 0}, 6, false, api.Equal, 0, nil, api.ErrOver},
		{[]int{1, 2}, 5, false, api.Equal, 0, []int64{3, greatest}, api.OK},
		{[]int{1, 2}, 6, false, api.Equal, 0, nil, api.ErrOver},
		{[]int{0, 1, 2}, 1 << 62, true, api.Weight, 1, []int64{greatest - 1 - 1<<62, 0, greatest - 2}, api.OK},
		{[]int{1}, 1<<63 - 1, false, api.Equal, 0, []int64{greatest}, api.OK},
		{[]int{1}, 1 << 63, false, api.Equal, 0, nil, api.ErrOver},
		{[]int{1}, 1 << 63, true, api.Equal, 0, []int64{least}, api.OK},
		{[]int{1}, 1<<63 + 1, true, api.Equal, 0, nil, api.ErrOver},
		{[]int{3}, math.MaxUint64, true, api.Equal, 0, []int64{least}, api.OK},
		{[]int{3}, math.MaxUint64, false, api.Equal, 0, nil, api.ErrOver},
		{[]int{1, 5}, math.MaxUint64, true, api.Equal, 0, []int64{least, least + 1}, api.OK},
		{[]int{1, 5}, math.MaxUint64, false, api.Equal, 0, nil, api.ErrOver},
	}
	for _, r := range rows {
		r.ask(t, b, high)
	}
	low := stateOf(t, b, least+1, 0, least+2, least)
	for _, r := range []spreadRow{
		{[]int{0, 1, 2}, 3, true, api.Equal, 0, []int64{least, -1, least + 1}, api.OK},
		{[]int{0, 1, 2}, 4, true, api.Equal, 0, nil, api.ErrOver},
		{[]int{1, 0, 2}, 5, true, api.Equal, 0, nil, api.ErrOver},
		{[]int{1, 2, 0}, 6, true, api.Equal, 0, nil, api.ErrOver},
		{[]int{3}, math.MaxUint64, false, api.Equal, 0, []int64{greatest}, api.OK},
		{[]int{3}, math.MaxUint64, true, api.Equal, 0, nil, api.ErrOver},
	} {
		r.ask(t, b, low)
	}
}

// Rule 4: what is written into an answer is seen by no later one.
func TestOwnMemory(t *testing.T) {
	b := bookOf(t, 1, 3)
	s := stateOf(t, b, 1, 2, 3)
	row := spreadRow{[]int{0, 1, 2}, 6, false, api.Prop, 0, []int64{2, 4, 6}, api.OK}
	row.ask(t, b, s)
	l, _ := basis.Spread(b, s, row.codes, 6, false, api.Prop, 0)
	clear(l)
	row.ask(t, b, s)
	asWas(t, b, s, 1, 2, 3)
}

// weight is that of a leaf, in the words of the chapter.
func weight(values []int64, leaves, code, how, measure int) *big.Int {
	switch how {
	case api.Equal:
		return big.NewInt(1)
	case api.Prop:
		return new(big.Int).Abs(big.NewInt(values[code]))
	}
	return new(big.Int).Abs(big.NewInt(values[measure*leaves+code%leaves]))
}

// P16.2 to P16.5: many states, lists of codes, and ways, against lists of values.
func TestManySpreads(t *testing.T) {
	const measures, leaves = 3, 7
	b := bookOf(t, measures, leaves)
	r := rand.New(rand.NewSource(7))
	for range 2000 {
		values := make([]int64, measures*leaves)
		for i := range values {
			values[i] = int64(r.Uint64()) >> (1 + r.Intn(64))
		}
		s := stateOf(t, b, values...)
		codes := r.Perm(len(values))[:r.Intn(len(values)+1)]
		how, measure := r.Intn(3), r.Intn(measures)
		far, below := r.Uint64()>>r.Intn(64), r.Intn(2) == 0
		var weights []uint64
		for _, code := range codes {
			weights = append(weights, weight(values, leaves, code, how, measure).Uint64())
		}
		w, why := basis.Weights(b, s, codes, how, measure)
		if why != api.OK || !slices.Equal(w, weights) {
			t.Fatalf("Weights = %v, %d; want %v", w, why, weights)
		}
		l, why := basis.Spread(b, s, codes, far, below, how, measure)
		parts, wantWhy := share.Split(far, weights...)
		if wantWhy == api.OK {
			wantWhy = fits(values, codes, parts, below)
		}
		if why != wantWhy || why != api.OK && len(l) != 0 {
			t.Fatalf("Spread = %v, %d; want %d", l, why, wantWhy)
		}
		if why == api.OK {
			askParts(t, values, codes, l, far, below, how)
			for i, v := range l {
				if moved(values, v, below).Cmp(new(big.Int).SetUint64(parts[i])) != 0 {
					t.Fatalf("Spread = %v; want the parts %v", l, parts)
				}
			}
		}
		b.Drop(s)
	}
	if n := b.View().Pages().Arena().Used(); n != 0 {
		t.Error("Used", n)
	}
}

// fits is ErrOver, if one of the values does not fit with its part.
func fits(values []int64, codes []int, parts []uint64, below bool) api.Errno {
	for i, code := range codes {
		part := new(big.Int).SetUint64(parts[i])
		if below {
			part.Neg(part)
		}
		if !part.Add(part, big.NewInt(values[code])).IsInt64() {
			return api.ErrOver
		}
	}
	return api.OK
}

// moved is how far a value is above what it was, or, if below, below it.
func moved(values []int64, v state.Val, below bool) *big.Int {
	d := new(big.Int).Sub(big.NewInt(v.N), big.NewInt(values[v.Code]))
	if below {
		d.Neg(d)
	}
	return d
}

// askParts asks whether all values together change by just far, and, spread Equal, by parts that differ by 1 at most.
func askParts(t *testing.T, values []int64, codes []int, l []state.Val, far uint64, below bool, how int) {
	t.Helper()
	sum := new(big.Int)
	var low, high *big.Int
	for i, v := range l {
		if v.Code != codes[i] {
			t.Fatalf("Spread of %v = %v", codes, l)
		}
		d := moved(values, v, below)
		sum.Add(sum, d)
		if low == nil || d.Cmp(low) < 0 {
			low = d
		}
		if high == nil || d.Cmp(high) > 0 {
			high = d
		}
	}
	if sum.Cmp(new(big.Int).SetUint64(far)) != 0 {
		t.Fatalf("all change by %v; want %d", sum, far)
	}
	if gap := new(big.Int).Sub(high, low); how == api.Equal && gap.Cmp(big.NewInt(1)) > 0 {
		t.Fatalf("parts from %v to %v", low, high)
	}
}

// P16.2, P16.3: as many leaves as there may be.
func TestLimits(t *testing.T) {
	nodes := make([]api.Node, 32)
	for i := range nodes {
		nodes[i] = api.Node{Name: "l" + strconv.Itoa(i), Up: -1}
	}
	b := bookOfDims(t, 1, api.Dim{Name: "x", Nodes: nodes}, api.Dim{Name: "y", Nodes: nodes})
	values := make([]int64, api.MaxLeaves)
	codes := make([]int, api.MaxLeaves)
	for i := range values {
		values[i], codes[i] = int64(i), i
	}
	s := stateOf(t, b, values...)
	for how := range 3 {
		l, why := basis.Spread(b, s, codes, math.MaxUint32, true, how, 0)
		if why != api.OK || len(l) != api.MaxLeaves {
			t.Fatalf("Spread = %v, %d", l, why)
		}
		askParts(t, values, codes, l, math.MaxUint32, true, how)
	}
}

// P6: a book that New did not make has no leaves, and no measures; a state that is not asked for any more makes no call panic.
func TestNothing(t *testing.T) {
	zero := &state.Book{}
	if basis.Right(zero, api.Weight, 0) {
		t.Error("Right of no measures")
	}
	for how := range 3 {
		for _, codes := range [][]int{nil, {0}, {-1}} {
			basis.Weights(zero, state.State{}, codes, how, 0)
			if l, why := basis.Spread(zero, state.State{}, codes, 1, false, how, 0); len(l) != 0 || why == api.OK {
				t.Errorf("Spread = %v, %d", l, why)
			}
		}
	}
	b := bookOf(t, 2, 3)
	s := stateOf(t, b, 1, 2, 3)
	b.Drop(s)
	for how := range 3 {
		basis.Weights(b, s, []int{0, 1}, how, 1)
		basis.Spread(b, s, []int{0, 1}, 1, false, how, 1)
	}
}
