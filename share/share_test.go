package share_test

import (
	"math"
	"math/big"
	"slices"
	"testing"

	"moiety/api"
	"moiety/share"
)

const most = math.MaxUint64

type task struct {
	whole   uint64
	weights []uint64
}

// numbers tells a row of numbers that looks like chance and is always the same.
func numbers(seed uint64) func() uint64 {
	return func() uint64 {
		seed = seed*6364136223846793005 + 1442695040888963407
		return seed ^ seed>>29
	}
}

// small are all wholes to 12 with all lists of 1 to 4 weights to 4 whose sum is not 0.
func small() []task {
	lists := [][]uint64{{}}
	var l []task
	for range 4 {
		var longer [][]uint64
		for _, x := range lists {
			for w := range uint64(5) {
				longer = append(longer, append(slices.Clone(x), w))
			}
		}
		lists = longer
		for _, x := range lists {
			for whole := range uint64(13) {
				if slices.Max(x) > 0 {
					l = append(l, task{whole, x})
				}
			}
		}
	}
	return l
}

// great are tasks whose products need more than 64 bits, and some with many weights.
func great() []task {
	next := numbers(1)
	var l []task
	for i := range 200 {
		n := 1 + i%37
		weights := make([]uint64, n)
		for k := range weights {
			if weights[k] = next() / uint64(n); next()%5 == 0 {
				weights[k] = 0
			}
		}
		weights[i%n] |= 1
		l = append(l, task{next(), weights}, task{most, weights})
	}
	many := make([]uint64, api.MaxLeaves)
	for i := range many {
		many[i] = next() % 100
	}
	many[0]++
	return append(l,
		task{most, []uint64{most}},
		task{most, []uint64{1, most - 1}},
		task{most, []uint64{most - 1, 1}},
		task{most - 1, []uint64{1 << 62, 1 << 62, 1 << 62, 1<<62 - 1}},
		task{most, []uint64{0, 0, 1}},
		task{999, many},
		task{most, many},
	)
}

func tasks() []task { return append(small(), great()...) }

func bigOf(n uint64) *big.Int { return new(big.Int).SetUint64(n) }

func sum(l []uint64) *big.Int {
	all := new(big.Int)
	for _, n := range l {
		all.Add(all, bigOf(n))
	}
	return all
}

// slow is Split as the document words it, a unit at a time, with numbers of any length.
func slow(x task) []uint64 {
	all, left := sum(x.weights), bigOf(x.whole)
	parts := make([]uint64, len(x.weights))
	rests := make([]*big.Int, len(x.weights))
	for i, w := range x.weights {
		product := new(big.Int).Mul(bigOf(x.whole), bigOf(w))
		part, rest := new(big.Int).DivMod(product, all, new(big.Int))
		parts[i], rests[i] = part.Uint64(), rest
		left.Sub(left, part)
	}
	for range left.Uint64() {
		best := 0
		for i := range rests {
			if rests[i].Cmp(rests[best]) > 0 {
				best = i
			}
		}
		parts[best]++
		rests[best] = big.NewInt(-1)
	}
	return parts
}

func split(t *testing.T, x task) []uint64 {
	t.Helper()
	parts, why := share.Split(x.whole, x.weights...)
	if why != api.OK || len(parts) != len(x.weights) {
		t.Fatalf("Split(%d, %v) = %v, %d", x.whole, x.weights, parts, why)
	}
	return parts
}

// P2.1
func TestSplit(t *testing.T) {
	rows := []struct {
		whole         uint64
		weights, want []uint64
	}{
		{10, []uint64{1, 1, 1}, []uint64{4, 3, 3}},
		{7, []uint64{3, 0, 4}, []uint64{3, 0, 4}},
		{5, []uint64{2, 3, 2}, []uint64{2, 2, 1}},
		{7, []uint64{1, 1}, []uint64{4, 3}},
		{12, []uint64{3, 1}, []uint64{9, 3}},
		{0, []uint64{3, 1}, []uint64{0, 0}},
		{1, []uint64{0, 0, 7}, []uint64{0, 0, 1}},
		{5, []uint64{0, 1, 0, 1, 0}, []uint64{0, 3, 0, 2, 0}},
		{2, []uint64{1, 1, 1, 1}, []uint64{1, 1, 0, 0}},
		{1, []uint64{3, 5, 4, 5}, []uint64{0, 1, 0, 0}},
		{3, []uint64{1, 5, 1, 5}, []uint64{1, 1, 0, 1}},
		{most, []uint64{most}, []uint64{most}},
		{most, []uint64{most - 1, 1}, []uint64{most - 1, 1}},
		{most, []uint64{1, 1}, []uint64{1 << 63, 1<<63 - 1}},
	}
	for _, r := range rows {
		if got, why := share.Split(r.whole, r.weights...); why != api.OK || !slices.Equal(got, r.want) {
			t.Errorf("Split(%d, %v) = %v, %d; want %v", r.whole, r.weights, got, why, r.want)
		}
	}
}

// P2.1: of many tasks, small and great.
func TestSplitByTheWords(t *testing.T) {
	for _, x := range tasks() {
		if got, want := split(t, x), slow(x); !slices.Equal(got, want) {
			t.Errorf("Split(%d, %v) = %v; want %v", x.whole, x.weights, got, want)
		}
	}
}

// weightsOf is n weights that are all w.
func weightsOf(n int, w uint64) []uint64 {
	l := make([]uint64, n)
	for i := range l {
		l[i] = w
	}
	return l
}

// P2.1, and P6: of several errors the one that is named first, and no parts beside it.
func TestSplitRefuses(t *testing.T) {
	rows := []struct {
		name    string
		weights []uint64
		err     api.Errno
	}{
		{"none", nil, api.ErrFree},
		{"an empty list", []uint64{}, api.ErrFree},
		{"one too many", weightsOf(api.MaxLeaves+1, 1), api.ErrSize},
		{"one too many, all 0", weightsOf(api.MaxLeaves+1, 0), api.ErrSize},
		{"one too many, beyond 64 bits", weightsOf(api.MaxLeaves+1, most), api.ErrSize},
		{"beyond 64 bits by 1", []uint64{most, 1}, api.ErrOver},
		{"beyond 64 bits, 0 without the carry", []uint64{1 << 63, 1 << 63}, api.ErrOver},
		{"beyond 64 bits, then 0", []uint64{most, most, 0, 0}, api.ErrOver},
		{"as many as may be, beyond 64 bits", weightsOf(api.MaxLeaves, most), api.ErrOver},
		{"one 0", []uint64{0}, api.ErrZero},
		{"as many as may be, all 0", weightsOf(api.MaxLeaves, 0), api.ErrZero},
	}
	for _, r := range rows {
		for _, whole := range []uint64{0, 1, most} {
			if got, why := share.Split(whole, r.weights...); why != r.err || len(got) != 0 {
				t.Errorf("%s: Split of %d = %v, %d; want the error %d", r.name, whole, got, why, r.err)
			}
		}
	}
	if got, why := share.Split(api.MaxLeaves-1, weightsOf(api.MaxLeaves, 1)...); why != api.OK || len(got) != api.MaxLeaves {
		t.Errorf("as many as may be: %d parts, %d", len(got), why)
	}
}

// P2.2
func TestEven(t *testing.T) {
	for _, whole := range []uint64{0, 1, 2, 7, 1000, 1023, 1024, 1025, most - 1, most} {
		for _, n := range []int{1, 2, 3, 7, 1000, api.MaxLeaves} {
			want := split(t, task{whole, weightsOf(n, 1)})
			if got, why := share.Even(whole, n); why != api.OK || !slices.Equal(got, want) {
				t.Errorf("Even(%d, %d) = %v, %d; want %v", whole, n, got, why, want)
			}
		}
	}
	if got, why := share.Even(8, 3); why != api.OK || !slices.Equal(got, []uint64{3, 3, 2}) {
		t.Errorf("Even(8, 3) = %v, %d", got, why)
	}
}

// P2.2, P6
func TestEvenRefuses(t *testing.T) {
	rows := []struct {
		n   int
		err api.Errno
	}{
		{0, api.ErrFree}, {-1, api.ErrFree}, {math.MinInt, api.ErrFree},
		{api.MaxLeaves + 1, api.ErrSize}, {math.MaxInt32, api.ErrSize}, {math.MaxInt, api.ErrSize},
	}
	for _, r := range rows {
		for _, whole := range []uint64{0, 7, most} {
			if got, why := share.Even(whole, r.n); why != r.err || len(got) != 0 {
				t.Errorf("Even(%d, %d) = %v, %d; want the error %d", whole, r.n, got, why, r.err)
			}
		}
	}
}

// P2.2
func TestCheck(t *testing.T) {
	for _, x := range tasks() {
		parts := split(t, x)
		if !share.Check(x.whole, x.weights, parts) {
			t.Errorf("Check(%d, %v, %v) = false", x.whole, x.weights, parts)
		}
		for i := range parts {
			wrong := slices.Clone(parts)
			wrong[i]++
			if share.Check(x.whole, x.weights, wrong) {
				t.Errorf("Check(%d, %v, %v) = true", x.whole, x.weights, wrong)
			}
		}
	}
}

// P2.2: parts that are too few, too many, in another order, or of weights that Split refuses.
func TestCheckOfWrongLists(t *testing.T) {
	rows := []struct {
		whole          uint64
		weights, parts []uint64
		want           bool
	}{
		{10, []uint64{1, 1, 1}, []uint64{4, 3, 3}, true},
		{10, []uint64{1, 1, 1}, []uint64{3, 4, 3}, false},
		{10, []uint64{1, 1, 1}, []uint64{4, 3}, false},
		{10, []uint64{1, 1, 1}, []uint64{4, 3, 3, 0}, false},
		{10, []uint64{1, 1, 1}, nil, false},
		{0, []uint64{1}, nil, false},
		{0, nil, nil, false},
		{0, []uint64{}, []uint64{}, false},
		{0, []uint64{0}, []uint64{0}, false},
		{0, []uint64{0}, nil, false},
		{1, []uint64{most, 1}, []uint64{1, 0}, false},
		{1, []uint64{most, 1}, nil, false},
		{1, weightsOf(api.MaxLeaves+1, 1), nil, false},
		{0, weightsOf(api.MaxLeaves+1, 1), weightsOf(api.MaxLeaves+1, 0), false},
	}
	for i, r := range rows {
		if share.Check(r.whole, r.weights, r.parts) != r.want {
			t.Errorf("row %d: Check is not %v", i, r.want)
		}
	}
}

// P2.3
func TestPartsAreTheWhole(t *testing.T) {
	for _, x := range tasks() {
		if parts := split(t, x); sum(parts).Cmp(bigOf(x.whole)) != 0 {
			t.Errorf("Split(%d, %v) = %v: %v in all", x.whole, x.weights, parts, sum(parts))
		}
	}
}

// P2.4: part times the sum and whole times the weight differ by less than the sum.
func TestPartsAreNearTheirQuotas(t *testing.T) {
	for _, x := range tasks() {
		all := sum(x.weights)
		for i, part := range split(t, x) {
			off := new(big.Int).Mul(bigOf(part), all)
			off.Sub(off, new(big.Int).Mul(bigOf(x.whole), bigOf(x.weights[i])))
			if off.CmpAbs(all) >= 0 {
				t.Errorf("Split(%d, %v): part %d is %d, which is 1 or more from its quota", x.whole, x.weights, i, part)
			}
			if x.weights[i] == 0 && part != 0 {
				t.Errorf("Split(%d, %v): part %d is %d, and its weight is 0", x.whole, x.weights, i, part)
			}
		}
	}
}

// P2.5
func TestAlikeWeights(t *testing.T) {
	for _, x := range tasks() {
		first := map[uint64]uint64{}
		last := map[uint64]uint64{}
		for i, part := range split(t, x) {
			w := x.weights[i]
			if _, seen := first[w]; !seen {
				first[w], last[w] = part, part
			}
			if part > last[w] || first[w]-part > 1 {
				t.Errorf("Split(%d, %v): part %d is %d, that of the first of its weight %d", x.whole, x.weights, i, part, first[w])
			}
			last[w] = part
		}
	}
}

// P2.6
func TestTwiceTheWeights(t *testing.T) {
	for _, x := range tasks() {
		twice := make([]uint64, len(x.weights))
		for i, w := range x.weights {
			twice[i] = w * 2
		}
		if !new(big.Int).Lsh(sum(x.weights), 1).IsUint64() {
			continue
		}
		if got, want := split(t, task{x.whole, twice}), split(t, x); !slices.Equal(got, want) {
			t.Errorf("Split(%d, %v) = %v; of half the weights %v", x.whole, twice, got, want)
		}
	}
}

// Rule 4: weights stay as they are, and no answer shares memory with them or with another answer.
func TestListsAreApart(t *testing.T) {
	weights := []uint64{2, 3, 2}
	one := split(t, task{5, weights})
	if !share.Check(5, weights, one) || !slices.Equal(weights, []uint64{2, 3, 2}) {
		t.Error("weights are changed to", weights)
	}
	one[0] = 99
	_ = append(one[:1], 98)
	if !slices.Equal(weights, []uint64{2, 3, 2}) {
		t.Error("writing into parts changed the weights to", weights)
	}
	if two := split(t, task{5, weights}); !slices.Equal(two, []uint64{2, 2, 1}) {
		t.Error("the second time", two)
	}
}
