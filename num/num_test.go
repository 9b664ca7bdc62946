package num_test

import (
	"math"
	"math/big"
	"testing"

	"moiety/api"
	"moiety/num"
)

const (
	low  = math.MinInt64
	top  = math.MaxInt64
	most = math.MaxUint64
)

// edges are numbers at which sums and differences begin not to fit.
func edges() []int64 {
	return []int64{
		low, low + 1, low + 2, low / 2, low/2 - 1, low/2 + 1, -1 << 32, -1<<32 - 1, -10, -2, -1,
		0, 1, 2, 10, 1<<32 - 1, 1 << 32, top / 2, top/2 + 1, top/2 + 2, top - 2, top - 1, top,
	}
}

// unsigned are numbers without a sign at which products and quotients begin not to fit.
func unsigned() []uint64 {
	return []uint64{
		0, 1, 2, 3, 7, 10, 1<<31 - 1, 1 << 32, 1<<32 + 1, 1 << 62, 1<<63 - 1, 1 << 63, 1<<63 + 1, most - 2, most - 1, most,
	}
}

func bigOf(n int64) *big.Int { return big.NewInt(n) }

func bigOfU(n uint64) *big.Int { return new(big.Int).SetUint64(n) }

// bigOfWide is Hi times 2^64, plus Lo.
func bigOfWide(w num.Wide) *big.Int {
	n := new(big.Int).Lsh(bigOf(w.Hi), 64)
	return n.Add(n, bigOfU(w.Lo))
}

// wideOf is n modulo 2^128.
func wideOf(n *big.Int) num.Wide {
	two64 := new(big.Int).Lsh(bigOf(1), 64)
	hi, lo := new(big.Int).DivMod(n, two64, new(big.Int))
	hi.Mod(hi, two64)
	return num.Wide{Hi: int64(hi.Uint64()), Lo: lo.Uint64()}
}

// narrow is what a call must answer whose exact answer is n.
func narrow(n *big.Int) (int64, api.Errno) {
	if !n.IsInt64() {
		return 0, api.ErrOver
	}
	return n.Int64(), api.OK
}

func check(t *testing.T, exact *big.Int, got int64, why api.Errno, call string, args ...any) {
	t.Helper()
	want, err := narrow(exact)
	if got != want || why != err {
		t.Errorf("%s%v = %d, %d; want %d, %d", call, args, got, why, want, err)
	}
}

// P1.1
func TestAddSubNeg(t *testing.T) {
	for _, a := range edges() {
		for _, b := range edges() {
			n, why := num.Add(a, b)
			check(t, new(big.Int).Add(bigOf(a), bigOf(b)), n, why, "Add", a, b)
			n, why = num.Sub(a, b)
			check(t, new(big.Int).Sub(bigOf(a), bigOf(b)), n, why, "Sub", a, b)
		}
		n, why := num.Neg(a)
		check(t, new(big.Int).Neg(bigOf(a)), n, why, "Neg", a)
	}
}

// P1.1: what is told at the very edges, written out.
func TestAddSubNegWrittenOut(t *testing.T) {
	rows := []struct {
		name string
		call func() (int64, api.Errno)
		want int64
		err  api.Errno
	}{
		{"2+3", func() (int64, api.Errno) { return num.Add(2, 3) }, 5, api.OK},
		{"top+1", func() (int64, api.Errno) { return num.Add(top, 1) }, 0, api.ErrOver},
		{"low-1 by Add", func() (int64, api.Errno) { return num.Add(low, -1) }, 0, api.ErrOver},
		{"low+low", func() (int64, api.Errno) { return num.Add(low, low) }, 0, api.ErrOver},
		{"top+low", func() (int64, api.Errno) { return num.Add(top, low) }, -1, api.OK},
		{"2-3", func() (int64, api.Errno) { return num.Sub(2, 3) }, -1, api.OK},
		{"low-1", func() (int64, api.Errno) { return num.Sub(low, 1) }, 0, api.ErrOver},
		{"0-low", func() (int64, api.Errno) { return num.Sub(0, low) }, 0, api.ErrOver},
		{"-1-low", func() (int64, api.Errno) { return num.Sub(-1, low) }, top, api.OK},
		{"low-low", func() (int64, api.Errno) { return num.Sub(low, low) }, 0, api.OK},
		{"-(5)", func() (int64, api.Errno) { return num.Neg(5) }, -5, api.OK},
		{"-(0)", func() (int64, api.Errno) { return num.Neg(0) }, 0, api.OK},
		{"-(top)", func() (int64, api.Errno) { return num.Neg(top) }, -top, api.OK},
		{"-(low)", func() (int64, api.Errno) { return num.Neg(low) }, 0, api.ErrOver},
	}
	for _, r := range rows {
		if n, why := r.call(); n != r.want || why != r.err {
			t.Errorf("%s = %d, %d; want %d, %d", r.name, n, why, r.want, r.err)
		}
	}
}

// P1.2, P1.5
func TestDiff(t *testing.T) {
	for _, a := range edges() {
		for _, b := range edges() {
			far, below := num.Diff(a, b)
			d := new(big.Int).Sub(bigOf(a), bigOf(b))
			if below != (d.Sign() < 0) || bigOfU(far).Cmp(new(big.Int).Abs(d)) != 0 {
				t.Errorf("Diff(%d, %d) = %d, %v", a, b, far, below)
			}
			if n, why := num.Off(b, far, below); n != a || why != api.OK {
				t.Errorf("Off(%d, %d, %v) = %d, %d; Diff told %d", b, far, below, n, why, a)
			}
		}
	}
	if far, below := num.Diff(top, low); far != most || below {
		t.Errorf("Diff(top, low) = %d, %v", far, below)
	}
	if far, below := num.Diff(7, 7); far != 0 || below {
		t.Errorf("Diff(7, 7) = %d, %v", far, below)
	}
}

// P1.2
func TestOff(t *testing.T) {
	for _, a := range edges() {
		for _, far := range unsigned() {
			n, why := num.Off(a, far, false)
			check(t, new(big.Int).Add(bigOf(a), bigOfU(far)), n, why, "Off", a, far, false)
			n, why = num.Off(a, far, true)
			check(t, new(big.Int).Sub(bigOf(a), bigOfU(far)), n, why, "Off", a, far, true)
		}
	}
	rows := []struct {
		a     int64
		far   uint64
		below bool
		want  int64
		err   api.Errno
	}{
		{5, 3, false, 8, api.OK},
		{5, 3, true, 2, api.OK},
		{low, most, false, top, api.OK},
		{low + 1, most, false, 0, api.ErrOver},
		{top, most, true, low, api.OK},
		{top - 1, most, true, 0, api.ErrOver},
		{top, 0, false, top, api.OK},
		{top, 1, false, 0, api.ErrOver},
		{low, 0, true, low, api.OK},
		{low, 1, true, 0, api.ErrOver},
		{0, 1 << 63, true, low, api.OK},
		{0, 1 << 63, false, 0, api.ErrOver},
	}
	for _, r := range rows {
		if n, why := num.Off(r.a, r.far, r.below); n != r.want || why != r.err {
			t.Errorf("Off(%d, %d, %v) = %d, %d; want %d, %d", r.a, r.far, r.below, n, why, r.want, r.err)
		}
	}
}

// wides are wide numbers at which the halves, or the whole, begin to carry.
func wides() []num.Wide {
	var l []num.Wide
	for _, hi := range []int64{low, -2, -1, 0, 1, top} {
		for _, lo := range []uint64{0, 1, 1<<63 - 1, 1 << 63, most - 1, most} {
			l = append(l, num.Wide{Hi: hi, Lo: lo})
		}
	}
	return l
}

// P1.3
func TestMore(t *testing.T) {
	for _, w := range wides() {
		if got := num.More(w); got != w {
			t.Errorf("More(%v) = %v", w, got)
		}
		for _, a := range edges() {
			sum := new(big.Int).Add(bigOfWide(w), bigOf(a))
			if got := num.More(w, a); got != wideOf(sum) {
				t.Errorf("More(%v, %d) = %v; want %v", w, a, got, wideOf(sum))
			}
			for _, b := range []int64{low, -1, 1, top} {
				both := new(big.Int).Add(sum, bigOf(b))
				if got := num.More(w, a, b); got != wideOf(both) {
					t.Errorf("More(%v, %d, %d) = %v; want %v", w, a, b, got, wideOf(both))
				}
			}
		}
	}
	if got := num.More(num.Wide{Hi: top, Lo: most}, 1); got != (num.Wide{Hi: low}) {
		t.Errorf("2^127 - 1 and 1 are %v", got)
	}
	if got := num.More(num.Wide{Hi: low}, -1); got != (num.Wide{Hi: top, Lo: most}) {
		t.Errorf("-2^127 and -1 are %v", got)
	}
}

// P1.3
func TestFits(t *testing.T) {
	for _, w := range wides() {
		n, why := num.Fits(w)
		check(t, bigOfWide(w), n, why, "Fits", w)
	}
	rows := []struct {
		w    num.Wide
		want int64
		err  api.Errno
	}{
		{num.Wide{Lo: top}, top, api.OK},
		{num.Wide{Lo: top + 1}, 0, api.ErrOver},
		{num.Wide{Hi: -1, Lo: 1 << 63}, low, api.OK},
		{num.Wide{Hi: -1, Lo: 1<<63 - 1}, 0, api.ErrOver},
		{num.Wide{Hi: -1, Lo: most}, -1, api.OK},
		{num.Wide{Hi: 1}, 0, api.ErrOver},
	}
	for _, r := range rows {
		if n, why := num.Fits(r.w); n != r.want || why != r.err {
			t.Errorf("Fits(%v) = %d, %d; want %d, %d", r.w, n, why, r.want, r.err)
		}
	}
}

// P1.3
func TestSum(t *testing.T) {
	rows := []struct {
		l    []int64
		want int64
		err  api.Errno
	}{
		{nil, 0, api.OK},
		{[]int64{}, 0, api.OK},
		{[]int64{low}, low, api.OK},
		{[]int64{1, 2, 3, -10}, -4, api.OK},
		{[]int64{top, 1, -1}, top, api.OK},
		{[]int64{low, -1, 1}, low, api.OK},
		{[]int64{top, top, top, low, low, low}, -3, api.OK},
		{[]int64{top, 1}, 0, api.ErrOver},
		{[]int64{low, -1}, 0, api.ErrOver},
		{[]int64{low, low}, 0, api.ErrOver},
		{[]int64{top, top, 2}, 0, api.ErrOver},
	}
	for _, r := range rows {
		if n, why := num.Sum(r.l...); n != r.want || why != r.err {
			t.Errorf("Sum%v = %d, %d; want %d, %d", r.l, n, why, r.want, r.err)
		}
	}
}

// P1.3: of many, which together go far beyond 64 bits and come back.
func TestSumOfMany(t *testing.T) {
	var l []int64
	for range 5000 {
		l = append(l, top)
	}
	for range 5000 {
		l = append(l, -top)
	}
	if n, why := num.Sum(append(l, 42)...); n != 42 || why != api.OK {
		t.Errorf("Sum = %d, %d; want 42, 0", n, why)
	}
	if n, why := num.Sum(l[:5000]...); n != 0 || why != api.ErrOver {
		t.Errorf("Sum = %d, %d; want 0, ErrOver", n, why)
	}
}

// P1.3, P1.6
func TestSumInAnyOrder(t *testing.T) {
	for _, a := range edges() {
		for _, b := range edges() {
			for _, c := range edges() {
				exact := new(big.Int).Add(bigOf(a), bigOf(b))
				exact.Add(exact, bigOf(c))
				for _, l := range [][]int64{{a, b, c}, {a, c, b}, {b, a, c}, {b, c, a}, {c, a, b}, {c, b, a}} {
					n, why := num.Sum(l...)
					check(t, exact, n, why, "Sum", l)
				}
			}
		}
	}
}

// Rule 4: a list that is handed in is not changed.
func TestListsStay(t *testing.T) {
	l := []int64{top, 1, -1}
	num.Sum(l...)
	num.More(num.Wide{Hi: 1}, l...)
	if l[0] != top || l[1] != 1 || l[2] != -1 {
		t.Error("changed to", l)
	}
}

// P1.4, P1.7
func TestMulDiv(t *testing.T) {
	for _, a := range unsigned() {
		for _, b := range unsigned() {
			product := new(big.Int).Mul(bigOfU(a), bigOfU(b))
			for _, c := range unsigned() {
				if c > 0 {
					checkMulDiv(t, product, a, b, c)
				}
			}
			if q, r, why := num.MulDiv(a, b, 0); q != 0 || r != 0 || why != api.ErrZero {
				t.Errorf("MulDiv(%d, %d, 0) = %d, %d, %d", a, b, q, r, why)
			}
		}
	}
}

func checkMulDiv(t *testing.T, product *big.Int, a, b, c uint64) {
	t.Helper()
	q, r, why := num.MulDiv(a, b, c)
	exact := new(big.Int).Div(product, bigOfU(c))
	if !exact.IsUint64() {
		if q != 0 || r != 0 || why != api.ErrOver {
			t.Errorf("MulDiv(%d, %d, %d) = %d, %d, %d; want ErrOver", a, b, c, q, r, why)
		}
		return
	}
	if why != api.OK || q != exact.Uint64() || r >= c {
		t.Errorf("MulDiv(%d, %d, %d) = %d, %d, %d; want the quotient %v", a, b, c, q, r, why, exact)
	}
	back := new(big.Int).Mul(bigOfU(q), bigOfU(c))
	if back.Add(back, bigOfU(r)).Cmp(product) != 0 {
		t.Errorf("MulDiv(%d, %d, %d) = %d, %d, which lead back to %v", a, b, c, q, r, back)
	}
}

// P1.4: examples, and the edges written out.
func TestMulDivWrittenOut(t *testing.T) {
	rows := []struct {
		a, b, c, q, r uint64
		err           api.Errno
	}{
		{10, 10, 7, 14, 2, api.OK},
		{0, 0, 1, 0, 0, api.OK},
		{0, 0, 0, 0, 0, api.ErrZero},
		{most, most, 0, 0, 0, api.ErrZero},
		{most, 1, 1, most, 0, api.OK},
		{most, most, most, most, 0, api.OK},
		{most, most, most - 1, 0, 0, api.ErrOver},
		{most - 1, most, most, most - 1, 0, api.OK},
		{most - 1, most - 1, most, most - 2, 1, api.OK},
		{1 << 63, 2, 1, 0, 0, api.ErrOver},
		{1 << 63, 2, 2, 1 << 63, 0, api.OK},
		{3, 5, most, 0, 15, api.OK},
	}
	for _, x := range rows {
		if q, r, why := num.MulDiv(x.a, x.b, x.c); q != x.q || r != x.r || why != x.err {
			t.Errorf("MulDiv(%d, %d, %d) = %d, %d, %d; want %d, %d, %d", x.a, x.b, x.c, q, r, why, x.q, x.r, x.err)
		}
	}
}
