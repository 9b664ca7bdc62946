package wire_test

import (
	"bytes"
	"math"
	"math/big"
	"slices"
	"strings"
	"testing"

	"moiety/api"
	"moiety/wire"
)

const (
	low = math.MinInt64
	top = math.MaxInt64
)

// edges are the numbers at which a byte more is needed, on both sides of 0, and the ends.
func edges() []int64 {
	l := []int64{0, 1, -1, 2, -2, 300, -300, low, low + 1, top, top - 1}
	for bits := 6; bits < 63; bits += 7 {
		n := int64(1) << bits
		l = append(l, n-1, n, n+1, -n-1, -n, -n+1)
	}
	return l
}

// bytesOf are n's bytes as the chapter tells them, with numbers of any length.
func bytesOf(n int64) []byte {
	u := new(big.Int).Mul(big.NewInt(2), big.NewInt(n))
	if n < 0 {
		u.Neg(u).Sub(u, big.NewInt(1))
	}
	var b []byte
	for {
		low := new(big.Int)
		u.DivMod(u, big.NewInt(128), low)
		if u.Sign() == 0 {
			return append(b, byte(low.Int64()))
		}
		b = append(b, byte(low.Int64()+128))
	}
}

// roomy is a copy of b with room behind it, that holds what must not be written over.
func roomy(b []byte) []byte {
	whole := append(slices.Clone(b), bytes.Repeat([]byte{'#'}, 40)...)
	return whole[:len(b)]
}

// P4.1
func TestPut(t *testing.T) {
	for _, n := range edges() {
		want := bytesOf(n)
		for _, b := range [][]byte{nil, {}, {0}, {128}, []byte("abc")} {
			if got := wire.Put(b, n); !bytes.Equal(got, append(slices.Clone(b), want...)) {
				t.Errorf("Put(%x, %d) = %x; want %x behind", b, n, got, want)
			}
		}
	}
}

// P4.1: examples, and the edges written out.
func TestPutWrittenOut(t *testing.T) {
	rows := []struct {
		n    int64
		want string
	}{
		{0, "\x00"}, {-1, "\x01"}, {1, "\x02"}, {-2, "\x03"}, {63, "\x7e"}, {-64, "\x7f"}, {64, "\x80\x01"}, {-65, "\x81\x01"},
		{300, "\xd8\x04"}, {8191, "\xfe\x7f"}, {-8192, "\xff\x7f"}, {8192, "\x80\x80\x01"},
		{top, "\xfe\xff\xff\xff\xff\xff\xff\xff\xff\x01"}, {low, "\xff\xff\xff\xff\xff\xff\xff\xff\xff\x01"},
	}
	for _, r := range rows {
		if got := wire.Put(nil, r.n); string(got) != r.want {
			t.Errorf("Put(nil, %d) = %x; want %x", r.n, got, r.want)
		}
	}
}

// P4.1
func TestTextPut(t *testing.T) {
	for _, s := range []string{"", "a", "hello", "\x00\xff", "é", strings.Repeat("x", 63), strings.Repeat("x", 64), strings.Repeat("\x80", api.MaxText), strings.Repeat("x", api.MaxText+1)} {
		want := append(bytesOf(int64(len(s))), s...)
		if got := wire.Text(nil, s); !bytes.Equal(got, want) {
			t.Errorf("Text of %d bytes = %x", len(s), got)
		}
		if got := wire.Text([]byte("ab"), s); !bytes.Equal(got, append([]byte("ab"), want...)) {
			t.Errorf("Text of %d bytes behind ab = %x", len(s), got)
		}
	}
	if got := wire.Text(nil, "ab"); string(got) != "\x04ab" {
		t.Errorf("Text(nil, ab) = %x", got)
	}
}

// P4.1
func TestAll(t *testing.T) {
	if got := wire.All(); len(got) != 0 {
		t.Errorf("All() = %x", got)
	}
	var want []byte
	for _, n := range edges() {
		want = append(want, bytesOf(n)...)
	}
	l := edges()
	if got := wire.All(l...); !bytes.Equal(got, want) {
		t.Errorf("All = %x; want %x", got, want)
	}
	if !slices.Equal(l, edges()) {
		t.Error("All changed its list")
	}
	if got := wire.All(5, -5, 64); string(got) != "\x0a\x09\x80\x01" {
		t.Errorf("All(5, -5, 64) = %x", got)
	}
}

// P4.1, rules 4 and 5: what is put lies in memory of its own, also where there is room behind b.
func TestPutIsAlone(t *testing.T) {
	puts := map[string]func([]byte) []byte{
		"Put":      func(b []byte) []byte { return wire.Put(b, 300) },
		"Text":     func(b []byte) []byte { return wire.Text(b, "xyz") },
		"no bytes": func(b []byte) []byte { return wire.Text(b, "") },
	}
	for name, put := range puts {
		for _, front := range []string{"", "abc"} {
			b := roomy([]byte(front))
			got := put(b)
			want := string(got)
			if room := string(b[len(b) : len(b)+40]); string(b) != front || room != strings.Repeat("#", 40) {
				t.Errorf("%s wrote into %q, or behind it: %q", name, b, room)
			}
			put(b)
			for i := range cap(b) {
				b[:cap(b)][i] = '!'
			}
			if string(got) != want {
				t.Errorf("%s = %q, and %q when b was written into", name, want, got)
			}
			for i := range got {
				got[i] = '?'
			}
			if strings.Contains(string(b[:cap(b)]), "?") {
				t.Errorf("what is written into the answer of %s is seen in b", name)
			}
		}
	}
}

// P4.1, rule 4: two that were put behind one do not write over each other.
func TestPutTwiceBehindOne(t *testing.T) {
	b := wire.All(1, 2, 3)
	x, y := wire.Put(b, 7), wire.Put(b, -7)
	s, u := wire.Text(x, "left"), wire.Text(x, "other")
	if string(x) != "\x02\x04\x06\x0e" || string(y) != "\x02\x04\x06\x0d" || string(s) != "\x02\x04\x06\x0e\x08left" || string(u) != "\x02\x04\x06\x0e\x0aother" {
		t.Errorf("%x %x %x %x", x, y, s, u)
	}
}

// wanted holds a reader against what must be left, and why.
func wanted(t *testing.T, r *wire.Reader, left int, why api.Errno, what string) {
	t.Helper()
	if r.Left() != left || r.Why() != why {
		t.Errorf("%s: Left %d, Why %d; want %d, %d", what, r.Left(), r.Why(), left, why)
	}
}

// P4.2, P4.3, P4.4
func TestNum(t *testing.T) {
	for _, n := range edges() {
		for _, behind := range []string{"", "\x00", "\x01x", "\x80", "\xff\xff\xff\xff\xff\xff\xff\xff\xff\xff\xff\xff"} {
			b := append(wire.Put(nil, n), behind...)
			r := wire.New(b)
			wanted(t, r, len(b), api.OK, "new")
			if got := r.Num(); got != n {
				t.Errorf("Num of %x = %d; want %d", b, got, n)
			}
			wanted(t, r, len(behind), api.OK, "Num")
		}
	}
}

// P4.2, P4.5: bytes without the last one, or without more of them, end too early.
func TestNumOfTooFew(t *testing.T) {
	for _, n := range edges() {
		b := wire.Put(nil, n)
		for short := range len(b) {
			r := wire.New(b[:short])
			if got := r.Num(); got != 0 {
				t.Errorf("Num of %x = %d", b[:short], got)
			}
			wanted(t, r, short, api.ErrShort, "cut off")
		}
	}
}

// P4.2, P4.3
func TestNumOfNoNumber(t *testing.T) {
	nine := strings.Repeat("\xff", 9)
	zeros := strings.Repeat("\x80", 9)
	rows := []struct {
		b   string
		why api.Errno
	}{
		{"", api.ErrShort},
		{"\x80", api.ErrShort},
		{"\xff", api.ErrShort},
		{nine, api.ErrShort},
		{zeros, api.ErrShort},
		{"\x80\x00", api.ErrForm},
		{"\xff\x00", api.ErrForm},
		{"\x80\x80\x00", api.ErrForm},
		{"\x80\x80\x00\x01\x02", api.ErrForm},
		{nine + "\x00", api.ErrForm},
		{zeros + "\x00", api.ErrForm},
		{nine + "\x02", api.ErrForm},
		{zeros + "\x02", api.ErrForm},
		{nine + "\x03", api.ErrForm},
		{zeros + "\x7f", api.ErrForm},
		{nine + "\x81\x00", api.ErrForm},
		{nine + "\x81\x01", api.ErrForm},
		{zeros + "\x80\x01", api.ErrForm},
		{zeros + zeros + zeros + "\x01", api.ErrForm},
		{nine + nine + "\x00", api.ErrForm},
		// Of several errors the one named first: there is no end at all.
		{nine + "\xff", api.ErrShort},
		{nine + "\x80", api.ErrShort},
		{nine + nine + nine, api.ErrShort},
		{strings.Repeat("\x80", 5000), api.ErrShort},
	}
	for _, x := range rows {
		r := wire.New([]byte(x.b))
		if n := r.Num(); n != 0 {
			t.Errorf("Num of %x = %d", x.b, n)
		}
		wanted(t, r, len(x.b), x.why, "no number")
		// With a fault nothing more is read.
		if n, s, c := r.Num(), r.Text(), r.Count(top); n != 0 || s != "" || c != 0 {
			t.Errorf("behind a fault: %d %q %d", n, s, c)
		}
		wanted(t, r, len(x.b), x.why, "behind a fault")
	}
}

// P4.2: the greatest tenth byte that is of a number is 1.
func TestNumOfTenBytes(t *testing.T) {
	for last := range 128 {
		b := append(bytes.Repeat([]byte{0x80}, 9), byte(last))
		want, why := int64(0), api.ErrForm
		if last == 1 {
			want, why = 1<<62, api.OK
		}
		r := wire.New(b)
		if n := r.Num(); n != want || r.Why() != why {
			t.Errorf("Num of %x = %d, %d; want %d, %d", b, n, r.Why(), want, why)
		}
	}
}

// P4.2: of all bytes up to 3 of these either a number's, that are put again as they were, or a fault.
func TestNumOfAllShortOnes(t *testing.T) {
	some := []byte{0x00, 0x01, 0x02, 0x7f, 0x80, 0x81, 0xff}
	all := [][]byte{nil}
	for at := 0; len(all[at]) < 3; at++ {
		for _, c := range some {
			all = append(all, append(slices.Clone(all[at]), c))
		}
	}
	for _, b := range all {
		r := wire.New(b)
		n := r.Num()
		size := slices.IndexFunc(b, func(c byte) bool { return c < 128 }) + 1
		switch {
		case size == 0:
			wanted(t, r, len(b), api.ErrShort, "no end")
		case size > 1 && b[size-1] == 0:
			wanted(t, r, len(b), api.ErrForm, "more than needed")
		default:
			wanted(t, r, len(b)-size, api.OK, "a number")
			if !bytes.Equal(wire.Put(nil, n), b[:size]) {
				t.Errorf("Num of %x = %d", b, n)
			}
		}
	}
}

// P4.2, P4.3, P4.4
func TestTextRead(t *testing.T) {
	for _, s := range []string{"", "a", "hello", "\x00\xff", "é\n", strings.Repeat("x", 64), strings.Repeat("\x80", api.MaxText-1), strings.Repeat("y", api.MaxText)} {
		for _, behind := range []string{"", "x", "\x00", "\xff\xff"} {
			b := append(wire.Text(nil, s), behind...)
			r := wire.New(b)
			if got := r.Text(); got != s {
				t.Errorf("Text of %d bytes = %q", len(s), got)
			}
			wanted(t, r, len(behind), api.OK, "Text")
		}
	}
}

// P4.2, P4.3, P4.5: a text that ends too early leaves its number unread, too.
func TestTextOfTooFew(t *testing.T) {
	for _, s := range []string{"", "a", "hello", strings.Repeat("x", 100)} {
		b := wire.Text(nil, s)
		for short := range len(b) {
			r := wire.New(b[:short])
			if got := r.Text(); got != "" {
				t.Errorf("Text of %x = %q", b[:short], got)
			}
			wanted(t, r, short, api.ErrShort, "cut off")
		}
	}
	r := wire.New(append(wire.All(9), wire.Text(nil, "ab")[:2]...))
	if n, s := r.Num(), r.Text(); n != 9 || s != "" {
		t.Errorf("%d %q", n, s)
	}
	wanted(t, r, 2, api.ErrShort, "behind a number")
}

// P4.2, P4.3
func TestTextOfNoLength(t *testing.T) {
	rows := []struct {
		b   []byte
		why api.Errno
	}{
		{nil, api.ErrShort},
		{[]byte{0x80}, api.ErrShort},
		{[]byte{0x80, 0x00}, api.ErrForm},
		{append(bytes.Repeat([]byte{0xff}, 9), 2), api.ErrForm},
		{wire.All(-1), api.ErrSize},
		{wire.All(-2, 3), api.ErrSize},
		{wire.All(low), api.ErrSize},
		{wire.All(top), api.ErrSize},
		{wire.All(api.MaxText + 1), api.ErrSize},
		{append(wire.All(api.MaxText+1), bytes.Repeat([]byte{'x'}, api.MaxText+1)...), api.ErrSize},
		{wire.All(api.MaxText), api.ErrShort},
		{append(wire.All(api.MaxText), bytes.Repeat([]byte{'x'}, api.MaxText-1)...), api.ErrShort},
	}
	for _, x := range rows {
		r := wire.New(x.b)
		if s := r.Text(); s != "" {
			t.Errorf("Text = %q", s)
		}
		wanted(t, r, len(x.b), x.why, "no text")
		if n, s, c := r.Num(), r.Text(), r.Count(top); n != 0 || s != "" || c != 0 {
			t.Errorf("behind a fault: %d %q %d", n, s, c)
		}
	}
}

// P4.2, P4.3
func TestCount(t *testing.T) {
	rows := []struct {
		n    int64
		most int
		want int
		why  api.Errno
	}{
		{0, 0, 0, api.OK},
		{0, 7, 0, api.OK},
		{7, 7, 7, api.OK},
		{6, 7, 6, api.OK},
		{8, 7, 0, api.ErrSize},
		{1, 0, 0, api.ErrSize},
		{-1, 7, 0, api.ErrSize},
		{low, top, 0, api.ErrSize},
		{top, top, top, api.OK},
		{top, top - 1, 0, api.ErrSize},
		{0, -1, 0, api.ErrSize},
		{-1, -1, 0, api.ErrSize},
		{low, low, 0, api.ErrSize},
		{1, low, 0, api.ErrSize},
	}
	for _, x := range rows {
		b := wire.All(x.n, 5)
		left := 1
		if x.why != api.OK {
			left = len(b)
		}
		r := wire.New(b)
		if got := r.Count(x.most); got != x.want {
			t.Errorf("Count(%d) of %d = %d; want %d", x.most, x.n, got, x.want)
		}
		wanted(t, r, left, x.why, "Count")
	}
}

// P4.2: the faults of Num are named ahead of ErrSize.
func TestCountOfNoNumber(t *testing.T) {
	for _, most := range []int{low, -1, 0, 5, top} {
		for b, why := range map[string]api.Errno{"": api.ErrShort, "\x80": api.ErrShort, "\x80\x00": api.ErrForm} {
			r := wire.New([]byte(b))
			if n := r.Count(most); n != 0 {
				t.Errorf("Count(%d) = %d", most, n)
			}
			wanted(t, r, len(b), why, "Count of no number")
		}
	}
}

// P4.3
func TestFail(t *testing.T) {
	r := wire.New(wire.All(1, 2, 3))
	r.Fail(api.OK)
	if n := r.Num(); n != 1 {
		t.Errorf("Num = %d", n)
	}
	r.Fail(api.ErrTwice)
	wanted(t, r, 2, api.ErrTwice, "Fail")
	for _, why := range []api.Errno{api.ErrLoop, api.OK, api.ErrNil, -1} {
		r.Fail(why)
		wanted(t, r, 2, api.ErrTwice, "a second Fail")
	}
	if n, s, c := r.Num(), r.Text(), r.Count(5); n != 0 || s != "" || c != 0 {
		t.Errorf("behind Fail: %d %q %d", n, s, c)
	}
	wanted(t, r, 2, api.ErrTwice, "read behind Fail")
	r = wire.New(nil)
	r.Num()
	r.Fail(api.ErrTwice)
	wanted(t, r, 0, api.ErrShort, "Fail behind a fault")
}

// P4.3: any number may be the fault.
func TestFailWithAnyNumber(t *testing.T) {
	for _, why := range []api.Errno{api.ErrNil, api.ErrDeny, -1, 25, low, top} {
		r := wire.New([]byte{2})
		r.Fail(why)
		if n := r.Num(); n != 0 {
			t.Errorf("Num behind Fail(%d) = %d", why, n)
		}
		wanted(t, r, 1, why, "Fail")
	}
}

// P4.1 to P4.3, P6: of nil 0, empty, ErrNil.
func TestNilReader(t *testing.T) {
	var r *wire.Reader
	r.Fail(api.ErrTwice)
	if n, s := r.Num(), r.Text(); n != 0 || s != "" {
		t.Errorf("nil: %d %q", n, s)
	}
	for _, most := range []int{low, -1, 0, top} {
		if c := r.Count(most); c != 0 {
			t.Errorf("nil: Count(%d) = %d", most, c)
		}
	}
	r.Fail(api.OK)
	wanted(t, r, 0, api.ErrNil, "nil")
	for _, none := range []*wire.Reader{wire.New(nil), wire.New([]byte{}), {}} {
		wanted(t, none, 0, api.OK, "no bytes")
		if n := none.Num(); n != 0 {
			t.Errorf("Num of no bytes = %d", n)
		}
		wanted(t, none, 0, api.ErrShort, "no bytes")
	}
}

// Rules 4 and 5: a reader keeps and changes none of the bytes that it is given.
func TestReaderIsAlone(t *testing.T) {
	b := wire.Text(wire.All(300, -1), "hello")
	kept := string(b)
	r := wire.New(b)
	other := wire.New(b)
	other.Num()
	if string(b) != kept {
		t.Error("reading changed the bytes")
	}
	for i := range b {
		b[i] = 0xff
	}
	if x, y, s := r.Num(), r.Num(), r.Text(); x != 300 || y != -1 || s != "hello" {
		t.Errorf("%d %d %q", x, y, s)
	}
	if y, s := other.Num(), other.Text(); y != -1 || s != "hello" {
		t.Errorf("%d %q", y, s)
	}
	wanted(t, r, 0, api.OK, "all read")
}

// P4.4: numbers and texts in turn, as they were put, till nothing is left; and without the last byte not the last one.
func TestInTurn(t *testing.T) {
	var b []byte
	for i, n := range edges() {
		b = wire.Text(wire.Put(b, n), strings.Repeat("\xff", i))
	}
	for _, short := range []int{0, 1} {
		r := wire.New(b[:len(b)-short])
		for i, n := range edges() {
			want, why := strings.Repeat("\xff", i), api.OK
			if short == 1 && i == len(edges())-1 {
				want, why = "", api.ErrShort
			}
			if got := r.Num(); got != n {
				t.Errorf("Num = %d; want %d", got, n)
			}
			if got := r.Text(); got != want || r.Why() != why {
				t.Errorf("Text = %q, %d; want %q, %d", got, r.Why(), want, why)
			}
		}
	}
}
