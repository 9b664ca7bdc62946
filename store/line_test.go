package store_test

import (
	"bytes"
	"math"
	"math/rand"
	"strings"
	"testing"

	"moiety/api"
	"moiety/store"
)

// full is a command with all fields.
func full(kind, how int) api.Cmd {
	return api.Cmd{Kind: kind, User: "ann", Scen: "main", Other: "plan", Cell: api.Cell{Meas: 1, At: [api.MaxDims]int{2, 3, 4, 5}}, N: -6, How: how, Meas: 7}
}

// P27.1: of each kind just what it names is left.
func TestLean(t *testing.T) {
	cell := full(0, 0).Cell
	want := map[int]api.Cmd{
		api.CSet:     {User: "ann", Cell: cell, N: -6, How: api.Prop},
		api.CHold:    {Cell: cell},
		api.CRelease: {Cell: cell},
		api.CLock:    {User: "ann", Cell: cell},
		api.CUnlock:  {User: "ann", Cell: cell},
		api.CUndo:    {},
		api.CRedo:    {},
		api.CBranch:  {Other: "plan"},
		api.CDrop:    {},
		api.CMerge:   {User: "ann", Other: "plan", How: api.Prop},
	}
	for _, kind := range []int{math.MinInt, -1, 0, 1, 2, 3, 4, 5, 6, 7, 8, 9, 10, 11, 12, 13, 14, 15, 16, 17, 18, 19, 257, math.MaxInt} {
		y := want[kind]
		y.Kind, y.Scen = kind, "main"
		x := store.Lean(full(kind, api.Prop))
		if x != y {
			t.Errorf("Lean of %d = %+v; want %+v", kind, x, y)
		}
		if again := store.Lean(x); again != x {
			t.Errorf("Lean of what is lean: %+v", again)
		}
		if zero := store.Lean(api.Cmd{Kind: kind}); zero != (api.Cmd{Kind: kind}) {
			t.Errorf("Lean of no fields: %+v", zero)
		}
	}
}

// P27.1: Meas is named by How Weight alone, and of CSet alone.
func TestLeanMeas(t *testing.T) {
	for _, how := range []int{math.MinInt, -1, api.Equal, api.Prop, api.Weight, 3, math.MaxInt} {
		want := 0
		if how == api.Weight {
			want = 7
		}
		if x := store.Lean(full(api.CSet, how)); x.Meas != want || x.How != how {
			t.Errorf("Lean of CSet by %d: %+v", how, x)
		}
		if x := store.Lean(full(api.CMerge, how)); x.Meas != 0 || x.How != how {
			t.Errorf("Lean of CMerge by %d: %+v", how, x)
		}
		if x := store.Lean(full(api.CLock, how)); x.Meas != 0 || x.How != 0 {
			t.Errorf("Lean of CLock by %d: %+v", how, x)
		}
	}
}

// lines are commands of each kind and of none, lean and not, with texts and numbers of all sizes.
func lines() []api.Cmd {
	var l []api.Cmd
	for kind := -1; kind < api.CTop+2; kind++ {
		for how := range 4 {
			l = append(l, full(kind, how), lean(full(kind, how)))
		}
	}
	return append(l,
		api.Cmd{},
		api.Cmd{Kind: math.MinInt, N: math.MinInt64, How: math.MinInt, Meas: math.MinInt},
		api.Cmd{Kind: math.MaxInt, N: math.MaxInt64, How: math.MaxInt, Meas: math.MaxInt},
		api.Cmd{Cell: api.Cell{Meas: math.MaxInt, At: [api.MaxDims]int{math.MinInt, 63, -64, 64}}},
		api.Cmd{User: "\x00\xff", Scen: strings.Repeat("s", 200), Other: " "},
		api.Cmd{User: strings.Repeat("u", api.MaxText), Scen: strings.Repeat("v", api.MaxText), Other: strings.Repeat("w", api.MaxText)},
	)
}

// P27.1: the bytes, one behind the other, and the command of which they are.
func TestLine(t *testing.T) {
	b := store.Line(full(api.CSet, api.Weight))
	want := []byte("\x02\x06ann\x08main\x08plan\x02\x04\x06\x08\x0a\x0b\x04\x0e")
	if !bytes.Equal(b, want) {
		t.Errorf("Line = %x; want %x", b, want)
	}
	if b := store.Line(api.Cmd{}); !bytes.Equal(b, make([]byte, 12)) {
		t.Errorf("Line of nothing = %x", b)
	}
	for _, x := range lines() {
		b := store.Line(x)
		if !bytes.Equal(b, lineOf(x)) {
			t.Errorf("Line of %+v = %x; want %x", x, b, lineOf(x))
		}
		if y, why := store.Back(b); y != x || why != api.OK {
			t.Errorf("Back of Line of %+v = %+v, %d", x, y, why)
		}
	}
}

// backs holds the fault that Back has of b.
func backs(t *testing.T, what string, b []byte, want api.Errno) {
	t.Helper()
	if x, why := store.Back(b); x != (api.Cmd{}) || why != want {
		t.Errorf("%s: Back(%x) = %+v, %d; want %d", what, b, x, why, want)
	}
}

// P27.1: bytes that end too early, and bytes that are left.
func TestBackOfTooFewAndTooMany(t *testing.T) {
	backs(t, "nil", nil, api.ErrShort)
	backs(t, "no bytes", []byte{}, api.ErrShort)
	for _, x := range []api.Cmd{{}, full(api.CSet, api.Weight), lean(full(api.CMerge, 2)), {N: math.MinInt64, Meas: math.MaxInt}} {
		b := store.Line(x)
		for n := range b {
			backs(t, "a beginning", b[:n], api.ErrShort)
		}
		for c := range 256 {
			backs(t, "one more", append(bytes.Clone(b), byte(c)), api.ErrForm)
		}
		backs(t, "twice", append(bytes.Clone(b), b...), api.ErrForm)
	}
	backs(t, "noughts", make([]byte, 13), api.ErrForm)
}

// P27.1: each of the reader's faults, in each place; the first one is told.
func TestBackOfFaults(t *testing.T) {
	const number, text = 0, 1
	parts := []int{number, text, text, text, number, number, number, number, number, number, number, number}
	beyond := append(bytes.Repeat([]byte{0xff}, 9), 2)
	for at, kind := range parts {
		ahead := make([]byte, at)
		rest := make([]byte, len(parts)-at-1)
		put := func(b ...byte) []byte { return bytes.Join([][]byte{ahead, b, rest}, nil) }
		backs(t, "a needless byte", put(0x80, 0x00), api.ErrForm)
		backs(t, "a number beyond 64 bits", put(beyond...), api.ErrForm)
		backs(t, "no end", append(ahead, 0x80, 0xff), api.ErrShort)
		if kind == number {
			continue
		}
		backs(t, "a text of less than nothing", put(0x01), api.ErrSize)
		backs(t, "too long a text", put(0x82, 0x7d), api.ErrSize) // 8001
		backs(t, "a text that is not there", put(0x80, 0x7d), api.ErrShort)
		backs(t, "two faults", append(put(0x01), 0x80, 0x00), api.ErrSize)
		if at > 0 {
			first := append([]byte{0x80, 0x00}, put(0x01)[1:]...)
			backs(t, "another fault ahead", first, api.ErrForm)
		}
	}
}

// P27.1, P6: of any bytes; what is told has just these bytes.
func TestBackOfAnyBytes(t *testing.T) {
	r := rand.New(rand.NewSource(271))
	told := 0
	for range 200000 {
		b := store.Line(full(r.Intn(20), r.Intn(4)))
		for range r.Intn(3) {
			b[r.Intn(len(b))] = byte(r.Intn(256))
		}
		if r.Intn(3) == 0 {
			b = b[r.Intn(len(b)):]
		}
		was := bytes.Clone(b)
		x, why := store.Back(b)
		if !bytes.Equal(b, was) {
			t.Fatal("Back changes what is handed in")
		}
		if why != api.OK && x != (api.Cmd{}) || why == api.OK && !bytes.Equal(lineOf(x), b) {
			t.Fatalf("Back(%x) = %+v, %d", b, x, why)
		}
		if why == api.OK {
			told++
		}
	}
	if told == 0 {
		t.Error("no command")
	}
}

// Rules 4 and 5: bytes are one's own.
func TestBytesOfOnesOwn(t *testing.T) {
	x := full(api.CSet, api.Equal)
	a, b := store.Line(x), store.Line(x)
	clear(a)
	_ = append(a[:3], "more and more"...)
	if !bytes.Equal(b, lineOf(x)) {
		t.Error("Lines are shared")
	}
	y, _ := store.Back(b)
	clear(b)
	if y != x {
		t.Error("what was handed in is kept")
	}
}
