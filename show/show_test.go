package show_test

import (
	"math"
	"math/rand"
	"slices"
	"strconv"
	"strings"
	"testing"

	"moiety/api"
	"moiety/dims"
	"moiety/show"
)

const (
	least    = "-9223372036854775808"
	greatest = "9223372036854775807"
)

// catalogue is two dimensions and two measures.
func catalogue() *dims.Dims {
	place := api.Dim{Name: "place", Nodes: []api.Node{{Name: "all", Up: -1}, {Name: "a", Up: 0}, {Name: "b", Up: 0}}}
	when := api.Dim{Name: "when", Nodes: []api.Node{{Name: "year", Up: -1}, {Name: "q1", Up: 0}}}
	d, _, _ := dims.New(api.Cat{Dims: []api.Dim{place, when}, Meas: []string{"m", "n"}, Leaves: 3, Scens: 4})
	return d
}

var (
	top   = api.Cell{}
	inner = api.Cell{Meas: 1, At: [4]int{2, 1}}
)

// nowhere is cells that there are not.
func nowhere() []api.Cell {
	return []api.Cell{
		{Meas: -1}, {Meas: 2}, {Meas: math.MaxInt}, {Meas: math.MinInt}, {At: [4]int{3}}, {At: [4]int{-1}}, {At: [4]int{0, 2}}, {At: [4]int{0, math.MinInt}},
		{At: [4]int{0, 0, 1}}, {At: [4]int{0, 0, 0, -1}},
	}
}

// text holds a line.
func text(t *testing.T, what, got, want string) {
	t.Helper()
	if got != want {
		t.Errorf("%s: %q; want %q", what, got, want)
	}
}

// lines holds what Reply tells.
func lines(t *testing.T, d *dims.Dims, kind int, r api.Reply, want ...string) {
	t.Helper()
	if l := show.Reply(d, kind, r); !slices.Equal(l, want) {
		t.Errorf("Reply(%d, %+v) = %q; want %q", kind, r, l, want)
	}
}

// P30.1: a row of each kind, and of what is none.
func TestRow(t *testing.T) {
	d := catalogue()
	x := api.Change{Cell: inner, A: -7, B: 12}
	for kind := -2; kind < 30; kind++ {
		behind := ""
		switch kind {
		case api.CDiff:
			behind = " -7 12"
		case api.CSlice, api.CTop:
			behind = " -7"
		}
		text(t, "Row of "+strconv.Itoa(kind), show.Row(d, kind, x), "n/b/q1"+behind)
		text(t, "Row of nil", show.Row(nil, kind, x), behind)
		for _, y := range nowhere() {
			text(t, "Row of a cell that there is not", show.Row(d, kind, api.Change{Cell: y, A: -7, B: 12}), behind)
		}
	}
	for _, kind := range []int{math.MinInt, math.MaxInt, 256 + api.CDiff, 1<<32 + api.CTop} {
		text(t, "Row of no kind", show.Row(d, kind, x), "n/b/q1")
	}
	text(t, "Row", show.Row(d, api.CDiff, api.Change{}), "m/all/year 0 0")
	text(t, "Row", show.Row(d, api.CDiff, api.Change{A: math.MinInt64, B: math.MaxInt64}), "m/all/year "+least+" "+greatest)
	text(t, "Row", show.Row(d, api.CDiff, api.Change{A: math.MaxInt64, B: math.MinInt64}), "m/all/year "+greatest+" "+least)
	text(t, "Row", show.Row(d, api.CSlice, api.Change{A: math.MinInt64}), "m/all/year "+least)
	text(t, "Row", show.Row(d, api.CTop, api.Change{A: math.MaxInt64}), "m/all/year "+greatest)
}

// P30.1
func TestLock(t *testing.T) {
	d := catalogue()
	text(t, "Lock", show.Lock(d, api.Lock{Cell: inner, User: "ann"}), "n/b/q1 ann")
	text(t, "Lock", show.Lock(d, api.Lock{User: "bob"}), "m/all/year bob")
	// The user is told as it is, also where it is no name.
	text(t, "Lock of no user", show.Lock(d, api.Lock{}), "m/all/year ")
	text(t, "Lock of no name", show.Lock(d, api.Lock{User: " x\n\xff"}), "m/all/year  x\n\xff")
	text(t, "Lock of nil", show.Lock(nil, api.Lock{Cell: inner, User: "ann"}), " ann")
	text(t, "Lock of nil", show.Lock(nil, api.Lock{}), " ")
	for _, y := range nowhere() {
		text(t, "Lock of a cell that there is not", show.Lock(d, api.Lock{Cell: y, User: "ann"}), " ann")
	}
}

// P30.1: with Held and without.
func TestClash(t *testing.T) {
	d := catalogue()
	x := api.Clash{Cell: inner, Base: 1, Ours: -2, From: 3}
	text(t, "Clash", show.Clash(d, x), "clash n/b/q1 1 -2 3")
	x.Held = true
	text(t, "Clash", show.Clash(d, x), "clash n/b/q1 1 -2 3 held")
	text(t, "Clash of nil", show.Clash(nil, x), "clash  1 -2 3 held")
	x.Held = false
	text(t, "Clash of nil", show.Clash(nil, x), "clash  1 -2 3")
	for _, y := range nowhere() {
		x.Cell = y
		text(t, "Clash of a cell that there is not", show.Clash(d, x), "clash  1 -2 3")
	}
	text(t, "Clash", show.Clash(d, api.Clash{}), "clash m/all/year 0 0 0")
	text(t, "Clash", show.Clash(d, api.Clash{Base: math.MinInt64, Ours: math.MaxInt64, From: math.MinInt64, Held: true}), "clash m/all/year "+least+" "+greatest+" "+least+" held")
	text(t, "Clash", show.Clash(d, api.Clash{Base: math.MaxInt64, Ours: math.MinInt64, From: math.MaxInt64}), "clash m/all/year "+greatest+" "+least+" "+greatest)
}

// P30.1: with a place below 0, 0, and above.
func TestWrong(t *testing.T) {
	text(t, "Wrong", show.Wrong(api.ErrForm, 3), "error 6 at 3")
	text(t, "Wrong", show.Wrong(api.ErrForm, 0), "error 6 at 0")
	text(t, "Wrong", show.Wrong(api.ErrForm, 1), "error 6 at 1")
	text(t, "Wrong", show.Wrong(api.ErrForm, -1), "error 6")
	text(t, "Wrong", show.Wrong(api.ErrDeny, -2), "error 24")
	text(t, "Wrong", show.Wrong(api.ErrClash, math.MinInt), "error 20")
	text(t, "Wrong", show.Wrong(api.ErrNil, math.MaxInt), "error 1 at "+greatest)
	text(t, "Wrong of no error", show.Wrong(api.OK, -1), "error 0")
	text(t, "Wrong of no error", show.Wrong(api.OK, 0), "error 0 at 0")
	text(t, "Wrong", show.Wrong(-5, 200), "error -5 at 200")
	text(t, "Wrong", show.Wrong(math.MaxInt, -1), "error "+greatest)
	text(t, "Wrong", show.Wrong(math.MinInt, -1), "error "+least)
}

// full is a reply whose fields all have something, but for an error.
func full() api.Reply {
	return api.Reply{
		N:       -5,
		Names:   []string{"main", "p"},
		Rows:    []api.Change{{Cell: inner, A: 1, B: 2}, {A: -3, B: 4}},
		Locks:   []api.Lock{{Cell: inner, User: "ann"}, {User: "bob"}},
		Clashes: []api.Clash{{Cell: inner, Base: 1, Ours: 2, From: 3, Held: true}, {Base: 4, Ours: 5, From: 6}},
	}
}

// told is what the reply full is told as, without an error.
func told(kind int) []string {
	switch kind {
	case api.CGet, api.CFree:
		return []string{"-5"}
	case api.CDiff:
		return []string{"n/b/q1 1 2", "m/all/year -3 4", "ok"}
	case api.CHolds:
		return []string{"n/b/q1", "m/all/year", "ok"}
	case api.CSlice, api.CTop:
		return []string{"n/b/q1 1", "m/all/year -3", "ok"}
	case api.CLocks:
		return []string{"n/b/q1 ann", "m/all/year bob", "ok"}
	case api.CScens:
		return []string{"main", "p", "ok"}
	case api.CMerge:
		return []string{"clash n/b/q1 1 2 3 held", "clash m/all/year 4 5 6", "ok"}
	}
	return []string{"ok"}
}

// kinds is all kinds, and some that are none.
func kinds() []int {
	l := []int{math.MinInt, -11, -1, 0, 19, 20, 256 + api.CGet, 1<<32 + api.CMerge, math.MaxInt}
	for kind := api.CSet; kind <= api.CTop; kind++ {
		l = append(l, kind)
	}
	return l
}

// P30.2: the chapter's examples.
func TestExamples(t *testing.T) {
	place := api.Dim{Name: "place", Nodes: []api.Node{{Name: "all", Up: -1}, {Name: "a", Up: 0}}}
	d, _, _ := dims.New(api.Cat{Dims: []api.Dim{place}, Meas: []string{"m"}, Leaves: 3, Scens: 4})
	lines(t, d, api.CGet, api.Reply{N: 5}, "5")
	lines(t, d, api.CMerge, api.Reply{Why: api.ErrClash, Clashes: []api.Clash{{Cell: api.Cell{At: [4]int{1}}, Base: 1, Ours: 2, From: 3}}}, "clash m/a 1 2 3", "error 20")
}

// P30.2: each kind, and what is none, without an error: what the kind does not tell is not told.
func TestReply(t *testing.T) {
	d := catalogue()
	for _, kind := range kinds() {
		lines(t, d, kind, full(), told(kind)...)
	}
}

// P30.2: each kind with an error, with clashes beside it and without: whatever else the reply has is not told.
func TestReplyError(t *testing.T) {
	d := catalogue()
	for _, kind := range kinds() {
		for why := api.ErrNil; why <= api.ErrDeny; why++ {
			r := full()
			r.Why = why
			wrong := "error " + strconv.Itoa(int(why))
			lines(t, d, kind, r, "clash n/b/q1 1 2 3 held", "clash m/all/year 4 5 6", wrong)
			r.Clashes = r.Clashes[:1]
			lines(t, d, kind, r, "clash n/b/q1 1 2 3 held", wrong)
			r.Clashes = nil
			lines(t, d, kind, r, wrong)
			lines(t, d, kind, api.Reply{Why: why}, wrong)
		}
		// Also of numbers that are no error's.
		lines(t, d, kind, api.Reply{Why: -1, N: 3}, "error -1")
		lines(t, d, kind, api.Reply{Why: 25}, "error 25")
		lines(t, d, kind, api.Reply{Why: math.MinInt}, "error "+least)
		lines(t, d, kind, api.Reply{Why: 1 << 32}, "error 4294967296")
	}
}

// P30.2: lists that are empty, and of one.
func TestReplyLists(t *testing.T) {
	d := catalogue()
	for _, kind := range kinds() {
		some, none := told(kind), []string{"ok"}
		if kind == api.CGet || kind == api.CFree {
			lines(t, d, kind, api.Reply{}, "0")
			continue
		}
		lines(t, d, kind, api.Reply{}, none...)
		lines(t, d, kind, api.Reply{Names: []string{}, Rows: []api.Change{}, Locks: []api.Lock{}, Clashes: []api.Clash{}}, none...)
		r := full()
		lines(t, d, kind, api.Reply{Names: r.Names[:1], Rows: r.Rows[:1], Locks: r.Locks[:1], Clashes: r.Clashes[:1]}, append(some[:min(1, len(some)-1)], "ok")...)
	}
}

// P30.2: the numbers at both ends.
func TestReplyNumbers(t *testing.T) {
	for _, kind := range []int{api.CGet, api.CFree} {
		lines(t, catalogue(), kind, api.Reply{N: math.MinInt64}, least)
		lines(t, catalogue(), kind, api.Reply{N: math.MaxInt64}, greatest)
		lines(t, nil, kind, api.Reply{N: -1}, "-1")
	}
}

// P30.2: names are told as they are.
func TestReplyNames(t *testing.T) {
	lines(t, catalogue(), api.CScens, api.Reply{Names: []string{"", "error 5", "x y", "\xff", "ok"}}, "", "error 5", "x y", "\xff", "ok", "ok")
	lines(t, nil, api.CScens, api.Reply{Names: []string{"main"}}, "main", "ok")
}

// P30.1, P30.2: of a nil catalogue, of one without dimensions, and of cells that there are not.
func TestNoCells(t *testing.T) {
	bare := full()
	for i := range bare.Rows {
		bare.Rows[i].Cell, bare.Locks[i].Cell, bare.Clashes[i].Cell = nowhere()[i], nowhere()[i+2], nowhere()[i+4]
	}
	for _, row := range []struct {
		d *dims.Dims
		r api.Reply
	}{{nil, full()}, {new(dims.Dims), full()}, {nil, bare}, {catalogue(), bare}} {
		d, r := row.d, row.r
		lines(t, d, api.CDiff, r, " 1 2", " -3 4", "ok")
		lines(t, d, api.CHolds, r, "", "", "ok")
		lines(t, d, api.CSlice, r, " 1", " -3", "ok")
		lines(t, d, api.CTop, r, " 1", " -3", "ok")
		lines(t, d, api.CLocks, r, " ann", " bob", "ok")
		lines(t, d, api.CMerge, r, "clash  1 2 3 held", "clash  4 5 6", "ok")
		lines(t, d, api.CGet, r, "-5")
		lines(t, d, api.CSet, r, "ok")
		r.Why = api.ErrFull
		lines(t, d, api.CSet, r, "clash  1 2 3 held", "clash  4 5 6", "error 14")
	}
}

// anyReply is a reply with lists of any length, with an error or without.
func anyReply(r *rand.Rand) api.Reply {
	cell := func() api.Cell {
		return api.Cell{Meas: r.Intn(3), At: [4]int{r.Intn(4), r.Intn(3), r.Intn(8) / 7}}
	}
	num := func() int64 {
		return []int64{0, 1, -1, int64(r.Uint64()), math.MinInt64, math.MaxInt64}[r.Intn(6)]
	}
	y := api.Reply{N: num()}
	if r.Intn(2) == 0 {
		y.Why = api.Errno(r.Intn(30) - 3)
	}
	for range r.Intn(4) {
		y.Names = append(y.Names, []string{"main", "p", "", "error"}[r.Intn(4)])
	}
	for range r.Intn(4) {
		y.Rows = append(y.Rows, api.Change{Cell: cell(), A: num(), B: num()})
	}
	for range r.Intn(4) {
		y.Locks = append(y.Locks, api.Lock{Cell: cell(), User: []string{"ann", "bob", ""}[r.Intn(3)]})
	}
	for range r.Intn(4) {
		y.Clashes = append(y.Clashes, api.Clash{Cell: cell(), Base: num(), Ours: num(), From: num(), Held: r.Intn(2) == 0})
	}
	return y
}

// P30.1 to P30.3, P6: any reply to any kind: a line of each thing that the kind tells, and a last line that begins with error just if there is one.
func TestAnyReply(t *testing.T) {
	r := rand.New(rand.NewSource(30))
	for range 30000 {
		d := catalogue()
		if r.Intn(4) == 0 {
			d = nil
		}
		kind, y := r.Intn(22)-1, anyReply(r)
		var want []string
		switch {
		case y.Why != api.OK || kind == api.CMerge:
			for _, c := range y.Clashes {
				want = append(want, show.Clash(d, c))
			}
		case kind == api.CDiff || kind == api.CHolds || kind == api.CSlice || kind == api.CTop:
			for _, x := range y.Rows {
				want = append(want, show.Row(d, kind, x))
			}
		case kind == api.CLocks:
			for _, l := range y.Locks {
				want = append(want, show.Lock(d, l))
			}
		case kind == api.CScens:
			want = append(want, y.Names...)
		}
		last := "ok"
		if y.Why != api.OK {
			last = show.Wrong(y.Why, -1)
		} else if kind == api.CGet || kind == api.CFree {
			last = strconv.FormatInt(y.N, 10)
		}
		l := show.Reply(d, kind, y)
		if !slices.Equal(l, append(want, last)) {
			t.Fatalf("Reply(%d, %+v) = %q; want %q and %q", kind, y, l, want, last)
		}
		if strings.HasPrefix(l[len(l)-1], "error") != (y.Why != api.OK) {
			t.Fatalf("Reply(%d, %+v): the last line is %q", kind, y, l[len(l)-1])
		}
	}
}

// Rules 4 and 5: what is answered is one's own, and what is handed in is neither changed nor kept.
func TestListsOfOnesOwn(t *testing.T) {
	d := catalogue()
	for _, kind := range kinds() {
		for _, why := range []api.Errno{api.OK, api.ErrClash} {
			r, same := full(), full()
			r.Why = why
			l, other := show.Reply(d, kind, r), show.Reply(d, kind, r)
			was := slices.Clone(other)
			for i := range l {
				l[i] = "x"
			}
			_ = append(l, "y")
			_ = append(l[:1], "y")
			if !slices.Equal(other, was) || !slices.Equal(show.Reply(d, kind, r), was) {
				t.Errorf("Reply(%d): lines are shared", kind)
			}
			if !slices.Equal(r.Names, same.Names) || !slices.Equal(r.Rows, same.Rows) || !slices.Equal(r.Locks, same.Locks) || !slices.Equal(r.Clashes, same.Clashes) {
				t.Errorf("Reply(%d): what was handed in is changed", kind)
			}
			r.Names[0], r.Rows[0], r.Locks[0], r.Clashes[0] = "y", api.Change{A: 99}, api.Lock{User: "y"}, api.Clash{Base: 99}
			if !slices.Equal(other, was) {
				t.Errorf("Reply(%d): what was handed in is kept", kind)
			}
		}
	}
	// Also where the names that are handed in have room behind them.
	names := append(make([]string, 0, 9), "main", "p")
	lines(t, d, api.CScens, api.Reply{Names: names}, "main", "p", "ok")
	if got := names[:3][2]; got != "" {
		t.Errorf("Reply wrote %q behind the names", got)
	}
}
