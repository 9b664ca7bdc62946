package cube_test

import (
	"fmt"
	"math"
	"math/rand"
	"slices"
	"testing"

	"moiety/api"
	"moiety/cube"
)

func set(k int, n int64) api.Cmd {
	return api.Cmd{Kind: api.CSet, Cell: cell(0, k), N: n}
}

// of is a command of another scenario.
func of(name string, x api.Cmd) api.Cmd {
	x.Scen = name
	return x
}

// by is a command by another user.
func by(user string, x api.Cmd) api.Cmd {
	x.User = user
	return x
}

// on is a command of a kind, on a cell.
func on(kind int, c api.Cell) api.Cmd {
	return api.Cmd{Kind: kind, Cell: c}
}

func branch(name string) api.Cmd { return api.Cmd{Kind: api.CBranch, Other: name} }

func merging(from, into string, how int) api.Cmd {
	return api.Cmd{Kind: api.CMerge, Scen: from, Other: into, How: how}
}

// rows is cells of the first measure with their values, by turns.
func rows(l ...int64) []api.Change {
	var r []api.Change
	for i := 0; i < len(l); i += 2 {
		r = append(r, api.Change{Cell: cell(0, int(l[i])), A: l[i+1]})
	}
	return r
}

// P22.2: the chapter's example, and those of the whole that a cube can keep.
func TestExamples(t *testing.T) {
	p := pairOf(t, catOf(3, 1, []int{-1, 0, 0}))
	gets := func(name string, want ...int64) {
		t.Helper()
		for k, n := range want {
			if r := p.do(api.Cmd{Kind: api.CGet, Scen: name, Cell: cell(0, k)}); !sameReply(r, api.Reply{N: n}) {
				t.Errorf("Get %s %d = %v; want %d", name, k, r, n)
			}
		}
	}
	fails := func(x api.Cmd, want api.Errno) {
		t.Helper()
		if r := p.do(full(x)); !sameReply(r, api.Reply{Why: want}) {
			t.Errorf("Do %v = %v; want %d", x, r, want)
		}
	}
	const a, b = 1, 2
	p.must(set(all, 7))
	gets("main", 7, 4, 3)
	p.must(on(api.CHold, cell(0, a)), set(all, 9))
	gets("main", 9, 4, 5)
	fails(set(a, 1), api.ErrHeld)
	p.must(by("bob", on(api.CLock, cell(0, b))))
	fails(set(b, 1), api.ErrLocked)
	fails(set(all, 1), api.ErrFree)
	p.must(by("bob", on(api.CUnlock, cell(0, b))), on(api.CRelease, cell(0, a)), set(a, 3), set(b, 1))
	p.must(api.Cmd{Kind: api.CSet, N: 12, How: api.Prop})
	gets("main", 12, 9, 3)
	p.must(branch("p"), of("p", set(a, 100)))
	gets("main", 12, 9, 3)
	p.must(merging("p", "main", api.Abort))
	gets("main", 103, 100, 3)
	p.must(of("p", set(a, 7)), set(a, 8))
	clash := []api.Clash{{Cell: cell(0, a), Base: 100, Ours: 8, From: 7}}
	if r := p.do(full(merging("p", "main", api.Abort))); !sameReply(r, api.Reply{Why: api.ErrClash, Clashes: clash}) {
		t.Error("Merge", r)
	}
	if r := p.do(full(merging("p", "main", api.Theirs))); !sameReply(r, api.Reply{Clashes: clash}) {
		t.Error("Merge", r)
	}
	gets("main", 10, 7, 3)
	p.must(api.Cmd{Kind: api.CUndo})
	gets("main", 11, 8, 3)
	p.must(api.Cmd{Kind: api.CRedo})
	gets("main", 10, 7, 3)
	p.must(api.Cmd{Kind: api.CUndo}, set(b, 4))
	fails(api.Cmd{Kind: api.CRedo}, api.ErrEmpty)
	p.must(set(a, greatest-4))
	fails(set(b, 5), api.ErrOver)
	gets("main", greatest, greatest-4, 4)
}

// P22.2: each kind of command that asks, with its reply.
func TestTells(t *testing.T) {
	p := pairOf(t, deep(3))
	p.must(set(inC, 5), set(inD, -2), set(inB, 5), branch("p"), of("p", set(inD, 4)), of("p", set(inB, 0)))
	p.must(on(api.CHold, cell(1, inB)), on(api.CHold, cell(0, inA)), on(api.CHold, cell(0, inD)), on(api.CHold, cell(1, all)))
	p.must(by("bob", on(api.CLock, cell(1, inA))), on(api.CLock, cell(0, all)), on(api.CLock, cell(0, inB)))
	for _, r := range []struct {
		x    api.Cmd
		want api.Reply
	}{
		{on(api.CGet, cell(0, all)), api.Reply{N: 8}},
		{on(api.CGet, cell(0, inA)), api.Reply{N: 3}},
		{on(api.CGet, cell(0, inD)), api.Reply{N: -2}},
		{of("p", on(api.CGet, cell(0, all))), api.Reply{N: 9}},
		{on(api.CGet, cell(1, all)), api.Reply{}},
		{on(api.CFree, cell(0, all)), api.Reply{N: 1}},
		{on(api.CFree, cell(0, inA)), api.Reply{}},
		{by("bob", on(api.CFree, cell(0, all))), api.Reply{}},
		{by("1", of("p", on(api.CFree, cell(0, all)))), api.Reply{N: 3}},
		{of("p", on(api.CFree, cell(1, inA))), api.Reply{N: 2}},
		{api.Cmd{Kind: api.CDiff, Other: "p"}, api.Reply{Rows: []api.Change{{Cell: cell(0, inD), A: -2, B: 4}, {Cell: cell(0, inB), A: 5}}}},
		{api.Cmd{Kind: api.CDiff, Scen: "p", Other: "main"}, api.Reply{Rows: []api.Change{{Cell: cell(0, inD), A: 4, B: -2}, {Cell: cell(0, inB), B: 5}}}},
		{api.Cmd{Kind: api.CDiff, Scen: "p", Other: "p"}, api.Reply{}},
		{api.Cmd{Kind: api.CHolds}, api.Reply{Rows: []api.Change{{Cell: cell(0, inA)}, {Cell: cell(0, inD)}, {Cell: cell(1, all)}, {Cell: cell(1, inB)}}}},
		{api.Cmd{Kind: api.CHolds, Scen: "p"}, api.Reply{}},
		{api.Cmd{Kind: api.CLocks}, api.Reply{Locks: []api.Lock{{Cell: cell(0, all), User: "ann"}, {Cell: cell(0, inB), User: "ann"}, {Cell: cell(1, inA), User: "bob"}}}},
		{api.Cmd{Kind: api.CLocks, Scen: "p"}, api.Reply{}},
		{api.Cmd{Kind: api.CScens}, api.Reply{Names: []string{"main", "p"}}},
		{on(api.CSlice, cell(0, all)), api.Reply{Rows: rows(inA, 3, inB, 5)}},
		{on(api.CSlice, cell(0, inA)), api.Reply{Rows: rows(inC, 5, inD, -2)}},
		{on(api.CSlice, cell(0, inD)), api.Reply{}},
		{of("p", on(api.CSlice, cell(0, all))), api.Reply{Rows: rows(inA, 9, inB, 0)}},
		{api.Cmd{Kind: api.CTop, N: 2}, api.Reply{Rows: rows(inC, 5, inB, 5)}},
		{api.Cmd{Kind: api.CTop, N: 3}, api.Reply{Rows: rows(inC, 5, inB, 5, inD, -2)}},
		{api.Cmd{Kind: api.CTop, N: greatest}, api.Reply{Rows: rows(inC, 5, inB, 5, inD, -2)}},
		{api.Cmd{Kind: api.CTop, N: 1, Cell: cell(0, inD)}, api.Reply{Rows: rows(inD, -2)}},
		{api.Cmd{Kind: api.CTop}, api.Reply{}},
		{api.Cmd{Kind: api.CTop, N: 2, Scen: "p"}, api.Reply{Rows: rows(inC, 5, inD, 4)}},
	} {
		x := full(r.x)
		if got := p.do(x); !sameReply(got, r.want) {
			t.Errorf("Do %+v = %+v; want %+v", x, got, r.want)
		}
	}
}

// P22.2: a slice by another dimension is told by the place Meas.
func TestSliceDims(t *testing.T) {
	p := pairOf(t, catOf(1, 1, []int{-1, 0, 0}, []int{-1, 0}))
	p.must(api.Cmd{Kind: api.CSet, N: 5})
	for dim, want := range []api.Reply{
		{Rows: []api.Change{{Cell: cell(0, 1), A: 3}, {Cell: cell(0, 2), A: 2}}},
		{Rows: []api.Change{{Cell: cell(0, 0, 1), A: 5}}},
		{Why: api.ErrRange},
	} {
		if r := p.do(api.Cmd{Kind: api.CSlice, Scen: "main", Meas: dim}); !sameReply(r, want) {
			t.Errorf("Slice %d = %v; want %v", dim, r, want)
		}
	}
}

// P22.2: a Kind that is none, below and above, ahead of all else; such a command changes nothing.
func TestNoKind(t *testing.T) {
	p := pairOf(t, deep(2))
	p.must(set(all, 7))
	for _, kind := range []int{math.MinInt, -1 << 32, -18, -1, 0, 19, 20, 1 << 32, 1<<32 + 1, math.MaxInt} {
		for _, name := range []string{"main", "none", ""} {
			if r := p.do(api.Cmd{Kind: kind, Scen: name, Other: "none", User: "1", Cell: cell(9), N: -1, How: 7}); !sameReply(r, api.Reply{Why: api.ErrArg}) {
				t.Error("Do", kind, r)
			}
		}
	}
}

// P22.2: ErrNone ahead of all else, if Scen is none, of each kind but CScens; and if Other is none, of CDiff and CMerge alone.
func TestNone(t *testing.T) {
	p := pairOf(t, deep(2))
	p.must(set(all, 7), branch("p"))
	for kind := api.CSet; kind <= api.CTop; kind++ {
		for _, name := range append(noNames(), "none", "Main") {
			for _, other := range []string{"", "1", "main", "p", "q"} {
				x := api.Cmd{Kind: kind, Scen: name, Other: other, User: "1", Cell: cell(9), N: -1, How: 7, Meas: -1}
				want := api.Reply{Why: api.ErrNone}
				if kind == api.CScens {
					want = api.Reply{Names: []string{"main", "p"}}
				}
				if r := p.do(x); !sameReply(r, want) {
					t.Errorf("Do %+v = %+v", x, r)
				}
			}
			if kind == api.CDiff || kind == api.CMerge {
				x := api.Cmd{Kind: kind, Scen: "p", Other: name, User: "1", How: 7}
				if r := p.do(x); !sameReply(r, api.Reply{Why: api.ErrNone}) {
					t.Errorf("Do %+v = %+v", x, r)
				}
			}
		}
	}
}

// wrongOne is a command that must be answered by an error, behind others.
type wrongOne struct {
	ahead []api.Cmd
	x     api.Cmd
	want  api.Errno
}

// wrongOnes are such of all kinds, in a catalogue of deep with three scenarios and four leaves, of which main has c 4, d 3 and b 2, and p branched off it.
func wrongOnes() []wrongOne {
	var holds, locks []api.Cmd
	for _, k := range []int{all, inA} {
		holds = append(holds, on(api.CHold, cell(0, k)))
		locks = append(locks, by("bob", on(api.CLock, cell(0, k))))
	}
	l := []wrongOne{
		{nil, by("1", on(api.CSet, cell(9))), api.ErrName},
		{nil, api.Cmd{Kind: api.CSet, Cell: cell(9), How: 3}, api.ErrRange},
		{nil, api.Cmd{Kind: api.CSet, N: 1, How: 3}, api.ErrArg},
		{nil, api.Cmd{Kind: api.CSet, N: 1, How: -1}, api.ErrArg},
		{nil, api.Cmd{Kind: api.CSet, N: 1, How: api.Weight, Meas: 2}, api.ErrArg},
		{holds[1:], set(inD, 9), api.ErrHeld},
		{locks[1:], set(inC, 9), api.ErrLocked},
		{append(locks[1:], on(api.CHold, cell(0, inB))), set(all, 8), api.ErrFree},
		{nil, api.Cmd{Kind: api.CSet, N: 1, How: api.Weight, Meas: 1}, api.ErrZero},
		{nil, set(inC, greatest), api.ErrOver},
		{nil, api.Cmd{Kind: api.CSet, Cell: cell(1, inA), N: 2}, api.ErrFull},
		{nil, on(api.CHold, cell(0, 5)), api.ErrRange},
		{holds, on(api.CHold, cell(0, inA)), api.ErrTwice},
		{[]api.Cmd{on(api.CHold, cell(0, inC))}, on(api.CHold, cell(0, inC)), api.ErrTwice},
		{nil, on(api.CRelease, cell(2)), api.ErrRange},
		{holds, on(api.CRelease, cell(0, inC)), api.ErrNone},
		{nil, on(api.CRelease, cell(0, all)), api.ErrNone},
		{nil, by("\xff", on(api.CLock, cell(9))), api.ErrName},
		{nil, on(api.CLock, cell(9)), api.ErrRange},
		{locks, by("bob", on(api.CLock, cell(0, inA))), api.ErrTwice},
		{locks[1:], on(api.CLock, cell(0, all)), api.ErrLocked},
		{nil, by("a b", on(api.CUnlock, cell(9))), api.ErrName},
		{nil, on(api.CUnlock, cell(9)), api.ErrRange},
		{locks, on(api.CUnlock, cell(0, inC)), api.ErrNone},
		{locks, on(api.CUnlock, cell(0, inA)), api.ErrLocked},
		{nil, of("p", api.Cmd{Kind: api.CUndo}), api.ErrEmpty},
		{nil, api.Cmd{Kind: api.CRedo}, api.ErrEmpty},
		{nil, branch("1"), api.ErrName},
		{nil, branch(""), api.ErrName},
		{nil, branch("p"), api.ErrTwice},
		{nil, branch("main"), api.ErrTwice},
		{[]api.Cmd{branch("q")}, branch("p"), api.ErrTwice},
		{[]api.Cmd{branch("q")}, branch("r"), api.ErrFull},
		{nil, api.Cmd{Kind: api.CDrop}, api.ErrUsed},
		{[]api.Cmd{branch("q")}, merging("p", "q", 7), api.ErrBase},
		{nil, merging("p", "p", api.Ours), api.ErrBase},
		{nil, by("1", merging("p", "main", 7)), api.ErrName},
		{nil, merging("p", "main", 3), api.ErrArg},
		{nil, merging("main", "p", -1), api.ErrArg},
		{[]api.Cmd{of("p", set(inC, 9)), by("bob", on(api.CLock, cell(0, inA)))}, merging("p", "main", api.Theirs), api.ErrLocked},
		{[]api.Cmd{of("p", set(inC, 9)), set(inD, greatest-8)}, merging("p", "main", api.Abort), api.ErrOver},
		{[]api.Cmd{of("p", api.Cmd{Kind: api.CSet, Cell: cell(1, inB), N: 1}), {Kind: api.CSet, Cell: cell(1, inC), N: 1}}, merging("p", "main", api.Ours), api.ErrFull},
		{nil, on(api.CGet, cell(0, 5)), api.ErrRange},
		{nil, on(api.CFree, cell(0, -1)), api.ErrRange},
		{nil, on(api.CSlice, cell(2)), api.ErrRange},
		{nil, api.Cmd{Kind: api.CSlice, Meas: 1}, api.ErrRange},
		{nil, api.Cmd{Kind: api.CSlice, Meas: -1}, api.ErrRange},
		{nil, api.Cmd{Kind: api.CTop, Cell: cell(2), N: -1}, api.ErrRange},
		{nil, api.Cmd{Kind: api.CTop, N: -1}, api.ErrArg},
		{nil, api.Cmd{Kind: api.CTop, N: least}, api.ErrArg},
	}
	for _, c := range wrong(deep(3)) {
		for _, kind := range []int{api.CSet, api.CHold, api.CRelease, api.CLock, api.CUnlock, api.CGet, api.CFree, api.CSlice, api.CTop} {
			l = append(l, wrongOne{nil, on(kind, c), api.ErrRange})
		}
	}
	return l
}

// P22.2, P22.4, P6: each error of each kind: Why alone, and nothing is changed.
func TestErrors(t *testing.T) {
	seen := map[int]bool{}
	for i, w := range wrongOnes() {
		cat := deep(3)
		cat.Leaves = 4
		p := pairOf(t, cat)
		p.must(set(inC, 4), set(inD, 3), set(inB, 2), branch("p"))
		p.must(w.ahead...)
		x := full(w.x)
		if r := p.do(x); !sameReply(r, api.Reply{Why: w.want}) {
			t.Errorf("%d: Do %+v = %+v; want %d", i, x, r, w.want)
		}
		seen[x.Kind] = true
	}
	for kind := api.CSet; kind <= api.CTop; kind++ {
		asks := kind == api.CDiff || kind == api.CHolds || kind == api.CLocks || kind == api.CScens
		if seen[kind] == asks {
			t.Error("errors of the kind", kind, seen[kind])
		}
	}
}

// P22.2: as many cells as may be held, and locked, and one more.
func TestFull(t *testing.T) {
	cat := catOf(1, 3, []int{-1, 0, 1, 2, 3, -1, 5, 6, 7, 8}, []int{-1, 0, 0})
	p := pairOf(t, cat)
	space := p.c.Graph().Book().Space()
	for _, kind := range []int{api.CHold, api.CLock} {
		done := 0
		for i := range space.Cells() {
			c, _ := space.Cell(i)
			if space.Code(c) >= 0 {
				continue
			}
			if done == api.MaxHolds {
				if r := p.do(full(on(kind, c))); !sameReply(r, api.Reply{Why: api.ErrFull}) {
					t.Error("one more", kind, r)
				}
				break
			}
			p.must(on(kind, c))
			done++
		}
	}
}

// P22.2, P4: a merge by abort tells the leaves that clash, with ErrClash, and changes nothing; by ours and theirs it tells them without an error.
func TestClashes(t *testing.T) {
	for _, two := range [][2]string{{"p", "main"}, {"main", "p"}} {
		for how := range 3 {
			from, into := two[0], two[1]
			p := pairOf(t, deep(2))
			p.must(set(inC, 1), set(inD, 2), set(inB, 3), branch("p"))
			p.must(of(from, set(inC, 4)), of(from, set(inD, 5)), of(from, set(inB, 6)), of(into, set(inC, 7)), of(into, on(api.CHold, cell(0, inD))))
			clashes := []api.Clash{{Cell: cell(0, inC), Base: 1, Ours: 7, From: 4}, {Cell: cell(0, inD), Base: 2, Ours: 2, From: 5, Held: true}}
			want := api.Reply{Clashes: clashes}
			sum := int64(7 + 2 + 6)
			if how == api.Abort {
				want.Why, sum = api.ErrClash, 7+2+3
			}
			if how == api.Theirs {
				sum = 4 + 2 + 6
			}
			x := full(merging(from, into, how))
			r := p.do(x)
			if !sameReply(r, want) {
				t.Errorf("Merge %v = %+v; want %+v", x, r, want)
			}
			clear(r.Clashes)
			if r := p.do(of(into, on(api.CGet, cell(0, all)))); r.N != sum {
				t.Error("Get", r, sum)
			}
			if how == api.Abort {
				if r := p.do(x); !sameReply(r, want) {
					t.Error("once more", r)
				}
			} else if r := p.do(x); !sameReply(r, api.Reply{}) {
				t.Error("a second merge", r)
			}
		}
	}
}

// fields is a command with zero in all fields that its kind does not name.
func fields(x api.Cmd) api.Cmd {
	lean := api.Cmd{Kind: x.Kind}
	has := func(kinds ...int) bool { return slices.Contains(kinds, x.Kind) }
	if !has(api.CScens) {
		lean.Scen = x.Scen
	}
	if has(api.CSet, api.CLock, api.CUnlock, api.CMerge, api.CFree) {
		lean.User = x.User
	}
	if has(api.CBranch, api.CMerge, api.CDiff) {
		lean.Other = x.Other
	}
	if has(api.CSet, api.CHold, api.CRelease, api.CLock, api.CUnlock, api.CGet, api.CFree, api.CSlice, api.CTop) {
		lean.Cell = x.Cell
	}
	if has(api.CSet, api.CTop) {
		lean.N = x.N
	}
	if has(api.CSet, api.CMerge) {
		lean.How = x.How
	}
	if has(api.CSet, api.CSlice) {
		lean.Meas = x.Meas
	}
	return lean
}

// P22.2: fields that a command does not name count for nothing, whatever they are.
func TestFields(t *testing.T) {
	right := []api.Cmd{
		set(all, 7), on(api.CHold, cell(0, inC)), on(api.CLock, cell(0, inB)), branch("q"), merging("p", "main", api.Abort),
		on(api.CGet, cell(0, all)), on(api.CFree, cell(0, all)), {Kind: api.CDiff, Other: "p"}, {Kind: api.CHolds}, {Kind: api.CLocks}, {Kind: api.CScens},
		on(api.CSlice, cell(0, all)), {Kind: api.CTop, N: 2}, {Kind: api.CUndo}, {Kind: api.CRedo}, on(api.CUnlock, cell(0, inA)), on(api.CRelease, cell(0, inB)), of("p", api.Cmd{Kind: api.CDrop}),
	}
	seen := map[int]bool{}
	for _, x := range right {
		x = full(x)
		seen[x.Kind] = true
		for i, junk := range []api.Cmd{
			{User: "1", Scen: "none", Other: "none", Cell: cell(9, -1, 77), N: least, How: -5, Meas: 99},
			{User: "\xff", Scen: "", Other: "main", Cell: cell(-1), N: greatest, How: math.MaxInt, Meas: math.MinInt},
		} {
			p := pairOf(t, deep(3))
			p.must(set(inC, 1), branch("p"), of("p", set(inD, 5)), set(inC, 2), on(api.CLock, cell(0, inA)), on(api.CHold, cell(0, inB)), set(inC, 3))
			p.must(api.Cmd{Kind: api.CUndo})
			lean := fields(x)
			odd := lean
			odd.User, odd.Scen, odd.Other, odd.Cell, odd.N, odd.How, odd.Meas = junk.User, junk.Scen, junk.Other, junk.Cell, junk.N, junk.How, junk.Meas
			odd = laid(odd, lean)
			want := p.m.do(lean)
			if r := p.c.Do(odd); !sameReply(r, want) || r.Why != api.OK {
				t.Errorf("%d: Do %+v = %+v; want %+v", i, odd, r, want)
			}
			p.ask()
		}
	}
	for kind := api.CSet; kind <= api.CTop; kind++ {
		if !seen[kind] {
			t.Error("no command of the kind", kind)
		}
	}
}

// laid is a command of which each field that its kind names is that of lean.
func laid(odd, lean api.Cmd) api.Cmd {
	// What fields leaves of a command that has something everywhere is what its kind names.
	named := fields(api.Cmd{Kind: odd.Kind, User: "x", Scen: "x", Other: "x", Cell: cell(1), N: 1, How: 1, Meas: 1})
	if named.User != "" {
		odd.User = lean.User
	}
	if named.Scen != "" {
		odd.Scen = lean.Scen
	}
	if named.Other != "" {
		odd.Other = lean.Other
	}
	if named.Cell.Meas != 0 {
		odd.Cell = lean.Cell
	}
	if named.N != 0 {
		odd.N = lean.N
	}
	if named.How != 0 {
		odd.How = lean.How
	}
	if named.Meas != 0 {
		odd.Meas = lean.Meas
	}
	return odd
}

// steps are commands of each kind that changes a scenario's state, twelve of them, each of which can be done behind those ahead of it; main is changed, with p beside it.
func steps() []api.Cmd {
	return []api.Cmd{
		set(all, 7),
		on(api.CHold, cell(0, inC)),
		on(api.CLock, cell(1, inA)),
		{Kind: api.CSet, N: 20, How: api.Prop},
		on(api.CHold, cell(1, all)),
		merging("p", "main", api.Ours),
		on(api.CRelease, cell(0, inC)),
		{Kind: api.CSet, Cell: cell(0, inA), N: -9},
		on(api.CUnlock, cell(1, inA)),
		on(api.CRelease, cell(1, all)),
		{Kind: api.CSet, Cell: cell(1, inA), N: 11, How: api.Weight, Meas: 0},
		set(all, 0),
	}
}

// P22.5, P3: k times CUndo behind k commands make all as it was ahead of them, as many times CRedo as it was behind them, for each k up to MaxUndo, and wherever they begin.
func TestUndoRedo(t *testing.T) {
	for first := range steps() {
		for k := 1; k <= api.MaxUndo; k++ {
			p := pairOf(t, deep(2))
			p.must(set(inB, 1), branch("p"), of("p", set(inD, 5)))
			l := append(steps(), steps()...)
			p.must(l[:first]...)
			ahead := p.answers("main")
			p.must(l[first : first+k]...)
			behind := p.answers("main")
			other := p.answers("p")
			for range 2 {
				for range k {
					p.must(api.Cmd{Kind: api.CUndo})
				}
				if got := p.answers("main"); !slices.EqualFunc(got, ahead, sameReply) {
					t.Fatalf("%d, %d: undone it is not as it was", first, k)
				}
				for range k {
					p.must(api.Cmd{Kind: api.CRedo})
				}
				if got := p.answers("main"); !slices.EqualFunc(got, behind, sameReply) {
					t.Fatalf("%d, %d: done again it is not as it was", first, k)
				}
			}
			if got := p.answers("p"); !slices.EqualFunc(got, other, sameReply) {
				t.Fatalf("%d, %d: p is not as it was", first, k)
			}
		}
	}
}

// P22.5: more than MaxUndo commands: the eldest stay.
func TestUndoMore(t *testing.T) {
	p := pairOf(t, deep(1))
	for i := range int64(api.MaxUndo + 3) {
		p.must(set(all, 10*(i+1)))
	}
	for range api.MaxUndo {
		p.must(api.Cmd{Kind: api.CUndo})
	}
	for range 2 {
		if r := p.do(full(api.Cmd{Kind: api.CUndo})); !sameReply(r, api.Reply{Why: api.ErrEmpty}) {
			t.Error("Undo", r)
		}
	}
	if r := p.do(full(on(api.CGet, cell(0, all)))); r.N != 30 {
		t.Error("Get", r)
	}
	// A write of what is there already is a command that can be undone, too.
	p.must(set(all, 30), api.Cmd{Kind: api.CUndo})
	if r := p.do(full(api.Cmd{Kind: api.CUndo})); r.Why != api.ErrEmpty {
		t.Error("Undo", r)
	}
}

// P22.6: a command of each kind changes no scenario but the one it is of; Other of a merge.
func TestApart(t *testing.T) {
	l := []api.Cmd{
		set(all, 50), on(api.CHold, cell(0, inB)), on(api.CRelease, cell(0, inC)), on(api.CLock, cell(0, inB)), on(api.CUnlock, cell(1, inA)),
		{Kind: api.CUndo}, {Kind: api.CRedo}, merging("p", "main", api.Theirs), merging("main", "p", api.Ours), merging("q", "p", api.Theirs),
		of("p", set(inB, 3)), of("p", on(api.CHold, cell(0, all))), of("p", branch("r")), of("q", branch("r")), of("p", api.Cmd{Kind: api.CDrop}), of("q", api.Cmd{Kind: api.CDrop}),
	}
	for i, x := range l {
		p := pairOf(t, deep(4))
		p.must(set(inC, 1), on(api.CHold, cell(0, inC)), on(api.CLock, cell(1, inA)), branch("p"), of("p", set(inD, 2)), of("p", branch("q")), of("q", set(inD, 4)), set(inB, 3), set(inB, 4))
		p.must(api.Cmd{Kind: api.CUndo})
		x = full(x)
		changed := x.Scen
		if x.Kind == api.CMerge {
			changed = x.Other
		}
		was := map[string][]api.Reply{}
		for _, name := range []string{"main", "p", "q"} {
			was[name] = p.answers(name)
		}
		p.must(x)
		for name, l := range was {
			if name != changed && !slices.EqualFunc(p.answers(name), l, sameReply) {
				t.Errorf("%d: %s is not as it was", i, name)
			}
		}
		if x.Kind != api.CDrop && x.Kind != api.CBranch && slices.EqualFunc(p.answers(changed), was[changed], sameReply) {
			t.Errorf("%d: %s is as it was", i, changed)
		}
	}
}

// Rule 4: what is written into a reply's lists, or put behind them, is seen by no later reply, and no two lists of replies share memory.
func TestOwnMemory(t *testing.T) {
	p := pairOf(t, deep(3))
	p.must(set(inC, 1), set(inB, 2), branch("p"), of("p", set(inC, 5)), set(inC, 3), on(api.CHold, cell(0, inD)), on(api.CHold, cell(0, inA)), on(api.CLock, cell(0, inB)), on(api.CLock, cell(1, all)))
	for _, x := range []api.Cmd{
		{Kind: api.CDiff, Other: "p"}, {Kind: api.CHolds}, {Kind: api.CLocks}, {Kind: api.CScens}, on(api.CSlice, cell(0, all)), {Kind: api.CTop, N: 2}, merging("p", "main", api.Abort),
	} {
		x = full(x)
		want, other := p.c.Do(x), p.c.Do(x)
		if len(want.Names)+len(want.Rows)+len(want.Locks)+len(want.Clashes) == 0 {
			t.Errorf("Do %+v tells nothing", x)
		}
		_ = append(other.Names, "x")
		_ = append(other.Rows, api.Change{A: 7})
		_ = append(other.Locks, api.Lock{User: "x"})
		_ = append(other.Clashes, api.Clash{Base: 7})
		clear(other.Names)
		clear(other.Rows)
		clear(other.Locks)
		clear(other.Clashes)
		if r := p.c.Do(x); !sameReply(r, want) {
			t.Errorf("Do %+v = %+v; want %+v", x, r, want)
		}
		p.ask()
	}
}

// P22.4: a command that only asks changes nothing, and leaves what can be redone.
func TestAsking(t *testing.T) {
	p := pairOf(t, deep(3))
	p.must(set(inC, 1), set(inB, 2), branch("p"), of("p", set(inC, 5)), on(api.CHold, cell(0, inD)), on(api.CLock, cell(1, all)), api.Cmd{Kind: api.CUndo})
	for kind := api.CGet; kind <= api.CTop; kind++ {
		for range 2 {
			p.do(full(api.Cmd{Kind: kind, Other: "p", N: 2}))
		}
	}
	p.must(api.Cmd{Kind: api.CRedo})
}

// walk is a pair to which many commands are done.
type walk struct {
	pair
	r *rand.Rand
}

// P1 to P4, P22.2 to P22.6: many commands, right ones and wrong ones, over catalogues of all kinds, against a cube that has nothing but lists.
func TestWalks(t *testing.T) {
	seen := map[string]int{}
	for name, cat := range cats() {
		t.Run(name, func(t *testing.T) {
			for seed := range int64(3) {
				cat.Leaves = 2 + 7*int(seed)
				w := walk{pairOf(t, cat), rand.New(rand.NewSource(seed))}
				for range 250 {
					x := w.cmd()
					r := w.do(x)
					seen[fmt.Sprint(x.Kind)]++
					seen[fmt.Sprint("why ", r.Why)]++
				}
			}
		})
	}
	for kind := api.CSet; kind <= api.CTop; kind++ {
		if seen[fmt.Sprint(kind)] < 50 {
			t.Error("the walks did few commands of the kind", kind)
		}
	}
	for _, why := range []api.Errno{api.OK, api.ErrArg, api.ErrName, api.ErrTwice, api.ErrOver, api.ErrZero, api.ErrNone, api.ErrHeld, api.ErrLocked, api.ErrFree, api.ErrFull, api.ErrRange, api.ErrUsed, api.ErrEmpty, api.ErrClash, api.ErrBase} {
		if seen[fmt.Sprint("why ", why)] < 3 {
			t.Errorf("the walks came %d times to error %d", seen[fmt.Sprint("why ", why)], why)
		}
	}
}

func (w walk) one(l ...string) string {
	return l[w.r.Intn(len(l))]
}

// cell is one that can be most times.
func (w walk) cell() api.Cell {
	if l := wrong(w.m.cat); w.r.Intn(40) == 0 {
		return l[w.r.Intn(len(l))]
	}
	c, _ := w.m.book.Space().Cell(w.r.Intn(w.m.book.Space().Cells()))
	return c
}

func (w walk) number() int64 {
	if w.r.Intn(12) == 0 {
		return []int64{least, greatest, greatest - 1, -1}[w.r.Intn(4)]
	}
	return int64(w.r.Intn(9) - 2)
}

// cmd is a command of any kind, with something in all its fields, which can be done most times.
func (w walk) cmd() api.Cmd {
	x := api.Cmd{
		Kind: w.r.Intn(19), User: w.one("ann", "ann", "bob", "Cy_3"), Scen: w.one("main", "main", "p", "q"), Other: w.one("main", "p", "p", "q", "r"),
		Cell: w.cell(), N: w.number(), How: w.r.Intn(3), Meas: w.r.Intn(len(w.m.cat.Meas)),
	}
	switch w.r.Intn(9) {
	case 0, 1, 2:
		x.Kind = api.CSet
	case 3:
		x.Kind = api.CMerge
	}
	if x.Kind == api.CSlice {
		x.Meas = w.r.Intn(len(w.m.cat.Dims))
	}
	if one := w.m.scens[x.Scen]; one != nil && w.r.Intn(2) == 0 {
		if l := one.now.held; x.Kind == api.CRelease && len(l) > 0 {
			x.Cell = l[w.r.Intn(len(l))]
		}
		if l := one.now.locks; x.Kind == api.CUnlock && len(l) > 0 {
			x.Cell = l[w.r.Intn(len(l))].Cell
		}
	}
	switch w.r.Intn(60) {
	case 0:
		x.User = noNames()[w.r.Intn(len(noNames()))]
	case 1:
		x.How = w.r.Intn(7) - 3
	case 2:
		x.Meas = w.r.Intn(9) - 3
	case 3:
		x.Scen = noNames()[w.r.Intn(len(noNames()))]
	case 4:
		x.Other = noNames()[w.r.Intn(len(noNames()))]
	case 5:
		x.Kind = w.r.Intn(60) - 30
	}
	return x
}

// P22.1, P22.4: whatever was done, the states of all scenarios can be; when they are dropped, and main is empty for as long as it can be undone, the arena has no nodes.
func TestDropAll(t *testing.T) {
	w := walk{pairOf(t, deep(4)), rand.New(rand.NewSource(99))}
	for range 300 {
		w.do(w.cmd())
		if c, why := cube.Of(w.c.Graph()); c == nil || why != api.OK {
			t.Fatal("Of", why)
		}
	}
	for _, name := range w.c.Graph().Names() {
		if name != "main" {
			w.must(of(name, api.Cmd{Kind: api.CDrop}))
		}
	}
	held := w.do(full(api.Cmd{Kind: api.CHolds}))
	for _, row := range held.Rows {
		w.must(on(api.CRelease, row.Cell))
	}
	locked := w.do(full(api.Cmd{Kind: api.CLocks}))
	for _, lock := range locked.Locks {
		w.must(by(lock.User, on(api.CUnlock, lock.Cell)))
	}
	for range api.MaxUndo + 1 {
		w.must(set(inC, 0), set(inD, 0), set(inB, 0))
		for k := inB; k <= inD; k++ {
			w.must(api.Cmd{Kind: api.CSet, Cell: cell(1, k)})
		}
	}
	if n := w.arena()[0].refs; n != 0 {
		t.Error("nodes", n)
	}
}
