package snap_test

import (
	"encoding/hex"
	"slices"
	"strings"
	"testing"

	"moiety/api"
	"moiety/cube"
	"moiety/dims"
	"moiety/scen"
	"moiety/snap"
	"moiety/state"
	"moiety/undo"
)

// unhex is the bytes that are written out, with blanks between.
func unhex(t *testing.T, s string) []byte {
	t.Helper()
	b, err := hex.DecodeString(strings.ReplaceAll(s, " ", ""))
	if err != nil {
		t.Fatal(err)
	}
	return b
}

// P26.1, P6
func TestPutOfNone(t *testing.T) {
	for _, c := range []*cube.Cube{nil, new(cube.Cube)} {
		if b := snap.Put(c); len(b) != 0 {
			t.Errorf("Put = %x", b)
		}
	}
}

// P26.1: the chapter's example: a new cube, of each catalogue.
func TestPutOfANewCube(t *testing.T) {
	for name, cat := range cats() {
		c := newCube(t, cat)
		b := dims.Put(cat)
		want := slices.Concat(num(int64(len(b))), b, unhex(t, "02 08"), []byte("main"), unhex(t, "00 000000 00 000000 00"))
		puts(t, name, c, want)
		gets(t, name, want)
	}
}

// P26.1: byte by byte: values, what is held, locks; a past and a future; a scenario that branched off.
func TestPutOfSome(t *testing.T) {
	c := newCube(t, deep(4))
	cat := dims.Put(deep(4))
	head := slices.Concat(num(int64(len(cat))), cat)
	tail := func(s string) []byte { return slices.Concat(head, unhex(t, s)) }
	const main, p = "08 6d61696e", "02 70"
	must(t, c, set(inD, -1))
	// One leaf, the code 1, -1, not held.
	now := "02 02 01 00" + "00 00"
	puts(t, "a value", c, tail("02"+main+"00"+"000000"+"02 000000"+now+"00"))
	must(t, c, on(api.CHold, cell(0, inD)), branch("p"))
	held := "02 02 01 02" + "00 00"
	puts(t, "held, and branched", c, tail("04"+main+"00"+"000000"+"04 000000"+now+held+"00"+p+main+held+"00"+held+"00"))
	must(t, c, of("p", on(api.CHold, cell(1, inA))), of("p", by("bob", on(api.CLock, cell(0, all)))), api.Cmd{Kind: api.CUndo, Scen: "p"})
	// The index 6 is held; the index 0 is locked by bob.
	above := "02 02 01 02" + "02 0c" + "00"
	locked := "02 02 01 02" + "02 0c" + "02 00 06 626f62"
	puts(t, "a future", c, tail("04"+main+"00"+"000000"+"04 000000"+now+held+"00"+p+main+held+"02"+held+above+"02"+locked))
	must(t, c, api.Cmd{Kind: api.CUndo, Scen: "main"}, of("main", set(inD, 300)), api.Cmd{Kind: api.CDrop, Scen: "p"})
	puts(t, "another value", c, tail("02"+main+"00"+"000000"+"04 000000"+now+"02 02 d804 00 00 00"+"00"))
}

// P26.1: leaves by codes, cells by indexes, locks by indexes, scenarios by names, whatever the order was in which they came.
func TestPutInOrder(t *testing.T) {
	c := newCube(t, deep(8))
	must(t, c, set(inB, 5), set(inC, 6), api.Cmd{Kind: api.CSet, Cell: cell(1, inD), N: 7}, set(inD, 8))
	must(t, c, on(api.CHold, cell(1, inB)), on(api.CHold, cell(0, inD)))
	must(t, c, on(api.CHold, cell(1, inA)), on(api.CHold, cell(0, all)), on(api.CHold, cell(1, all)), on(api.CHold, cell(0, inA)))
	must(t, c, on(api.CLock, cell(1, inB)), by("zoe", on(api.CLock, cell(0, inC))), by("bob", on(api.CLock, cell(0, inB))), on(api.CLock, cell(1, all)))
	for _, name := range []string{"z", "a", "mai", "main_", "Z", "main2", "b"} {
		must(t, c, branch(name))
	}
	want := stateOf{
		leaves: []leafOf{{0, 6, 0}, {1, 8, 1}, {2, 5, 0}, {4, 7, 0}, {5, 0, 1}},
		held:   []int64{0, 1, 5, 6},
		locks:  []lockOf{{2, "bob"}, {3, "zoe"}, {5, "ann"}, {7, "ann"}},
	}
	all := look(t, c)
	var names []string
	for _, s := range all.scens {
		names = append(names, s.name)
		if !slices.Equal(s.now.parts()[0].bytes, want.parts()[0].bytes) || string(join(s.now.parts())) != string(join(want.parts())) {
			t.Errorf("%s is %v; want %v", s.name, s.now, want)
		}
	}
	if !slices.Equal(names, []string{"Z", "a", "b", "mai", "main", "main2", "main_", "z"}) {
		t.Error("names", names)
	}
	puts(t, "in order", c, all.bytes())
	gets(t, "in order", all.bytes())
}

// P26.1: entries that are nothing again are not there, nor is what is released or unlocked; a held leaf without a value is.
func TestPutOfWhatIsNothing(t *testing.T) {
	c := newCube(t, deep(2))
	must(t, c, set(inC, 5), on(api.CHold, cell(0, inB)), on(api.CHold, cell(0, inA)), on(api.CLock, cell(0, inD)))
	must(t, c, on(api.CRelease, cell(0, inA)), set(inC, 0), on(api.CUnlock, cell(0, inD)))
	l := look(t, c)
	if now := l.scens[0].now; !slices.Equal(now.leaves, []leafOf{{2, 0, 1}}) || len(now.held)+len(now.locks) != 0 {
		t.Errorf("now is %v", now)
	}
	puts(t, "a held leaf", c, l.bytes())
	gets(t, "a held leaf", l.bytes())
	must(t, c, on(api.CRelease, cell(0, inB)))
	l = look(t, c)
	if now := l.scens[0].now; len(now.leaves)+len(now.held)+len(now.locks) != 0 {
		t.Errorf("now is %v", now)
	}
	puts(t, "nothing", c, l.bytes())
	gets(t, "nothing", l.bytes())
}

// P26.1: least and greatest values.
func TestPutOfFarValues(t *testing.T) {
	c := newCube(t, deep(1))
	must(t, c, set(inC, least), set(inD, greatest), set(inB, -greatest), api.Cmd{Kind: api.CSet, Cell: cell(1, all), N: least})
	l := look(t, c)
	puts(t, "far values", c, l.bytes())
	gets(t, "far values", l.bytes())
}

// P26.1: a past and a future, together MaxUndo, in their orders.
func TestPutOfHistories(t *testing.T) {
	c := newCube(t, deep(2))
	for n := range int64(api.MaxUndo + 3) {
		must(t, c, set(inC, n+1))
	}
	for many := range api.MaxUndo + 1 {
		l := look(t, c)
		x := l.scens[0]
		if len(x.future) != many || len(x.past) != api.MaxUndo-many {
			t.Fatal("past and future", len(x.past), len(x.future))
		}
		// The eldest ahead, that which comes next ahead.
		for i, s := range slices.Concat(x.past, []stateOf{x.now}, x.future) {
			if !slices.Equal(s.leaves, []leafOf{{0, int64(i + 3), 0}}) {
				t.Fatalf("the state %d is %v", i, s)
			}
		}
		puts(t, "a history", c, l.bytes())
		gets(t, "a history", l.bytes())
		if many < api.MaxUndo {
			must(t, c, undos("main", 1)...)
		}
	}
}

// P26.1: bases that are neither one's state nor the other one's; scenarios that branch off branches; one whose parent is gone.
func TestPutOfBranches(t *testing.T) {
	c := newCube(t, deep(5))
	must(t, c, set(inC, 1), branch("p"), set(inC, 2), of("p", set(inD, 3)), of("p", branch("a")), of("a", set(inB, 4)), of("a", branch("z")), of("p", set(inD, 5)))
	must(t, c, api.Cmd{Kind: api.CMerge, Scen: "p", Other: "main"}, of("p", set(inB, 6)), of("z", set(inB, 7)))
	l := look(t, c)
	parents := []string{"p", "", "main", "a"}
	bases := []string{"0:1 1:3", "", "0:1 1:5", "0:1 1:3 2:4"}
	for i, s := range l.scens {
		var base []string
		for _, x := range s.base.leaves {
			base = append(base, string('0'+rune(x.code))+":"+string('0'+rune(x.n)))
		}
		if s.parent != parents[i] || strings.Join(base, " ") != bases[i] {
			t.Errorf("%s: parent %q, base %v", s.name, s.parent, base)
		}
	}
	puts(t, "branches", c, l.bytes())
	gets(t, "branches", l.bytes())
	must(t, c, of("a", api.Cmd{Kind: api.CDrop}))
	l = look(t, c)
	if x := l.scens[2]; x.name != "z" || x.parent != "" || len(x.base.leaves) != 0 || len(x.now.leaves) != 3 {
		t.Errorf("z is %v", x)
	}
	puts(t, "without a parent", c, l.bytes())
	gets(t, "without a parent", l.bytes())
}

// P26.1: parents that are loaded: each other's, and one that is not there.
func TestPutOfLoadedParents(t *testing.T) {
	one, two := stateOf{leaves: []leafOf{{0, 1, 0}}}, stateOf{leaves: []leafOf{{1, 2, 1}}, held: []int64{1}}
	l := cubeOf{dims.Put(deep(3)), []scenOf{{name: "a", parent: "main", base: one, now: two}, {name: "main", parent: "a", base: two, now: one}}}
	puts(t, "each other's", l.load(t), l.bytes())
	gets(t, "each other's", l.bytes())
	l.scens[0].parent = "b"
	puts(t, "not there", l.load(t), l.bytes())
	fails(t, "not there", l.bytes(), api.ErrForm)
	l.scens[0].parent = "a"
	puts(t, "its own", l.load(t), l.bytes())
	fails(t, "its own", l.bytes(), api.ErrForm)
}

// P26.1: a cube of scenarios that are there already, in little room; Put tells what they are by then.
func TestPutOfAGraph(t *testing.T) {
	d, _, _ := dims.New(deep(3))
	g, _ := scen.New(d, 9)
	s, _ := g.Book().Write(state.State{}, state.Val{Code: 3, N: 9})
	g.Put(scen.Main, s)
	c, why := cube.Of(g)
	if why != api.OK {
		t.Fatal("Of", why)
	}
	puts(t, "of a graph", c, look(t, c).bytes())
	g.Branch(scen.Main, "p")
	g.Load("q", "p", state.State{}, undo.New(state.State{}))
	puts(t, "changed beside", c, look(t, c).bytes())
	gets(t, "changed beside", look(t, c).bytes())
}

// P26.1, rules 3 and 4: Put changes nothing, and what it tells is one's own.
func TestPutChangesNothing(t *testing.T) {
	c := busy(t)
	a := c.Graph().Book().View().Pages().Arena()
	refs := func() []int {
		l := []int{a.Used()}
		for id := range 2000 {
			l = append(l, a.Refs(id))
		}
		return l
	}
	was, all := refs(), look(t, c)
	b := snap.Put(c)
	again := snap.Put(c)
	for i := range b {
		b[i] = 0xff
	}
	_ = append(b, 1, 2, 3)
	if !slices.Equal(again, all.bytes()) || !slices.Equal(snap.Put(c), again) {
		t.Error("what Put tells is not one's own")
	}
	if !slices.Equal(refs(), was) || !slices.Equal(look(t, c).bytes(), again) {
		t.Error("Put changes the cube")
	}
}

// busy is a cube of four scenarios with all that there is.
func busy(t *testing.T) *cube.Cube {
	t.Helper()
	c := newCube(t, deep(4))
	must(t, c, set(all, 100), on(api.CHold, cell(0, inB)), on(api.CLock, cell(0, inA)), by("bob", on(api.CLock, cell(1, inD))), branch("p"))
	must(t, c, of("p", set(all, -7000)), of("p", on(api.CHold, cell(1, all))), of("p", branch("a")), of("a", set(inC, 12)), of("a", on(api.CHold, cell(0, inA))))
	must(t, c, of("a", by("bob", on(api.CLock, cell(1, all)))), of("p", branch("q")), set(inD, 3), api.Cmd{Kind: api.CMerge, Scen: "a", Other: "p", How: api.Ours})
	must(t, c, slices.Concat(undos("main", 2), undos("a", 1), undos("p", 1))...)
	return c
}
