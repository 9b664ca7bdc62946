package script_test

import (
	"math"
	"math/rand"
	"slices"
	"strings"
	"testing"

	"moiety/api"
	"moiety/dims"
	"moiety/script"
	"moiety/shell"
)

// P34.1: example 1.
func TestExample(t *testing.T) {
	x := api.Dim{Name: "x", Nodes: []api.Node{node("a", -1)}}
	s, why := script.Text(api.Cat{Dims: []api.Dim{x}, Meas: []string{"m"}, Leaves: 1024, Scens: 8})
	if want := "dim x\nnode x a\nmeasure m\nlimit leaves 1024\nlimit scens 8\nopen\n"; s != want || why != api.OK {
		t.Errorf("Text = %q, %d; want %q", s, why, want)
	}
}

// P34.1: by hand: a command of each kind, behind a catalogue of two dimensions, all of which go ahead of the first member.
func TestTextByHand(t *testing.T) {
	c := small()
	c.Dims = append(c.Dims, api.Dim{Name: "y", Nodes: []api.Node{node("c", -1), node("a", 0)}})
	at := api.Cell{Meas: 1, At: [api.MaxDims]int{2, 1}}
	var l []api.Cmd
	for kind := api.CSet; kind <= api.CTop; kind++ {
		l = append(l, api.Cmd{Kind: kind, User: "ann", Scen: "main", Other: "p", Cell: at, N: -5, How: 2, Meas: 1})
	}
	l = append(l, api.Cmd{Kind: api.CSet, User: "bob", Scen: "q", N: math.MinInt64}, api.Cmd{Kind: api.CSet, User: "bob", Scen: "q", N: math.MaxInt64, How: 1}, api.Cmd{Kind: api.CMerge, User: "bob", Scen: "q", Other: "r"}, api.Cmd{Kind: api.CMerge, User: "bob", Scen: "q", Other: "r", How: 1})
	want := `dim x
dim y
node x all
node x a all
node x b all
node y c
node y a c
measure m
measure n
limit leaves 8
limit scens 3
open
set ann main n/b/a -5 weight n
hold main n/b/a
release main n/b/a
lock ann main n/b/a
unlock ann main n/b/a
undo main
redo main
branch main p
drop main
merge ann main p theirs
get main n/b/a
free ann main n/b/a
diff main p
holds main
locks main
scens
slice main n/b/a y
top main n/b/a -5
set bob q m/all/c -9223372036854775808
set bob q m/all/c 9223372036854775807 prop
merge bob q r
merge bob q r ours
`
	if s, why := script.Text(c, l...); s != want || why != api.OK {
		t.Errorf("Text = %q, %d; want %q", s, why, want)
	}
}

// P34.1, P34.4, P34.5: of any catalogue and any commands: the script, what Read tells of it, and what Trace does.
func TestThereAndBack(t *testing.T) {
	for name, c := range cats() {
		d := dice{rand.New(rand.NewSource(int64(len(name))))}
		for _, n := range []int{0, 1, 2, 7, 30} {
			for range 8 {
				l := d.commands(c, n)
				all := lines(c)
				var bare []api.Cmd
				for _, x := range l {
					said, one := line(c, x)
					all, bare = append(all, said), append(bare, one)
				}
				s, why := script.Text(c, l...)
				if s != ended(all) || why != api.OK {
					t.Fatalf("%s: Text = %q, %d; want %q", name, s, why, ended(all))
				}
				back, read, at, why := script.Read(s)
				if !dims.Same(back, c) || !slices.Equal(read, bare) || at != 0 || why != api.OK {
					t.Fatalf("%s: Read = %v, %v, %d, %d; want %v", name, back, read, at, why, bare)
				}
				if x, why := script.Trace(s); x != traced(t, c, l) || why != api.OK {
					t.Fatalf("%s: Trace(%q) = %q, %d; want %q", name, s, x, why, traced(t, c, l))
				}
			}
		}
	}
}

// with is the catalogue small, changed.
func with(change func(c *api.Cat)) api.Cat {
	c := small()
	change(&c)
	return c
}

// P34.1: a catalogue that can not be: dims.New's error, ahead of all else: of a member ahead of the one above it, of commands without a line, and of the size.
func TestTextOfNoCatalogue(t *testing.T) {
	long := make([]api.Cmd, 1000)
	for i := range long {
		long[i] = api.Cmd{Kind: api.CScens}
	}
	chain := []api.Node{node("a", -1), node("b", 0), node("c", 1), node("d", 2), node("e", 3), node("f", 4), node("g", 5)}
	rows := []struct {
		c    api.Cat
		want api.Errno
	}{
		{api.Cat{}, api.ErrSize},
		{with(func(c *api.Cat) { c.Dims = nil }), api.ErrSize},
		{with(func(c *api.Cat) { c.Meas = nil }), api.ErrSize},
		{with(func(c *api.Cat) { c.Meas = []string{"a", "b", "c", "d", "e"} }), api.ErrSize},
		{with(func(c *api.Cat) { c.Dims = append(c.Dims, c.Dims[0], c.Dims[0], c.Dims[0], c.Dims[0]) }), api.ErrSize},
		{with(func(c *api.Cat) { c.Dims[0].Name = "" }), api.ErrName},
		{with(func(c *api.Cat) { c.Dims[0].Name = "x y" }), api.ErrName},
		{with(func(c *api.Cat) { c.Meas[1] = "x\n" }), api.ErrName},
		{with(func(c *api.Cat) { c.Dims = append(c.Dims, c.Dims[0]) }), api.ErrTwice},
		{with(func(c *api.Cat) { c.Meas[1] = "m" }), api.ErrTwice},
		{with(func(c *api.Cat) { c.Dims[0].Nodes = nil }), api.ErrSize},
		{with(func(c *api.Cat) { c.Dims[0].Nodes = append(numbered("y", 32).Nodes, node("z", 0)) }), api.ErrSize},
		{with(func(c *api.Cat) { c.Dims[0].Nodes[1].Name = "5" }), api.ErrName},
		{with(func(c *api.Cat) { c.Dims[0].Nodes[1].Name = "b" }), api.ErrTwice},
		{with(func(c *api.Cat) { c.Dims[0].Nodes[1].Up = 3 }), api.ErrRange},
		{with(func(c *api.Cat) { c.Dims[0].Nodes[1].Up = -2 }), api.ErrRange},
		{with(func(c *api.Cat) { c.Dims[0].Nodes[1].Up = 1 }), api.ErrLoop},
		{with(func(c *api.Cat) { c.Dims[0].Nodes[1].Up, c.Dims[0].Nodes[2].Up = 2, 1 }), api.ErrLoop},
		{with(func(c *api.Cat) { c.Dims[0].Nodes = chain }), api.ErrDeep},
		{with(func(c *api.Cat) { c.Dims = append(c.Dims, numbered("y", 32), numbered("z", 32)) }), api.ErrSize},
		{with(func(c *api.Cat) { c.Leaves = 0 }), api.ErrRange},
		{with(func(c *api.Cat) { c.Leaves = 1025 }), api.ErrRange},
		{with(func(c *api.Cat) { c.Scens = 0 }), api.ErrRange},
		{with(func(c *api.Cat) { c.Scens = 9 }), api.ErrRange},
		{with(func(c *api.Cat) { c.Dims[0].Nodes[0].Up, c.Scens = 1, 9 }), api.ErrLoop},
		{with(func(c *api.Cat) { c.Dims[0].Nodes = []api.Node{node("a", 1), node("b", -1)}; c.Scens = 9 }), api.ErrRange},
	}
	for i, r := range rows {
		if _, _, why := dims.New(r.c); why != r.want {
			t.Errorf("row %d: dims.New tells %d; want %d", i, why, r.want)
		}
		for _, l := range [][]api.Cmd{nil, {{}}, long, append([]api.Cmd{{}}, long...)} {
			if s, why := script.Text(r.c, l...); s != "" || why != r.want {
				t.Errorf("Text %d = %q, %d; want %d", i, s, why, r.want)
			}
		}
	}
}

// P34.1: a member ahead of the one above it, which a catalogue may have, but a script can not say: also where nothing else is wrong, in any dimension, and however far ahead.
func TestMemberAhead(t *testing.T) {
	rows := []struct {
		nodes []api.Node
		want  api.Errno
	}{
		{[]api.Node{node("a", 1), node("b", -1)}, api.ErrArg},
		{[]api.Node{node("a", -1), node("b", 2), node("c", 0)}, api.ErrArg},
		{[]api.Node{node("a", 3), node("b", -1), node("c", 1), node("d", 2)}, api.ErrArg},
		{[]api.Node{node("a", -1), node("b", 0), node("c", 1), node("d", 4), node("e", 0)}, api.ErrArg},
		{[]api.Node{node("a", -1), node("b", -1), node("c", 1), node("d", 0), node("e", 3)}, api.OK},
	}
	for i, r := range rows {
		for k := range 2 {
			c := small()
			c.Dims = append(c.Dims, api.Dim{Name: "y", Nodes: []api.Node{node("z", -1)}})
			c.Dims[k].Nodes = r.nodes
			if _, _, why := dims.New(c); why != api.OK {
				t.Error("dims.New", i, why)
			}
			s, why := script.Text(c)
			if why != r.want || (s == "") != (why != api.OK) {
				t.Errorf("Text %d, %d = %q, %d; want %d", i, k, s, why, r.want)
			}
			if why == api.OK && s != ended(lines(c)) {
				t.Errorf("Text %d, %d = %q", i, k, s)
			}
		}
	}
}

// P34.1: commands without a line, the first one, the last one, or one in between; of each kind.
func TestNoLine(t *testing.T) {
	right := api.Cmd{Kind: api.CGet, Scen: "main"}
	none := []api.Cmd{
		{}, {Kind: -1}, {Kind: 19}, {Kind: math.MinInt}, {Kind: math.MaxInt},
		{Kind: api.CSet, User: "ann"}, {Kind: api.CSet, Scen: "main"}, {Kind: api.CSet, User: "ann", Scen: "main", How: 3}, {Kind: api.CSet, User: "ann", Scen: "main", How: -1},
		{Kind: api.CSet, User: "ann", Scen: "main", How: 2, Meas: 2}, {Kind: api.CSet, User: "ann", Scen: "main", How: 2, Meas: -1},
		{Kind: api.CHold, Scen: "main", Cell: api.Cell{Meas: 2}}, {Kind: api.CRelease, Scen: "5"}, {Kind: api.CLock, Scen: "main", User: "a b"}, {Kind: api.CUnlock, User: "ann", Scen: ""},
		{Kind: api.CUndo}, {Kind: api.CRedo, Scen: "Scenario_0013"}, {Kind: api.CBranch, Scen: "main"}, {Kind: api.CDrop, Scen: "\n"}, {Kind: api.CMerge, User: "ann", Scen: "main", Other: "p", How: 3},
		{Kind: api.CGet, Scen: "main", Cell: api.Cell{At: [api.MaxDims]int{3}}}, {Kind: api.CFree, Scen: "main"}, {Kind: api.CDiff, Other: "p"}, {Kind: api.CHolds, Scen: "a/b"}, {Kind: api.CLocks},
		{Kind: api.CSlice, Scen: "main", Meas: 1}, {Kind: api.CTop, Scen: "main", Cell: api.Cell{At: [api.MaxDims]int{0, 1}}},
	}
	for _, x := range none {
		for _, l := range [][]api.Cmd{{x}, {x, right}, {right, x}, {right, x, right, x}} {
			if s, why := script.Text(small(), l...); s != "" || why != api.ErrArg {
				t.Errorf("Text of %+v = %q, %d", x, s, why)
			}
		}
	}
}

// undos is commands whose lines are so many bytes in all, each with its end: 7 or more.
func undos(bytes int) []api.Cmd {
	var l []api.Cmd
	for bytes > 0 {
		n := min(bytes, 18)
		if left := bytes - n; left > 0 && left < 7 {
			n -= 7
		}
		l = append(l, api.Cmd{Kind: api.CUndo, Scen: strings.Repeat("s", n-6)})
		bytes -= n
	}
	return l
}

// P34.1: a script of as many bytes as there may be, and of one more, of any catalogue; a command without a line goes ahead of the size, and so does a member ahead of the one above it.
func TestTextSize(t *testing.T) {
	for name, c := range cats() {
		made := len(ended(lines(c)))
		for _, size := range []int{7980, 7999, 8000, 8001, 8002, 8020, 30000} {
			l := undos(size - made)
			s, why := script.Text(c, l...)
			switch {
			case size <= api.MaxText && (why != api.OK || len(s) != size):
				t.Error(name, size, "Text", len(s), why)
			case size > api.MaxText && (why != api.ErrSize || s != ""):
				t.Error(name, size, "Text", s, why)
			}
			l[len(l)-1].Scen = ""
			if s, why := script.Text(c, l...); s != "" || why != api.ErrArg {
				t.Error(name, size, "without a line", s, why)
			}
		}
	}
	c := with(func(c *api.Cat) { c.Dims[0].Nodes = []api.Node{node("a", 1), node("b", -1)} })
	if s, why := script.Text(c, undos(9000)...); s != "" || why != api.ErrArg {
		t.Error("a member ahead", s, why)
	}
}

// Rules 4 and 5: what is handed in is not changed, and the script does not hang on it.
func TestTextLeaves(t *testing.T) {
	c, l := small(), []api.Cmd{{Kind: api.CGet, Scen: "main", User: "no name"}, {Kind: api.CScens}}
	was := slices.Clone(l)
	s, _ := script.Text(c, l...)
	if !dims.Same(c, small()) || !slices.Equal(l, was) {
		t.Error("what is handed in is changed", c, l)
	}
	c.Dims[0].Nodes[0].Name, c.Meas[0] = "z", "z"
	if again, _ := script.Text(small(), was...); again != s {
		t.Error("Text", s, again)
	}
}

// head is the lines up to open of the catalogue small: 9 of them.
func head() string { return ended(lines(small())) }

// P34.2: texts that can not be, by hand: which line, and why.
func TestReadByHand(t *testing.T) {
	const open = "dim x\nnode x a\nmeasure m\nopen\n"
	blank, sharp := strings.Repeat(" ", 201), "#"+strings.Repeat("x", 200)
	rows := []struct {
		text string
		at   int
		want api.Errno
	}{
		{"", 0, api.ErrForm},
		{"\n", 1, api.ErrForm},
		{"\n\n", 2, api.ErrForm},
		{"\n\n# open", 3, api.ErrForm},
		{"#\n", 1, api.ErrForm},
		{"dim x", 1, api.ErrForm},
		{"dim x\n", 1, api.ErrForm},
		{"dim x\nnode x a\nmeasure m", 3, api.ErrForm},
		{"dim x\nnode x a\nmeasure m\n\n", 4, api.ErrForm},
		{"open", 0, api.ErrForm},
		{"\nopen", 1, api.ErrForm},
		{"dim x\nopen\ndim y", 1, api.ErrForm},
		{"dim x\ndim x\nnode x a\nmeasure m\nopen", 4, api.ErrForm},
		{"dim x\nnode x a\nnode x a\nmeasure m\nopen", 4, api.ErrForm},
		{"dim x\nnode x a\nmeasure m\nlimit leaves 0\nopen", 4, api.ErrForm},
		{"dim x\nnode x a\nmeasure m\nlimit scens 9\nopen", 4, api.ErrForm},
		{"dim\n" + open, 0, api.ErrForm},
		{"dim 5\n" + open, 0, api.ErrForm},
		{"dim y z\n" + open, 0, api.ErrForm},
		{"dim a\ndim b\ndim c\ndim d\ndim x\n", 4, api.ErrForm},
		{"node x a\n" + open, 0, api.ErrForm},
		{"dim x\nnode x a b\nnode x b", 1, api.ErrForm},
		{"dim x\nnode x a a", 1, api.ErrForm},
		{"measure a\nmeasure b\nmeasure c\nmeasure d\nmeasure e", 4, api.ErrForm},
		{"limit leaves\n" + open, 0, api.ErrForm},
		{"limit nodes 5\n" + open, 0, api.ErrForm},
		{"limit scens x\n" + open, 0, api.ErrForm},
		{"dim x\nnode x a\nmeasure m\nopen x", 3, api.ErrForm},
		{"get main m/a\n" + open, 0, api.ErrForm},
		{"scens\n" + open, 0, api.ErrForm},
		{"what is this\n" + open, 0, api.ErrForm},
		{"\x00\n" + open, 0, api.ErrForm},
		{"stop 1 1\n" + open, 0, api.ErrForm},
		{"stop 70000 0\n" + open, 0, api.ErrForm},
		{"stop\n" + open, 0, api.ErrForm},
		{"dim x\n  stop  5 5\n", 1, api.ErrForm},
		{"compact\n" + open, 0, api.ErrForm},
		{"up\n" + open, 0, api.ErrForm},
		{"#\nup now\n" + open, 1, api.ErrForm},
		{open + "open", 4, api.ErrForm},
		{open + "dim y", 4, api.ErrForm},
		{open + "node x b", 4, api.ErrForm},
		{open + "measure n\n", 4, api.ErrForm},
		{open + "limit scens 5", 4, api.ErrForm},
		{open + "compact", 4, api.ErrForm},
		{open + "stop 70000 0", 4, api.ErrForm},
		{open + "up", 4, api.ErrForm},
		{open + "scens\n\nget main m/b\nup", 6, api.ErrForm},
		{open + "get main n/a", 4, api.ErrForm},
		{open + "get main m", 4, api.ErrForm},
		{open + "get main m/a/a", 4, api.ErrForm},
		{open + "get main m/a 5", 4, api.ErrForm},
		{open + "slice main m/a y", 4, api.ErrForm},
		{open + "set ann main m/a 1 weight n", 4, api.ErrForm},
		{open + "set ann main m/a 9223372036854775808", 4, api.ErrForm},
		{open + "undo", 4, api.ErrForm},
		{open + "\xff\xfe", 4, api.ErrForm},
		{open + "scens\r", 4, api.ErrForm},
		{open + "\tscens", 4, api.ErrForm},
		{open + blank, 4, api.ErrSize},
		{open + "scens\n" + sharp + "\nwhat", 5, api.ErrSize},
		{open + "scens" + blank, 4, api.ErrSize},
		{open + "what" + blank, 4, api.ErrSize},
		{open + "what\n" + blank, 4, api.ErrForm},
		{blank + "\n" + open, 0, api.ErrSize},
		{sharp + "\n" + open, 0, api.ErrSize},
		{"dim y" + blank + "\n" + open, 0, api.ErrSize},
		{"up" + blank + "\n" + open, 0, api.ErrSize},
		{"up\n" + blank + "\n" + open, 0, api.ErrForm},
		{open[:len(open)-1] + blank, 3, api.ErrSize},
	}
	for _, r := range rows {
		wrong(t, r.text, r.at, r.want)
		asksRead(t, r.text)
	}
}

// P34.2: lines that have nothing to say are anywhere, of up to 200 bytes, with or without an end behind the last line.
func TestNothingToSay(t *testing.T) {
	nothing := []string{"", " ", "#", "# open", "   # what is this", "#up", "#" + strings.Repeat("\xff", 199), strings.Repeat(" ", 200), strings.Repeat(" ", 199) + "#"}
	all := append(lines(small()), "set ann main m/all 7", "scens", "  top   main m/all 2 ")
	want := []api.Cmd{{Kind: api.CSet, User: "ann", Scen: "main", N: 7}, {Kind: api.CScens}, {Kind: api.CTop, Scen: "main", N: 2}}
	for at := range len(all) + 1 {
		for _, line := range nothing {
			whole := ended(slices.Insert(slices.Clone(all), at, line, line))
			for _, s := range []string{whole, strings.TrimSuffix(whole, "\n")} {
				c, l, place, why := script.Read(s)
				if !dims.Same(c, small()) || !slices.Equal(l, want) || place != 0 || why != api.OK {
					t.Errorf("Read(%q) = %v, %v, %d, %d", s, c, l, place, why)
				}
			}
		}
	}
	if c, l, at, why := script.Read(head()); !dims.Same(c, small()) || len(l) != 0 || at != 0 || why != api.OK {
		t.Error("no commands", c, l, at, why)
	}
}

// P34.2: lines of 200 bytes, and of 201, of each kind, ahead of open and behind it.
func TestReadLineSize(t *testing.T) {
	all := append(lines(small()), "set ann main m/all 7", "scens")
	for at := range all {
		for _, ahead := range []bool{true, false} {
			for _, size := range []int{199, 200, 201, 202, 1000} {
				l := slices.Clone(all)
				more := strings.Repeat(" ", size-len(l[at]))
				if ahead {
					l[at] = more + l[at]
				} else {
					l[at] += more
				}
				if size > 200 {
					wrong(t, ended(l), at, api.ErrSize)
				} else if why := asksRead(t, ended(l)); why != api.OK {
					t.Error("Read", at, size, why)
				}
			}
		}
	}
}

// P34.2, P34.3: texts of 8000 bytes, and of 8001: ErrSize and 0, whatever they say.
func TestReadSize(t *testing.T) {
	for _, behind := range []string{"\n", "scens\n", "#"} {
		whole := head() + strings.Repeat(behind, (8000-len(head()))/len(behind))
		whole += strings.Repeat("\n", 8000-len(whole))
		if behind == "#" {
			wrong(t, whole, 9, api.ErrSize)
			whole = strings.ReplaceAll(whole, strings.Repeat("#", 100), strings.Repeat("#", 99)+"\n")
		}
		if why := asksRead(t, whole); why != api.OK || len(whole) != 8000 {
			t.Error("Read of 8000 bytes", why, len(whole))
		}
		for _, more := range []string{"\n", " ", "x"} {
			wrong(t, whole+more, 0, api.ErrSize)
			wrong(t, more+whole, 0, api.ErrSize)
			if x, why := script.Trace(whole + more); x != "" || why != api.ErrSize {
				t.Error("Trace", len(x), why)
			}
		}
		if x, why := script.Trace(whole); why != api.OK || !strings.HasPrefix(x, strings.Repeat("ok\n", 9)) {
			t.Error("Trace of 8000 bytes", len(x), why)
		}
	}
	for _, c := range []string{"\n", " ", "#", "x", "\x00"} {
		wrong(t, strings.Repeat(c, 8001), 0, api.ErrSize)
	}
	wrong(t, strings.Repeat("\n", 8000), 8000, api.ErrForm)
	wrong(t, "what\n"+strings.Repeat("\n", 7996), 0, api.ErrSize)
	wrong(t, "what\n"+strings.Repeat("\n", 7995), 0, api.ErrForm)
}

// P34.2: as many dimensions, members and measures as there may be, and one more: which line it is.
func TestReadAtMost(t *testing.T) {
	c := cats()["wide"]
	all := lines(c)
	last := slices.Index(all, "measure m")
	wrong(t, ended(slices.Insert(slices.Clone(all), last, "node Dimension_02 z")), last, api.ErrForm)
	wrong(t, ended(slices.Insert(slices.Clone(all), last, "dim z", "dim y", "dim w")), last+2, api.ErrForm)
	if c, _, _, why := script.Read(ended(all)); why != api.OK || len(c.Dims[1].Nodes) != api.MaxNodes {
		t.Error("Read", c, why)
	}
	for _, n := range []string{"-1", "0", "9", "99999"} {
		whole := ended(slices.Replace(slices.Clone(all), len(all)-2, len(all)-1, "limit scens "+n))
		wrong(t, whole, len(all)-1, api.ErrForm)
	}
	// Limits that are said again: the last one holds; without any they are as a shell's.
	whole := "dim x\nnode x a\nmeasure m\nlimit leaves -5\nlimit leaves 7\nlimit scens 2000\nlimit scens 2\nopen\n"
	if c, _, at, why := script.Read(whole); c.Leaves != 7 || c.Scens != 2 || at != 0 || why != api.OK {
		t.Error("Read", c, at, why)
	}
	if c, _, at, why := script.Read("dim x\nnode x a\nmeasure m\nopen\n"); c.Leaves != 1024 || c.Scens != 8 || at != 0 || why != api.OK {
		t.Error("Read", c, at, why)
	}
}

// P34.2: a catalogue whose lines come in another order than Text's.
func TestReadOtherOrder(t *testing.T) {
	whole := "measure m\nlimit scens 3\ndim y\nnode y c\nlimit leaves 4\ndim x\nnode x all\nnode y d c\nmeasure n\nnode x a all\nopen\nget main n/d/a"
	want := api.Cat{Dims: []api.Dim{{Name: "y", Nodes: []api.Node{node("c", -1), node("d", 0)}}, {Name: "x", Nodes: []api.Node{node("all", -1), node("a", 0)}}}, Meas: []string{"m", "n"}, Leaves: 4, Scens: 3}
	c, l, at, why := script.Read(whole)
	if !dims.Same(c, want) || at != 0 || why != api.OK || !slices.Equal(l, []api.Cmd{{Kind: api.CGet, Scen: "main", Cell: api.Cell{Meas: 1, At: [api.MaxDims]int{1, 1}}}}) {
		t.Error("Read", c, l, at, why)
	}
}

// pieces is parts of which texts are made by chance.
func pieces() []string {
	l := append(lines(small()), head(), head(), head(), "", "#", "stop 3 5", "compact", "up", "scens", "set ann main m/all 9", "hold main m/a", "branch main p", "merge bob p main theirs", "get main n/z", "what", "\x00\xff", "node x b", strings.Repeat(" ", 201), "undo main", "diff p main", "top main m/all 3", "limit scens 0", "open")
	return l
}

// P34.2, P34.3, P6: of any texts Read tells what it must, and Trace what a new shell of MaxBlocks blocks tells.
func TestAnyText(t *testing.T) {
	d := dice{rand.New(rand.NewSource(34))}
	count := map[api.Errno]int{}
	for i := range 500 {
		whole := ""
		if i%2 == 0 {
			whole = head()
		}
		for range d.Intn(12) {
			whole += d.pick(pieces()...)
			if d.Intn(10) > 0 {
				whole += "\n"
			}
		}
		if b := []byte(whole); i%5 == 0 && len(b) > 0 {
			b[d.Intn(len(b))] = byte(d.Intn(256))
			whole = string(b)
		}
		count[asksRead(t, whole)]++
		asksTrace(t, whole)
	}
	if count[api.OK] < 20 || count[api.ErrForm] < 20 || count[api.ErrSize] < 5 {
		t.Error("what came of the texts", count)
	}
	for range 500 {
		b := make([]byte, d.Intn(300))
		for i := range b {
			b[i] = " \n\nx#ad0im"[d.Intn(10)]
			if d.Intn(8) == 0 {
				b[i] = byte(d.Intn(256))
			}
		}
		asksRead(t, string(b))
		asksRead(t, head()+string(b))
		asksTrace(t, string(b))
	}
}

func asksTrace(t *testing.T, whole string) {
	t.Helper()
	s, _ := shell.New(4096)
	want, wantWhy := s.Run(whole)
	if x, why := script.Trace(whole); x != want || why != wantWhy {
		t.Fatalf("Trace(%q) = %q, %d; want %q, %d", whole, x, why, want, wantWhy)
	}
}

// P34.3: by hand: lines that Read refuses are traced all the same, each time by a new shell.
func TestTraceByHand(t *testing.T) {
	rows := []struct{ text, want string }{
		{"", ""},
		{"\n# nothing\n", ""},
		{"what\nopen\nscens\nup x", "error 6 at 0\nerror 5\nerror 22\nerror 6 at 1\n"},
		{"dim x\nnode x a\nnode x b\nmeasure m\nopen\nset ann main m/a 5\nget main m/a\nstop 0 5\nset ann main m/a 6\nscens\nup\nget main m/a\nopen", "ok\nok\nok\nok\nok\nok\n5\nok\nerror 21\nerror 21\nok\n5\nerror 22\n"},
		{"dim x\n" + strings.Repeat(" ", 201) + "\ndim x", "ok\nerror 5\nok\n"},
	}
	for _, r := range rows {
		for range 2 {
			if x, why := script.Trace(r.text); x != r.want || why != api.OK {
				t.Errorf("Trace(%q) = %q, %d; want %q", r.text, x, why, r.want)
			}
		}
		asksTrace(t, r.text)
	}
}

// P34.3, P34.5: as many commands as a script may have, each of which is written to the file: there is room for all.
func TestTraceAtMost(t *testing.T) {
	for name, c := range cats() {
		var l []api.Cmd
		left := api.MaxText - len(ended(lines(c)))
		for {
			x := api.Cmd{Kind: api.CSet, User: "a", Scen: "main", N: int64(len(l)%7 + 1)}
			s, _ := line(c, x)
			if left -= len(s) + 1; left < 0 {
				break
			}
			l = append(l, x)
		}
		s, why := script.Text(c, l...)
		if why != api.OK {
			t.Fatal(name, why)
		}
		if x, why := script.Trace(s); x != traced(t, c, l) || why != api.OK {
			t.Errorf("%s: Trace = %q, %d; want %q", name, x, why, traced(t, c, l))
		}
	}
}

// P34.3: the shell's file is of MaxBlocks blocks: it has room for the bytes of a cube that a small one has not.
func TestTraceRoom(t *testing.T) {
	c := cats()["wide"]
	whole := ended(lines(c))
	for _, n := range []string{"1000000000000000000", "2000000000000000000", "3000000000000000000"} {
		whole += "set ann main m/All_members_/All_members_ " + n + "\n"
	}
	whole += "compact\nget main m/All_members_/All_members_"
	want := strings.Repeat("ok\n", len(lines(c))+4) + "3000000000000000000\n"
	if x, why := script.Trace(whole); x != want || why != api.OK {
		t.Errorf("Trace = %q, %d; want %q", x, why, want)
	}
	asksTrace(t, whole)
	s, _ := shell.New(400)
	if x, _ := s.Run(whole); x == want {
		t.Error("a small file has room, too")
	}
}

// Rule 4: what Read tells is one's own.
func TestReadOfOnesOwn(t *testing.T) {
	whole := head() + "scens\nundo main\nget main m/a\n"
	c, l, _, _ := script.Read(whole)
	spoilt := c
	spoilt.Dims[0].Nodes[0].Name, spoilt.Dims[0].Name, spoilt.Meas[0] = "z", "z", "z"
	_ = append(spoilt.Meas[:1], "y")
	_ = append(l[:1], api.Cmd{Kind: 99})
	l[0].Kind = 98
	c, again, at, why := script.Read(whole)
	want := []api.Cmd{{Kind: api.CScens}, {Kind: api.CUndo, Scen: "main"}, {Kind: api.CGet, Scen: "main", Cell: api.Cell{At: [api.MaxDims]int{1}}}}
	if !dims.Same(c, small()) || !slices.Equal(again, want) || at != 0 || why != api.OK {
		t.Error("Read", c, again, at, why)
	}
}
