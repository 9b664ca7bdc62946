package shell_test

import (
	"math"
	"slices"
	"strings"
	"testing"

	"moiety/api"
	"moiety/dims"
	"moiety/shell"
)

// P31.1: too few and too many blocks, and both ends; a new shell's file, store and catalogue.
func TestNew(t *testing.T) {
	for _, n := range []int{math.MinInt, -1, 0, api.MaxBlocks + 1, math.MaxInt} {
		if s, why := shell.New(n); s != nil || why != api.ErrArg {
			t.Error("New", n, s, why)
		}
	}
	for _, n := range []int{1, 7, 8, 40, api.MaxBlocks} {
		s := newShell(t, n)
		f := s.File()
		if f.Size() != n || f.Off() || f.Writes() != 0 || s.Store() != nil {
			t.Error("New", n, f.Size(), f.Off(), f.Writes(), s.Store())
		}
		for i := range n {
			if b, why := f.Read(i); why != api.OK || strings.Trim(string(b), "\x00") != "" {
				t.Error("block", i, b, why)
			}
		}
		if c := s.Cat(); !dims.Same(c, api.Cat{Leaves: 1024, Scens: 8}) {
			t.Error("Cat", c)
		}
	}
}

// P31.1 to P31.3, P6: of nil.
func TestNil(t *testing.T) {
	var s *shell.Shell
	for _, line := range append(samples(), "", "x", strings.Repeat(" ", 201), "\n") {
		if l := s.Do(line); len(l) != 0 {
			t.Error("Do", line, l)
		}
	}
	for _, text := range []string{"", "scens", "up\n", strings.Repeat("x", 8001)} {
		if x, why := s.Run(text); x != "" || why != api.ErrNil {
			t.Error("Run", x, why)
		}
	}
	if s.Store() != nil || s.File() != nil || !dims.Same(s.Cat(), api.Cat{}) {
		t.Error("nil", s.Store(), s.File(), s.Cat())
	}
}

// P6: a shell that New did not make has no file, but does not panic.
func TestNotMade(t *testing.T) {
	s := new(shell.Shell)
	for _, line := range append(samples(), "open", "up", "stop 0 0", "compact") {
		s.Do(line)
		s.Run(line)
	}
	if s.Store() != nil || s.File() != nil {
		t.Error("not made", s.Store(), s.File())
	}
}

// samples is a right line of each row of the table, of the catalogue small.
func samples() []string {
	return []string{
		"dim y", "node x c all", "measure n", "limit scens 5", "open", "compact", "stop 70000 0", "up",
		"set ann main m/all 7 prop", "hold main m/all", "release main m/a", "lock ann main m/a", "unlock ann main m/a", "undo main", "redo main",
		"branch main p", "drop p", "merge ann p main theirs", "get main m/a", "free ann main m/all", "diff main p", "holds main", "locks main", "scens", "slice main m/all x", "top main m/all 2",
	}
}

// P31.1: each line ahead of open, and behind it; samples has a line of each row.
func TestWhen(t *testing.T) {
	for k, line := range samples() {
		if first := strings.Fields(line)[0]; row(first) != k {
			t.Fatal("no sample of", table[k])
		}
		r := newRig(t, 100)
		r.do(line)
		r = newRig(t, 100)
		r.do(makes(small())[:7]...)
		r.do(line)
		r = opened(t, 100, small())
		r.do(line)
		r.do("set ann main m/all 5", line)
	}
}

// P31.1: what is not there ahead of open, or behind it, is ErrState as soon as the first word is seen, whatever stands behind it.
func TestStateFirst(t *testing.T) {
	behind := []string{"", " x", " 5", " m/a", " ?", " main m/zz", " x x x x x x x", " main m/a 1"}
	for k, line := range samples() {
		first := strings.Fields(line)[0]
		for _, more := range behind {
			if k >= len(table)-commands || first == "compact" {
				kept(t, newRig(t, 100).s, first+more, "error 22")
			}
			if k < makers {
				kept(t, opened(t, 100, small()).s, first+more, "error 22")
			}
		}
	}
}

// P31.1: a first word that no line has, at any time.
func TestNoLine(t *testing.T) {
	ahead, behind := newRig(t, 100).s, opened(t, 100, small()).s
	for _, line := range []string{"x", "dims", "DIM x", "Open", "op", "opens", "limits leaves 5", "leaves 5", "Stop 0 0", "5", "-5", "m/a", "open/up", "?", "é", "\tup", "up\t", "up\r", "\x00", "up\x00", "set/x", "get, main m/a", "x#", "1 # x", "abcdefghijklmnop"} {
		kept(t, ahead, line, "error 6 at 0")
		kept(t, behind, line, "error 6 at 0")
		kept(t, ahead, "  "+line+" x y", "error 6 at 0")
	}
}

// P31.1: lines that have nothing to say, and lines that are too long.
func TestLength(t *testing.T) {
	for _, r := range []*rig{newRig(t, 100), opened(t, 100, small())} {
		for _, line := range []string{"", " ", "   ", "#", "  #", "# x", "#open", "  # up  ", strings.Repeat(" ", 200), "#" + strings.Repeat("x", 199), strings.Repeat(" ", 199) + "#", "#\x00\xff\r\t"} {
			kept(t, r.s, line)
		}
		for _, line := range []string{strings.Repeat(" ", 201), strings.Repeat("x", 201), "#" + strings.Repeat("x", 200), "up" + strings.Repeat(" ", 199), strings.Repeat("x ", 5000), "\n", "up\n", "\nup", "#\n", " \n ", strings.Repeat("\n", 201)} {
			kept(t, r.s, line, "error 5")
		}
		r.do("stop"+strings.Repeat(" ", 192)+"7 50", "stop"+strings.Repeat(" ", 191)+"70000", "stop"+strings.Repeat(" ", 189)+"70000 5", strings.Repeat("x", 200))
	}
	r := opened(t, 100, small())
	r.do("get main m/all"+strings.Repeat(" ", 186), strings.Repeat(" ", 186)+"get main m/all", strings.Repeat(" ", 187)+"get main m/all")
	if l := r.s.Do(strings.Repeat(" ", 186) + "get main m/all"); !slices.Equal(l, []string{"0"}) {
		t.Error("a line of 200 bytes", l)
	}
}

// others is a word of each kind, and names of each meaning.
func others() []string {
	return []string{"x", "a", "all", "main", "m", "leaves", "scens", "prop", "weight", "theirs", "5", "-1", "0", "m/a", "m/all", "m/zz", "zz/a", "m/a/a", "?", "", "05", "+5", "-0", "9223372036854775808", "-9223372036854775809", "abcdefghijklm", "x_1", "_x", "x-1", "/", "m/", "\x00", "é", "#"}
}

// P31.1: of each line a word too few at each place, one too many, and one of another kind at each place.
func TestWords(t *testing.T) {
	for k, line := range samples() {
		words := strings.Fields(line)
		var l []string
		for i := range len(words) + 1 {
			l = append(l, strings.Join(words[:i], " "))
			for _, word := range others() {
				l = append(l, strings.Join(slices.Insert(slices.Clone(words), i, word), " "))
				if i < len(words) {
					changed := slices.Clone(words)
					changed[i] = word
					l = append(l, strings.Join(changed, " "), strings.Join(changed[:i+1], " "))
				}
			}
		}
		for _, changed := range l {
			r := newRig(t, 100)
			r.do(makes(small())[:7]...)
			if k >= makers {
				r.do("open")
			}
			r.do(changed)
		}
	}
}

// P31.1: the words that are told, by hand.
func TestWordsByHand(t *testing.T) {
	s := newShell(t, 100)
	for line, want := range map[string]string{
		"dim": "error 6 at 1", "dim 5": "error 6 at 1", "dim a/b": "error 6 at 1", "dim ?": "error 6 at 1", "dim x y": "error 6 at 2", "dim 5 y z": "error 6 at 1", "dim abcdefghijklm": "error 6 at 1",
		"node": "error 6 at 1", "node x": "error 6 at 2", "node 5 5": "error 6 at 1", "node x 5": "error 6 at 2", "node x 5 6 7": "error 6 at 2", "node x a 5": "error 6 at 3", "node x a b c": "error 6 at 4", "node x a b c d": "error 6 at 4", "node x a 5 c": "error 6 at 3",
		"measure": "error 6 at 1", "measure 5": "error 6 at 1", "measure m n": "error 6 at 2",
		"limit": "error 6 at 1", "limit 5": "error 6 at 1", "limit x": "error 6 at 1", "limit x y": "error 6 at 1", "limit Leaves 5": "error 6 at 1", "limit leaves": "error 6 at 2", "limit scens x": "error 6 at 2", "limit scens m/a": "error 6 at 2", "limit scens 5 5": "error 6 at 3", "limit x 5 5": "error 6 at 1", "limit scens x 5": "error 6 at 2",
		"limit scens 9223372036854775808": "error 6 at 2", "limit leaves -9223372036854775809": "error 6 at 2", "limit leaves 05": "error 6 at 2",
		"open x": "error 6 at 1", "open 5 x": "error 6 at 1", "up x": "error 6 at 1", "up 5 x": "error 6 at 1",
		"stop": "error 6 at 1", "stop 0": "error 6 at 2", "stop x": "error 6 at 1", "stop x y": "error 6 at 1", "stop 0 x": "error 6 at 2", "stop 0 5 5": "error 6 at 3", "stop 0 5 x y": "error 6 at 3", "stop 0 m/a 5": "error 6 at 2", "stop 9223372036854775808 0": "error 6 at 1",
	} {
		kept(t, s, line, want)
	}
	s = opened(t, 100, small()).s
	for line, want := range map[string]string{
		"compact x": "error 6 at 1", "compact 5 5": "error 6 at 1", "up x": "error 6 at 1", "stop 0": "error 6 at 2",
		"get": "error 6 at 1", "get main": "error 6 at 2", "get main m": "error 6 at 2", "get main m/x": "error 10 at 2", "get main m/a/a": "error 5 at 2", "get main m/a x": "error 6 at 3", "scens x": "error 6 at 1",
		"slice main m/all y": "error 10 at 3", "set ann main m/a 1 weight n": "error 10 at 6", "set ann main m/a 1 weight": "error 6 at 6", "get x m/a": "error 10",
	} {
		kept(t, s, line, want)
	}
}

// P31.1: numbers, as the nearest that may be.
func TestLimits(t *testing.T) {
	for number, want := range map[string]int{
		"-9223372036854775808": -1, "-4294967296": -1, "-1001": -1, "-2": -1, "-1": -1, "0": 0, "1": 1, "8": 8, "9": 9, "1024": 1024, "1025": 1025, "1999": 1999, "2000": 2000, "2001": 2000, "100001": 2000, "4294967296": 2000, "4294967301": 2000, "9223372036854775807": 2000,
	} {
		r := newRig(t, 100)
		r.do("limit leaves " + number)
		if c := r.s.Cat(); c.Leaves != want || c.Scens != 8 {
			t.Error("leaves", number, c)
		}
		r.do("limit scens " + number)
		if c := r.s.Cat(); c.Leaves != want || c.Scens != want {
			t.Error("scens", number, c)
		}
		r.do("limit leaves 5", "limit leaves 6")
		if c := r.s.Cat(); c.Leaves != 6 || c.Scens != want {
			t.Error("leaves once more", c)
		}
	}
}

// P31.1: MaxDims, MaxMeas and MaxNodes, names that there are already, members of dimensions and below members that there are not.
func TestCatalogue(t *testing.T) {
	r := newRig(t, 100)
	r.do("node x a", "node x a b", "dim x", "node x a b", "node x a a", "node y a", "node x a", "node x a", "node x b a", "dim x", "dim y", "node x c", "node y b", "node y b b", "node y c b", "node y d d")
	kept(t, r.s, "node y d d", "error 10")
	kept(t, r.s, "node z d", "error 10")
	r.do("dim z")
	kept(t, r.s, "dim w", "error 14")
	kept(t, r.s, "dim x", "error 14")
	kept(t, r.s, "dim 5", "error 6 at 1")
	r.do("measure m", "measure m", "measure n", "measure x")
	kept(t, r.s, "measure k", "error 14")
	kept(t, r.s, "measure", "error 6 at 1")
	for i := range 32 {
		r.do("node z n"+num(int64(i)), "node z top")
	}
	kept(t, r.s, "node z more", "error 14")
	kept(t, r.s, "node z more n31", "error 10")
	kept(t, r.s, "node z more n3", "error 14")
	kept(t, r.s, "node w more", "error 10")
	r.do("node y d c")
	want := api.Cat{
		Dims: []api.Dim{{Name: "x", Nodes: []api.Node{node("a", -1), node("a", -1), node("b", 0), node("c", -1)}}, {Name: "x"}, {Name: "y", Nodes: []api.Node{node("b", -1), node("b", 0), node("c", 0), node("d", 2)}}, {Name: "z"}},
		Meas: []string{"m", "m", "n", "x"}, Leaves: 1024, Scens: 8,
	}
	c := r.s.Cat()
	if c.Dims[3].Nodes = nil; !dims.Same(c, want) {
		t.Errorf("Cat = %+v; want %+v", c, want)
	}
}

// several is members, none below another one.
func several(name string, n int) api.Dim {
	d := api.Dim{Name: name}
	for i := range n {
		d.Nodes = append(d.Nodes, node("n"+num(int64(i)), -1))
	}
	return d
}

// chain is members, each below the one ahead.
func chain(n int) api.Dim {
	d := several("x", n)
	for i := range d.Nodes {
		d.Nodes[i].Up = i - 1
	}
	return d
}

// P31.1, P1: catalogues that can not be are refused, and may be made further; those at their limits are not refused.
func TestOpenRefuses(t *testing.T) {
	x, twice := several("x", 2), several("x", 2)
	twice.Nodes[1].Name = "n0"
	catOf := func(leaves, scens int, measures string, l ...api.Dim) api.Cat {
		return api.Cat{Dims: l, Meas: strings.Fields(measures), Leaves: leaves, Scens: scens}
	}
	for name, c := range map[string]struct {
		cat  api.Cat
		want string
	}{
		"no dimension":      {catOf(8, 8, "m"), "error 5"},
		"no measure":        {catOf(8, 8, "", x), "error 5"},
		"nothing":           {api.Cat{Leaves: 1024, Scens: 8}, "error 5"},
		"no member":         {catOf(8, 8, "m", several("x", 0)), "error 5"},
		"a dimension twice": {catOf(8, 8, "m", x, x), "error 4"},
		"a member twice":    {catOf(8, 8, "m", twice), "error 4"},
		"a measure twice":   {catOf(8, 8, "m n m", x), "error 4"},
		"seven deep":        {catOf(8, 8, "m", chain(7)), "error 16"},
		"six deep":          {catOf(8, 8, "m", chain(6)), "ok"},
		"too many leaves":   {catOf(8, 8, "m", several("x", 32), several("y", 32), several("z", 2)), "error 5"},
		"as many leaves":    {catOf(8, 8, "m", several("x", 32), several("y", 32)), "ok"},
		"leaves -1":         {catOf(-1, 8, "m", x), "error 17"},
		"leaves 0":          {catOf(0, 8, "m", x), "error 17"},
		"leaves 1":          {catOf(1, 1, "m", x), "ok"},
		"leaves 1025":       {catOf(1025, 8, "m", x), "error 17"},
		"leaves 2000":       {catOf(2000, 8, "m", x), "error 17"},
		"scens -1":          {catOf(8, -1, "m", x), "error 17"},
		"scens 0":           {catOf(8, 0, "m", x), "error 17"},
		"scens 9":           {catOf(8, 9, "m", x), "error 17"},
		"all wrong":         {catOf(0, 0, "m m", twice, x), "error 4"},
	} {
		r := newRig(t, 200)
		l := makes(c.cat)
		r.do(l[:len(l)-1]...)
		if c.want == "ok" {
			says(t, r.s, "open", "ok")
			continue
		}
		kept(t, r.s, "open", c.want)
		kept(t, r.s, "scens", "error 22")
		r.do("open", "limit leaves 8", "limit scens 8", "dim more", "node more a", "measure more", "open", "scens")
		if r.s.File().Off() || name == "" {
			t.Error(name, "off")
		}
	}
}

// P31.1: files that are too small, without room, with a cube already, or without power.
func TestOpenErrors(t *testing.T) {
	ready := func(blocks int, cat api.Cat) *shell.Shell {
		r := newRig(t, blocks)
		l := makes(cat)
		r.do(l[:len(l)-1]...)
		return r.s
	}
	made := func(blocks int) *shell.Shell { return ready(blocks, small()) }
	for n := 1; n < 8; n++ {
		kept(t, made(n), "open", "error 2")
		kept(t, made(n), "up", "error 2")
		kept(t, newShell(t, n), "open", "error 2")
	}
	kept(t, ready(8, cats()["four"]), "open", "error 14")
	says(t, made(8), "open", "ok")
	s := made(100)
	other := opened(t, 100, small()).s
	for n := range 100 {
		b, _ := other.File().Read(n)
		s.File().Write(n, b)
	}
	kept(t, s, "open", "error 22")
	says(t, s, "measure n", "ok")
	says(t, s, "up", "ok")
	if s.Store() == nil || !dims.Same(s.Cat(), small()) {
		t.Error("a cube that was in the file already", s.Cat())
	}
	says(t, s, "measure n", "error 22")
	says(t, s, "get main m/all", "0")
	s = made(100)
	s.File().Stop(0, 0)
	s.File().Write(0, nil)
	kept(t, s, "open", "error 21")
	kept(t, newShell(t, 100), "open", "error 5")
}

// P31.1: open twice, and Create's errors leave the shell ahead of open.
func TestOpenTwice(t *testing.T) {
	r := opened(t, 100, small())
	kept(t, r.s, "open", "error 22")
	kept(t, r.s, "open x", "error 22")
	r.do("set ann main m/a 5", "open", "up", "open", "get main m/a", "compact", "open")
}

// P31.3: Store ahead of open, behind it, behind an up that opened it anew, and behind one that could not.
func TestStore(t *testing.T) {
	r := newRig(t, 100)
	l := makes(small())
	for _, line := range l[:len(l)-1] {
		r.do(line)
		if r.s.Store() != nil {
			t.Error("a store ahead of open")
		}
	}
	r.do("up")
	if r.s.Store() != nil {
		t.Error("a store behind an up that found none")
	}
	r.do("open", "set ann main m/all 7")
	first := r.s.Store()
	if first.Epoch() != 1 || first.Records() != 1 || r.s.Store() != first {
		t.Error("Store", first.Epoch(), first.Records())
	}
	r.do("compact")
	if r.s.Store() != first || first.Epoch() != 2 || first.Records() != 0 {
		t.Error("behind compact", first.Epoch(), first.Records())
	}
	r.do("set ann main m/a 9", "up", "get main m/all")
	second := r.s.Store()
	if second == first || second.Epoch() != 2 || second.Records() != 1 {
		t.Error("behind up", second.Epoch(), second.Records())
	}
	r.s.File().Write(0, nil)
	r.s.File().Write(1, nil)
	kept(t, r.s, "up", "error 10")
	r.do("get main m/all")
	if r.s.Store() != second {
		t.Error("behind an up that could not open it")
	}
	says(t, r.s, "compact", "ok")
	r.do("up", "get main m/all")
	if r.s.Store() == second || r.s.Store().Epoch() != 3 {
		t.Error("behind compact, and up", r.s.Store().Epoch())
	}
}

// Rule 1: what is done to the store, or to the file, beside the shell, it sees.
func TestBeside(t *testing.T) {
	r := opened(t, 100, small())
	r.s.Store().Do(api.Cmd{Kind: api.CSet, User: "ann", Scen: "main", N: 7})
	says(t, r.s, "get main m/a", "4")
	r.s.File().Stop(0, 0)
	says(t, r.s, "set ann main m/a 5", "error 21")
	r.s.File().Up()
	says(t, r.s, "get main m/a", "error 21")
	says(t, r.s, "stop 0 0", "ok")
	says(t, r.s, "up", "ok")
	says(t, r.s, "get main m/a", "4")
	says(t, r.s, "set ann main m/a 5", "ok")
}

// P31.3, rules 4 and 5: Cat ahead of open and behind it, which is one's own.
func TestCatOfOnesOwn(t *testing.T) {
	spoil := func(s *shell.Shell) {
		c := s.Cat()
		for k := range c.Dims {
			for i := range c.Dims[k].Nodes {
				c.Dims[k].Nodes[i] = node("zz", 31)
			}
			_ = append(c.Dims[k].Nodes, node("zz", 31))
			c.Dims[k].Name = "zz"
		}
		clear(c.Meas)
		_ = append(c.Dims, api.Dim{Name: "zz"})
		_ = append(c.Meas, "zz")
	}
	r := newRig(t, 200)
	for _, line := range append(makes(cats()["four"]), "set ann main m/set/year/a/all 9", "get main m/up/q1/a/a", "up", "get main m/up/q1/a/a") {
		c := r.s.Cat()
		was := dims.Put(c)
		r.do(line)
		if string(dims.Put(c)) != string(was) {
			t.Error("a catalogue that was told changes behind", line)
		}
		spoil(r.s)
		r.do()
	}
}

// Rule 4: answers are one's own.
func TestAnswersOfOnesOwn(t *testing.T) {
	r := opened(t, 200, cats()["place"])
	r.do("set ann main m/all 70", "branch main p", "set ann p m/a 1", "hold main m/b", "lock ann main m/c", "set bob main m/a 2")
	for _, line := range append(asks(r.w), "merge ann p main", "x", "open", "compact", "") {
		l := r.s.Do(line)
		clear(l)
		_ = append(l, "zz")
		r.do(line)
	}
}

// P31.2: texts with and without a last byte 10, empty ones, of 8000 and of 8001 bytes.
func TestRun(t *testing.T) {
	script := strings.Join(makes(small()), "\n")
	oks := strings.Repeat("ok\n", len(makes(small())))
	for _, c := range [][2]string{
		{"", ""}, {"\n", ""}, {"\n\n\n", ""}, {"# x\n \n", ""}, {"x", "error 6 at 0\n"}, {"x\n", "error 6 at 0\n"}, {"x\n\ny", "error 6 at 0\nerror 6 at 0\n"},
		{"up\r\n", "error 6 at 0\n"}, {"\x00\n\xff", "error 6 at 0\nerror 6 at 0\n"}, {"scens\nx\n", "error 22\nerror 6 at 0\n"},
		{script, oks}, {script + "\n", oks},
		{script + "\nset ann main m/all 7\n\nslice main m/all x\nget main m/a", oks + "ok\nm/a 4\nm/b 3\nok\n4\n"},
		{script + "\n" + strings.Repeat("x", 201) + "\n" + strings.Repeat(" ", 201) + "\nscens", oks + "error 5\nerror 5\nmain\nok\n"},
		{strings.Repeat("\n", 8000), ""}, {strings.Repeat("x", 8000), "error 5\n"}, {strings.Repeat("x\n", 4000), strings.Repeat("error 6 at 0\n", 4000)},
	} {
		if x, why := newShell(t, 100).Run(c[0]); x != c[1] || why != api.OK {
			t.Errorf("Run(%q) = %q, %d; want %q", c[0], x, why, c[1])
		}
	}
	s := newShell(t, 100)
	for _, text := range []string{strings.Repeat("\n", 8001), strings.Repeat("x", 8001), "dim x\n" + strings.Repeat("#", 8000), strings.Repeat("dim x\n", 100000)} {
		if x, why := s.Run(text); x != "" || why != api.ErrSize {
			t.Errorf("Run of %d bytes = %q, %d", len(text), x, why)
		}
	}
	if c := s.Cat(); len(c.Dims) != 0 {
		t.Error("a text that is refused is done", c)
	}
}

// P31.5: two texts, one behind the other, are answered as the one, and then the other.
func TestTwoTexts(t *testing.T) {
	script := strings.Join(append(makes(small()), "set ann main m/all 7", "", "get main m/a", "# x", "branch main p", "x", "set bob p m/b 9", "merge ann p main", "slice main m/all x", "undo main", "up", "get main m/all"), "\n") + "\n"
	whole, _ := newShell(t, 100).Run(script)
	for n := range len(script) + 1 {
		if n > 0 && script[n-1] != '\n' {
			continue
		}
		s := newShell(t, 100)
		a, _ := s.Run(script[:n])
		b, _ := s.Run(script[n:])
		if a+b != whole {
			t.Errorf("cut at %d: %q; want %q", n, a+b, whole)
		}
	}
}

// P31.2: Run answers what Do does.
func TestRunAsDo(t *testing.T) {
	l := append(makes(small()), samples()...)
	l = append(l, "set ann main m/all 7 prop", "set ann main m/all 7", "branch main p", "diff main p", "x")
	one, all := newShell(t, 100), ""
	for _, line := range l {
		for _, answer := range one.Do(line) {
			all += answer + "\n"
		}
	}
	if x, why := newShell(t, 100).Run(strings.Join(l, "\n")); x != all || why != api.OK {
		t.Errorf("Run = %q, %d; want %q", x, why, all)
	}
}
