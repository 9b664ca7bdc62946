package dims_test

import (
	"bytes"
	"math"
	"slices"
	"strconv"
	"strings"
	"testing"

	"moiety/api"
	"moiety/dims"
	"moiety/wire"
)

func place() api.Dim {
	return api.Dim{Name: "place", Nodes: []api.Node{{Name: "all", Up: -1}, {Name: "a", Up: 0}, {Name: "b", Up: 0}}}
}

// when has its leaf ahead of the member above it.
func when() api.Dim {
	return api.Dim{Name: "when", Nodes: []api.Node{{Name: "q1", Up: 1}, {Name: "year", Up: -1}}}
}

// flat is a dimension of many leaves.
func flat(name string, many int) api.Dim {
	d := api.Dim{Name: name}
	for i := range many {
		d.Nodes = append(d.Nodes, api.Node{Name: "n" + strconv.Itoa(i), Up: -1})
	}
	return d
}

// fan is a dimension of one member and leaves below it.
func fan(name string, many int) api.Dim {
	d := flat(name, many)
	for i := range d.Nodes[1:] {
		d.Nodes[i+1].Up = 0
	}
	return d
}

func cat() api.Cat {
	return api.Cat{Dims: []api.Dim{place(), when()}, Meas: []string{"sales", "cost"}, Leaves: 8, Scens: 3}
}

func made(t *testing.T, c api.Cat) *dims.Dims {
	t.Helper()
	d, at, why := dims.New(c)
	if d == nil || at != 0 || why != api.OK {
		t.Fatalf("New(%v) = %v, %d, %d", c, d, at, why)
	}
	return d
}

// changed is cat with something done to it.
func changed(change func(c *api.Cat)) api.Cat {
	c := cat()
	change(&c)
	return c
}

// fault is something that makes a catalogue wrong.
type fault struct {
	what string
	at   int
	why  api.Errno
	put  func(c *api.Cat)
}

// faults are in the order in which they are named.
func faults() []fault {
	return []fault{
		{"no dimension", -1, api.ErrSize, func(c *api.Cat) { c.Dims = nil }},
		{"MaxDims and one more", -1, api.ErrSize, func(c *api.Cat) { c.Dims = append(c.Dims, flat("x", 1), flat("y", 1), flat("z", 1)) }},
		{"no measure", -1, api.ErrSize, func(c *api.Cat) { c.Meas = []string{} }},
		{"MaxMeas and one more", -1, api.ErrSize, func(c *api.Cat) { c.Meas = append(c.Meas, "c", "d", "e") }},
		{"the first one's name", 0, api.ErrName, func(c *api.Cat) { c.Dims[0].Name = "" }},
		{"the first one's members", 0, api.ErrSize, func(c *api.Cat) { c.Dims[0].Nodes = nil }},
		{"the first one's members' names", 0, api.ErrName, func(c *api.Cat) { c.Dims[0].Nodes[2].Name = "1" }},
		{"the second one's name", 1, api.ErrName, func(c *api.Cat) { c.Dims[1].Name = "a/b" }},
		{"twice", 1, api.ErrTwice, func(c *api.Cat) { c.Dims[1].Name = c.Dims[0].Name }},
		{"the second one's members", 1, api.ErrSize, func(c *api.Cat) { c.Dims[1] = flat(c.Dims[1].Name, 33) }},
		{"the second one's member twice", 1, api.ErrTwice, func(c *api.Cat) { c.Dims[1].Nodes[1].Name = "q1" }},
		{"the second one's member below none", 1, api.ErrRange, func(c *api.Cat) { c.Dims[1].Nodes[1].Up = 2 }},
		{"the second one's member above itself", 1, api.ErrLoop, func(c *api.Cat) { c.Dims[1].Nodes[1].Up = 0 }},
		{"the second one's member too deep", 1, api.ErrDeep, func(c *api.Cat) { c.Dims[1].Nodes = deep() }},
		{"the first measure's name", -1, api.ErrName, func(c *api.Cat) { c.Meas[0] = "9" }},
		{"a measure twice", -1, api.ErrTwice, func(c *api.Cat) { c.Meas[1] = c.Meas[0] }},
		{"the third measure's name", -1, api.ErrName, func(c *api.Cat) { c.Meas = append(c.Meas, "a b") }},
		{"too many cells", -1, api.ErrSize, func(c *api.Cat) { c.Dims = append(c.Dims, fan("x", 32), fan("y", 32)) }},
		{"Leaves 0", -1, api.ErrRange, func(c *api.Cat) { c.Leaves = 0 }},
		{"Leaves below 0", -1, api.ErrRange, func(c *api.Cat) { c.Leaves = math.MinInt }},
		{"Leaves MaxLeaves and one more", -1, api.ErrRange, func(c *api.Cat) { c.Leaves = api.MaxLeaves + 1 }},
		{"Scens 0", -1, api.ErrRange, func(c *api.Cat) { c.Scens = 0 }},
		{"Scens -1", -1, api.ErrRange, func(c *api.Cat) { c.Scens = -1 }},
		{"Scens MaxScens and one more", -1, api.ErrRange, func(c *api.Cat) { c.Scens = api.MaxScens + 1 }},
		{"Scens the greatest", -1, api.ErrRange, func(c *api.Cat) { c.Scens = math.MaxInt }},
	}
}

func deep() []api.Node {
	l := flat("", api.MaxDepth+1).Nodes
	for i := range l {
		l[i].Up = i - 1
	}
	return l
}

func holdRefused(t *testing.T, what string, c api.Cat, at int, why api.Errno) {
	t.Helper()
	if d, gotAt, got := dims.New(c); d != nil || gotAt != at || got != why {
		t.Errorf("%s: New = %v, %d, %d; want nil, %d, %d", what, d, gotAt, got, at, why)
	}
}

// P6.1: each error with its place, or -1.
func TestNewRefused(t *testing.T) {
	for _, f := range faults() {
		holdRefused(t, f.what, changed(f.put), f.at, f.why)
	}
	holdRefused(t, "nothing", api.Cat{}, -1, api.ErrSize)
}

// P6.1: of two the one that is named first; dimension by dimension, measure by measure.
func TestNewFirst(t *testing.T) {
	rows := []struct {
		first string
		later []string
	}{
		{"no dimension", []string{"no measure", "the first measure's name", "Leaves 0"}},
		{"MaxDims and one more", []string{"the first one's name", "no measure", "Scens 0"}},
		{"no measure", []string{"the first one's name", "the second one's member twice", "Leaves 0"}},
		{"MaxMeas and one more", []string{"the first one's name", "the first measure's name", "Leaves 0"}},
		{"the first one's name", []string{"the first one's members", "the second one's name", "the first measure's name"}},
		{"the first one's members' names", []string{"the second one's name", "twice", "the second one's members", "a measure twice"}},
		{"the second one's name", []string{"the second one's members", "the second one's member twice", "the first measure's name", "Scens 0"}},
		{"twice", []string{"the second one's member twice", "the second one's member too deep", "a measure twice", "too many cells"}},
		{"the second one's member too deep", []string{"the first measure's name", "a measure twice", "too many cells", "Leaves 0"}},
		{"the first measure's name", []string{"the third measure's name", "too many cells", "Leaves 0"}},
		{"a measure twice", []string{"the third measure's name", "too many cells", "Scens 0"}},
		{"the third measure's name", []string{"too many cells", "Scens 0"}},
		{"too many cells", []string{"Leaves 0", "Scens 0", "Scens the greatest"}},
	}
	by := map[string]fault{}
	for _, f := range faults() {
		by[f.what] = f
	}
	for _, r := range rows {
		first := by[r.first]
		for _, what := range r.later {
			later, there := by[what]
			if !there {
				t.Fatal(what)
			}
			c := changed(first.put)
			later.put(&c)
			holdRefused(t, r.first+", then "+what, c, first.at, first.why)
		}
	}
}

// P6.1: MaxCells and MaxLeaves, and the next number that can be: 1025 and 4097 have a factor that no dimension has.
func TestNewAtLimits(t *testing.T) {
	measures := []string{"m", "n", "o", "p"}
	rows := []struct {
		what string
		dims []api.Dim
		meas int
		why  api.Errno
	}{
		{"1 * 32 * 32 = 1024 leaves", []api.Dim{flat("a", 32), flat("b", 32)}, 1, api.OK},
		{"4 * 16 * 16 = 1024 leaves", []api.Dim{flat("a", 16), flat("b", 16)}, 4, api.OK},
		{"3 * 19 * 18 = 1026 leaves, and cells", []api.Dim{flat("a", 19), flat("b", 18)}, 3, api.ErrSize},
		{"2 * 27 * 19 = 1026 leaves", []api.Dim{fan("a", 28), fan("b", 20)}, 2, api.ErrSize},
		{"1 * 32 * 32 * 4 = 4096 cells, 31 * 31 leaves", []api.Dim{fan("a", 32), fan("b", 32), tall("c", 4)}, 1, api.OK},
		{"4 * 32 * 32 = 4096 cells, 4 * 6 * 6 leaves", []api.Dim{tall("a", 32), tall("b", 32)}, 4, api.OK},
		{"4 * 27 * 19 * 2 = 4104 cells, 4 * 5 * 4 leaves", []api.Dim{tall("a", 27), tall("b", 19), tall("c", 2)}, 4, api.ErrSize},
		{"4 * 4 * 4 * 4 * 4 = 1024 leaves", []api.Dim{flat("a", 4), flat("b", 4), flat("c", 4), flat("d", 4)}, 4, api.OK},
		{"all at their limits", []api.Dim{flat("a", 32), flat("b", 32), flat("c", 32), flat("d", 32)}, 4, api.ErrSize},
	}
	for _, r := range rows {
		c := api.Cat{Dims: r.dims, Meas: measures[:r.meas], Leaves: 1, Scens: 1}
		if r.why == api.OK {
			made(t, c)
		} else {
			holdRefused(t, r.what, c, -1, r.why)
		}
	}
	for _, leaves := range []int{1, 2, api.MaxLeaves - 1, api.MaxLeaves} {
		made(t, changed(func(c *api.Cat) { c.Leaves = leaves }))
	}
	for _, scens := range []int{1, 2, api.MaxScens - 1, api.MaxScens} {
		made(t, changed(func(c *api.Cat) { c.Scens = scens }))
	}
}

// tall is a dimension of members in stacks of MaxDepth, the last one lower: a leaf of each.
func tall(name string, many int) api.Dim {
	d := flat(name, many)
	for i := range d.Nodes {
		if i%api.MaxDepth > 0 {
			d.Nodes[i].Up = i - 1
		}
	}
	return d
}

// P6.2
func TestAsked(t *testing.T) {
	d := made(t, cat())
	if d.Many() != 2 || d.Find("place") != 0 || d.Find("when") != 1 || d.Meas("sales") != 0 || d.Meas("cost") != 1 {
		t.Error("Many, Find, Meas")
	}
	for _, name := range []string{"", "Place", "sales", "all", "placee", "\xff"} {
		if d.Find(name) != -1 {
			t.Errorf("Find(%q) = %d", name, d.Find(name))
		}
	}
	for _, name := range []string{"", "place", "all", "Cost", "cos", "\x00"} {
		if d.Meas(name) != -1 {
			t.Errorf("Meas(%q) = %d", name, d.Meas(name))
		}
	}
	if d.Tree(0).Len() != 3 || d.Tree(1).Len() != 2 || d.Tree(0).Find("b") != 2 || d.Tree(1).Find("year") != 1 || d.Tree(1).Up(0) != 1 {
		t.Error("Tree")
	}
	for _, k := range []int{-1, 2, 3, 4, math.MinInt, math.MaxInt} {
		if d.Tree(k) != nil {
			t.Errorf("Tree(%d) is there", k)
		}
	}
}

// P6.1: a measure may have a dimension's name, and a member one of another dimension's.
func TestNamesApart(t *testing.T) {
	c := changed(func(c *api.Cat) { c.Meas[0], c.Dims[1].Nodes[0].Name = "place", "all" })
	d := made(t, c)
	if d.Find("place") != 0 || d.Meas("place") != 0 || d.Tree(1).Find("all") != 0 {
		t.Error("names of other kinds")
	}
	if got, why := d.Cell("place", "b", "all"); got != (api.Cell{At: [4]int{2, 0}}) || why != api.OK {
		t.Error("Cell", got, why)
	}
}

// P6.2, rules 4 and 5: Cat is in memory of its own; a list that was handed in may be written into.
func TestCat(t *testing.T) {
	c := cat()
	d := made(t, c)
	if !dims.Same(c, cat()) {
		t.Error("New wrote into its catalogue")
	}
	spoil(c)
	first := d.Cat()
	second := d.Cat()
	if !dims.Same(first, cat()) {
		t.Errorf("Cat = %v; want %v", first, cat())
	}
	spoil(first)
	if !dims.Same(second, cat()) || !dims.Same(d.Cat(), cat()) {
		t.Errorf("Cat = %v, %v; want %v", second, d.Cat(), cat())
	}
	if got, why := d.Cell("cost", "b", "year"); got != (api.Cell{Meas: 1, At: [4]int{2, 1}}) || why != api.OK {
		t.Error("Cell", got, why)
	}
}

// spoil writes into all lists of c, and into the room behind them.
func spoil(c api.Cat) {
	for _, x := range c.Dims {
		nodes := x.Nodes[:cap(x.Nodes)]
		for i := range nodes {
			nodes[i] = api.Node{Name: "spoilt", Up: 77}
		}
	}
	all := c.Dims[:cap(c.Dims)]
	for i := range all {
		all[i] = api.Dim{Name: "spoilt"}
	}
	meas := c.Meas[:cap(c.Meas)]
	for i := range meas {
		meas[i] = "spoilt"
	}
}

// P6.3: the chapter's example, and the errors in their order.
func TestCell(t *testing.T) {
	one := made(t, changed(func(c *api.Cat) { c.Dims = c.Dims[:1] }))
	if c, why := one.Cell("cost", "b"); why != api.OK || one.Show(c) != "cost/b" {
		t.Error("Cell(cost, b)", c, why)
	}
	d := made(t, cat())
	rows := []struct {
		measure string
		members []string
		want    api.Cell
		why     api.Errno
	}{
		{"sales", []string{"all", "q1"}, api.Cell{}, api.OK},
		{"cost", []string{"b", "year"}, api.Cell{Meas: 1, At: [4]int{2, 1}}, api.OK},
		{"x", []string{"all", "q1"}, api.Cell{}, api.ErrNone},
		{"", nil, api.Cell{}, api.ErrNone},
		{"x", []string{"all"}, api.Cell{}, api.ErrNone},
		{"cost", nil, api.Cell{}, api.ErrSize},
		{"cost", []string{"all"}, api.Cell{}, api.ErrSize},
		{"cost", []string{"x"}, api.Cell{}, api.ErrSize},
		{"cost", []string{"all", "q1", "q1"}, api.Cell{}, api.ErrSize},
		{"cost", []string{"a", "a", "a", "a", "a", "a"}, api.Cell{}, api.ErrSize},
		{"cost", []string{"x", "q1"}, api.Cell{}, api.ErrNone},
		{"cost", []string{"b", "x"}, api.Cell{}, api.ErrNone},
		{"cost", []string{"q1", "b"}, api.Cell{}, api.ErrNone},
		{"cost", []string{"b", ""}, api.Cell{}, api.ErrNone},
	}
	for _, r := range rows {
		if got, why := d.Cell(r.measure, r.members...); got != r.want || why != r.why {
			t.Errorf("Cell(%q, %q) = %v, %d; want %v, %d", r.measure, r.members, got, why, r.want, r.why)
		}
	}
}

// P6.3, P6.6: Show and Right of all cells, there and back, and of those around them that can not be.
func TestShow(t *testing.T) {
	for _, c := range []api.Cat{
		cat(),
		changed(func(c *api.Cat) { c.Dims = c.Dims[1:] }),
		changed(func(c *api.Cat) { c.Dims = append(c.Dims, flat("x", 2), tall("y", 3)) }),
	} {
		d := made(t, c)
		seen := 0
		for i := range 8 * 8 * 8 * 8 * 8 {
			cell := api.Cell{Meas: i%8 - 2, At: [4]int{i/8%8 - 2, i/64%8 - 2, i/512%8 - 2, i/4096 - 2}}
			if holdCell(t, c, d, cell) {
				seen++
			}
		}
		want := len(c.Meas)
		for _, x := range c.Dims {
			want *= len(x.Nodes)
		}
		if seen != want {
			t.Errorf("%d cells can be; want %d", seen, want)
		}
	}
}

// holdCell holds d to what c says of a cell, and tells whether it can be.
func holdCell(t *testing.T, c api.Cat, d *dims.Dims, cell api.Cell) bool {
	t.Helper()
	right := cell.Meas >= 0 && cell.Meas < len(c.Meas)
	leaf := right
	var members []string
	for k, at := range cell.At {
		if k >= len(c.Dims) {
			right = right && at == 0
			continue
		}
		nodes := c.Dims[k].Nodes
		if at < 0 || at >= len(nodes) {
			right = false
			continue
		}
		members = append(members, nodes[at].Name)
		leaf = leaf && !slices.ContainsFunc(nodes, func(n api.Node) bool { return n.Up == at })
	}
	shown := ""
	if right {
		shown = c.Meas[cell.Meas] + "/" + strings.Join(members, "/")
	}
	if d.Right(cell) != right || d.Leaf(cell) != (right && leaf) || d.Show(cell) != shown {
		t.Errorf("%v: Right %t, Leaf %t, Show %q; want %t, %t, %q", cell, d.Right(cell), d.Leaf(cell), d.Show(cell), right, right && leaf, shown)
	}
	if right {
		if got, why := d.Cell(c.Meas[cell.Meas], members...); got != cell || why != api.OK {
			t.Errorf("Cell of %q = %v, %d; want %v", shown, got, why, cell)
		}
	}
	return right
}

// P6.3: places far out, also of dimensions that there are not.
func TestFarOut(t *testing.T) {
	d := made(t, cat())
	for _, far := range []int{-1, 3, 32, math.MinInt, math.MaxInt} {
		cells := []api.Cell{{Meas: far}}
		for k := range api.MaxDims {
			c := api.Cell{}
			c.At[k] = far
			cells = append(cells, c)
		}
		for _, c := range cells {
			if d.Right(c) || d.Leaf(c) || d.Show(c) != "" {
				t.Errorf("%v: Right %t, Leaf %t, Show %q", c, d.Right(c), d.Leaf(c), d.Show(c))
			}
		}
	}
	if d.Right(api.Cell{At: [4]int{0, 0, 1, 0}}) || d.Right(api.Cell{At: [4]int{0, 0, 0, 1}}) {
		t.Error("a place of a dimension that there is not")
	}
}

// P6.4: the bytes, written out.
func TestPut(t *testing.T) {
	c := api.Cat{Dims: []api.Dim{{Name: "p", Nodes: []api.Node{{Name: "all", Up: -1}, {Name: "b", Up: 0}}}, {Name: "", Nodes: nil}}, Meas: []string{"m", "no name"}, Leaves: 300, Scens: -2}
	want := "\x04\x02p\x04\x06all\x01\x02b\x00\x00\x00\x04\x02m\x0eno name\xd8\x04\x03"
	if got := dims.Put(c); string(got) != want {
		t.Errorf("Put = %x; want %x", got, want)
	}
	if got := dims.Put(api.Cat{}); string(got) != "\x00\x00\x00\x00" {
		t.Errorf("Put of nothing = %x", got)
	}
}

// P6.4, P6.5: there and back, also of catalogues that New refuses.
func TestThereAndBack(t *testing.T) {
	odd := []api.Cat{
		{},
		{Leaves: math.MinInt, Scens: math.MaxInt},
		{Dims: []api.Dim{flat("", 32), flat("a", 0), flat("a", 32), flat("a", 1)}, Meas: []string{"", "", "x/y", "\xff\x00"}, Leaves: -1},
		{Dims: []api.Dim{{Name: strings.Repeat("x", api.MaxText), Nodes: []api.Node{{Up: math.MinInt}, {Up: math.MaxInt}}}}},
		cat(),
	}
	for i, c := range odd {
		got, why := dims.Get(dims.Put(c))
		if why != api.OK || !dims.Same(got, c) {
			t.Errorf("%d: Get of Put = %v, %d", i, got, why)
		}
	}
	for _, f := range faults() {
		c := changed(f.put)
		got, why := dims.Get(dims.Put(c))
		tooMany := len(c.Dims) > api.MaxDims || len(c.Meas) > api.MaxMeas || slices.ContainsFunc(c.Dims, func(x api.Dim) bool { return len(x.Nodes) > api.MaxNodes })
		if tooMany && (why != api.ErrSize || !dims.Same(got, api.Cat{})) || !tooMany && (why != api.OK || !dims.Same(got, c)) {
			t.Errorf("%s: Get of Put = %v, %d", f.what, got, why)
		}
	}
}

// P6.4: bytes that are cut short, and bytes that are left.
func TestGetCut(t *testing.T) {
	whole := dims.Put(cat())
	for n := range whole {
		if got, why := dims.Get(whole[:n]); why != api.ErrShort || !dims.Same(got, api.Cat{}) {
			t.Errorf("Get of %d bytes = %v, %d", n, got, why)
		}
	}
	if got, why := dims.Get(nil); why != api.ErrShort || !dims.Same(got, api.Cat{}) {
		t.Errorf("Get(nil) = %v, %d", got, why)
	}
	for _, more := range []string{"\x00", "\xff", "more"} {
		if got, why := dims.Get(append(slices.Clone(whole), more...)); why != api.ErrForm || !dims.Same(got, api.Cat{}) {
			t.Errorf("Get with %q left = %v, %d", more, got, why)
		}
	}
}

// P6.4: numbers that are below 0, or too great, ahead of what is wrong behind them; and the reader's first fault.
func TestGetWrong(t *testing.T) {
	dim := wire.Text(wire.All(1), "p")
	member := wire.Put(wire.Text(append(slices.Clone(dim), wire.All(1)...), "a"), -1)
	rows := []struct {
		what string
		b    []byte
		why  api.Errno
	}{
		{"-1 dimensions", wire.All(-1, 0, 0, 0), api.ErrSize},
		{"5 dimensions", wire.All(5, 0, 0), api.ErrSize},
		{"the least number of dimensions", wire.All(math.MinInt64), api.ErrSize},
		{"the greatest number of dimensions", wire.All(math.MaxInt64), api.ErrSize},
		{"4 dimensions, and no more", wire.All(4), api.ErrShort},
		{"-1 members", append(slices.Clone(dim), wire.All(-1, 0, 0, 0)...), api.ErrSize},
		{"33 members", append(slices.Clone(dim), wire.All(33, 0, 0, 0)...), api.ErrSize},
		{"32 members, and no more", append(slices.Clone(dim), wire.All(32)...), api.ErrShort},
		{"-1 measures", append(slices.Clone(member), wire.All(-1, 0, 0)...), api.ErrSize},
		{"5 measures", append(slices.Clone(member), wire.All(5)...), api.ErrSize},
		{"4 measures, and no more", append(slices.Clone(member), wire.All(4)...), api.ErrShort},
		{"a name of -1 bytes", wire.All(1, -1, 0, 0, 0), api.ErrSize},
		{"a name of MaxText bytes and one more", wire.All(1, api.MaxText+1), api.ErrSize},
		{"a name that is too short", wire.All(1, 9, 1), api.ErrShort},
		{"a number with a needless byte", []byte{128, 0, 0, 0, 0}, api.ErrForm},
		{"a needless byte, and then too many", []byte{2, 128, 0, 127}, api.ErrForm},
		{"too many, and then a needless byte", append(wire.All(5), 128, 0), api.ErrSize},
		{"Leaves of a needless byte", append(append(slices.Clone(member), wire.All(0)...), 128, 0, 0), api.ErrForm},
		{"no Scens", append(slices.Clone(member), wire.All(0, 1)...), api.ErrShort},
		{"right", append(slices.Clone(member), wire.All(0, 1, 1)...), api.OK},
	}
	for _, r := range rows {
		same := slices.Clone(r.b)
		got, why := dims.Get(r.b)
		if why != r.why || why != api.OK && !dims.Same(got, api.Cat{}) {
			t.Errorf("%s: Get(%x) = %v, %d; want %d", r.what, r.b, got, why, r.why)
		}
		if !bytes.Equal(same, r.b) {
			t.Errorf("%s: Get wrote into its bytes", r.what)
		}
	}
}

// P6.4, P6: any bytes; what Get takes, Put gives back.
func TestGetAny(t *testing.T) {
	whole := dims.Put(cat())
	for i := range whole {
		for x := range 256 {
			b := slices.Clone(whole)
			b[i] = byte(x)
			c, why := dims.Get(b)
			if why == api.OK && !bytes.Equal(dims.Put(c), b) || why != api.OK && !dims.Same(c, api.Cat{}) {
				t.Errorf("Get(%x) = %v, %d", b, c, why)
			}
		}
	}
}

// P6.4: all names and numbers count, and how many there are; nil is as empty.
func TestSame(t *testing.T) {
	for what, put := range map[string]func(c *api.Cat){
		"a dimension's name":    func(c *api.Cat) { c.Dims[1].Name = "whem" },
		"a dimension less":      func(c *api.Cat) { c.Dims = c.Dims[:1] },
		"a dimension more":      func(c *api.Cat) { c.Dims = append(c.Dims, api.Dim{}) },
		"dimensions, changed":   func(c *api.Cat) { slices.Reverse(c.Dims) },
		"a member's name":       func(c *api.Cat) { c.Dims[0].Nodes[2].Name = "c" },
		"a member's Up":         func(c *api.Cat) { c.Dims[0].Nodes[2].Up = 1 },
		"a member less":         func(c *api.Cat) { c.Dims[1].Nodes = c.Dims[1].Nodes[:1] },
		"a member more":         func(c *api.Cat) { c.Dims[1].Nodes = append(c.Dims[1].Nodes, api.Node{}) },
		"a measure's name":      func(c *api.Cat) { c.Meas[1] = "costs" },
		"a measure less":        func(c *api.Cat) { c.Meas = c.Meas[:1] },
		"a measure more":        func(c *api.Cat) { c.Meas = append(c.Meas, "") },
		"measures, changed":     func(c *api.Cat) { slices.Reverse(c.Meas) },
		"Leaves":                func(c *api.Cat) { c.Leaves++ },
		"Scens":                 func(c *api.Cat) { c.Scens-- },
		"nothing":               func(c *api.Cat) { *c = api.Cat{} },
		"Leaves, Scens changed": func(c *api.Cat) { c.Leaves, c.Scens = c.Scens, c.Leaves },
	} {
		if c := changed(put); dims.Same(c, cat()) || dims.Same(cat(), c) || !dims.Same(c, changed(put)) {
			t.Errorf("Same: %s", what)
		}
	}
	if !dims.Same(cat(), cat()) || !dims.Same(api.Cat{}, api.Cat{Dims: []api.Dim{}, Meas: []string{}}) {
		t.Error("Same of the same")
	}
}

// P6.2, P6.3, P6: of nil.
func TestNil(t *testing.T) {
	var d *dims.Dims
	if !dims.Same(d.Cat(), api.Cat{}) || d.Many() != 0 || d.Find("place") != -1 || d.Meas("cost") != -1 {
		t.Error("Cat, Many, Find, Meas", d.Cat(), d.Many(), d.Find("place"), d.Meas("cost"))
	}
	for _, k := range []int{0, 1, -1, math.MinInt, math.MaxInt} {
		if d.Tree(k) != nil || d.Right(api.Cell{Meas: k}) || d.Leaf(api.Cell{At: [4]int{k}}) || d.Show(api.Cell{Meas: k}) != "" {
			t.Error("Tree, Right, Leaf, Show", k)
		}
	}
	for _, members := range [][]string{nil, {"all"}, {"all", "q1"}} {
		if c, why := d.Cell("cost", members...); c != (api.Cell{}) || why != api.ErrNil {
			t.Error("Cell", c, why)
		}
	}
	if z := (&dims.Dims{}); z.Right(api.Cell{}) || z.Leaf(api.Cell{}) || z.Many() != 0 || z.Show(api.Cell{}) != "" {
		t.Error("a zero catalogue")
	}
}
