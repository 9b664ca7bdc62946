package script_test

import (
	"math/rand"
	"slices"
	"strconv"
	"strings"
	"testing"

	"moiety/api"
	"moiety/cube"
	"moiety/dims"
	"moiety/parse"
	"moiety/script"
	"moiety/shell"
	"moiety/show"
)

func node(name string, up int) api.Node { return api.Node{Name: name, Up: up} }

// small is leaves a and b below all.
func small() api.Cat {
	x := api.Dim{Name: "x", Nodes: []api.Node{node("all", -1), node("a", 0), node("b", 0)}}
	return api.Cat{Dims: []api.Dim{x}, Meas: []string{"m", "n"}, Leaves: 8, Scens: 3}
}

// numbered is a dimension of so many members, each of a name of its own, all but the first below it.
func numbered(name string, n int) api.Dim {
	d := api.Dim{Name: name, Nodes: []api.Node{node("All_members_", -1)}}
	for i := 1; i < n; i++ {
		d.Nodes = append(d.Nodes, node("Member_no_"+strconv.Itoa(i), 0))
	}
	return d
}

func cats() map[string]api.Cat {
	deep := api.Dim{Name: "Y_0", Nodes: []api.Node{node("a", -1), node("b", 0), node("c", 1), node("d", 2), node("e", 3), node("f", 4), node("g", -1), node("h", 1)}}
	one := api.Dim{Name: "one", Nodes: []api.Node{node("a", -1)}}
	return map[string]api.Cat{
		"least": {Dims: []api.Dim{one}, Meas: []string{"m"}, Leaves: 1, Scens: 1},
		"small": small(),
		"words": {Dims: []api.Dim{{Name: "open", Nodes: []api.Node{node("stop", -1), node("up", 0), node("node", 1)}}, {Name: "dim", Nodes: []api.Node{node("dim", -1)}}}, Meas: []string{"compact", "limit"}, Leaves: 3, Scens: 2},
		"four":  {Dims: []api.Dim{small().Dims[0], deep, one, numbered("Dimension_04", 5)}, Meas: []string{"m", "n", "o", "Measure_no_4"}, Leaves: 1024, Scens: 8},
		"wide":  {Dims: []api.Dim{numbered("Dimension_01", 32), numbered("Dimension_02", 32)}, Meas: []string{"m"}, Leaves: 1000, Scens: 8},
	}
}

// lines is those that make and open a catalogue.
func lines(c api.Cat) []string {
	var l []string
	for _, d := range c.Dims {
		l = append(l, "dim "+d.Name)
	}
	for _, d := range c.Dims {
		for _, n := range d.Nodes {
			above := ""
			if n.Up != -1 {
				above = " " + d.Nodes[n.Up].Name
			}
			l = append(l, "node "+d.Name+" "+n.Name+above)
		}
	}
	for _, name := range c.Meas {
		l = append(l, "measure "+name)
	}
	return append(l, "limit leaves "+strconv.Itoa(c.Leaves), "limit scens "+strconv.Itoa(c.Scens), "open")
}

func ended(l []string) string {
	whole := ""
	for _, line := range l {
		whole += line + "\n"
	}
	return whole
}

// shown is a cell as it stands in a line.
func shown(c api.Cat, cell api.Cell) string {
	s := c.Meas[cell.Meas]
	for k, d := range c.Dims {
		s += "/" + d.Nodes[cell.At[k]].Name
	}
	return s
}

// line is that of a command that has one, and bare the command without what its kind does not name.
func line(c api.Cat, x api.Cmd) (string, api.Cmd) {
	bare := api.Cmd{Kind: x.Kind}
	user := func() string { bare.User = x.User; return " " + x.User }
	scen := func() string { bare.Scen = x.Scen; return " " + x.Scen }
	other := func() string { bare.Other = x.Other; return " " + x.Other }
	cell := func() string { bare.Cell = x.Cell; return " " + shown(c, x.Cell) }
	n := func() string { bare.N = x.N; return " " + strconv.FormatInt(x.N, 10) }
	how := func(words ...string) string { bare.How = x.How; return words[x.How] }
	switch x.Kind {
	case api.CSet:
		s := "set" + user() + scen() + cell() + n() + how("", " prop", " weight")
		if x.How == api.Weight {
			bare.Meas = x.Meas
			s += " " + c.Meas[x.Meas]
		}
		return s, bare
	case api.CHold:
		return "hold" + scen() + cell(), bare
	case api.CRelease:
		return "release" + scen() + cell(), bare
	case api.CLock:
		return "lock" + user() + scen() + cell(), bare
	case api.CUnlock:
		return "unlock" + user() + scen() + cell(), bare
	case api.CUndo:
		return "undo" + scen(), bare
	case api.CRedo:
		return "redo" + scen(), bare
	case api.CBranch:
		return "branch" + scen() + other(), bare
	case api.CDrop:
		return "drop" + scen(), bare
	case api.CMerge:
		return "merge" + user() + scen() + other() + how("", " ours", " theirs"), bare
	case api.CGet:
		return "get" + scen() + cell(), bare
	case api.CFree:
		return "free" + user() + scen() + cell(), bare
	case api.CDiff:
		return "diff" + scen() + other(), bare
	case api.CHolds:
		return "holds" + scen(), bare
	case api.CLocks:
		return "locks" + scen(), bare
	case api.CScens:
		return "scens", bare
	case api.CSlice:
		bare.Meas = x.Meas
		return "slice" + scen() + cell() + " " + c.Dims[x.Meas].Name, bare
	}
	return "top" + scen() + cell() + n(), bare
}

// dice is commands and texts by chance.
type dice struct{ *rand.Rand }

func (d dice) pick(l ...string) string { return l[d.Intn(len(l))] }

// command is one that has a line; what its kind does not name is anything.
func (d dice) command(c api.Cat) api.Cmd {
	x := api.Cmd{Kind: 1 + d.Intn(18), User: d.pick("ann", "bob", "User_no_0012"), Scen: d.pick("main", "p", "Scenario_012"), Other: d.pick("main", "p", "q", "Scenario_012"), N: d.Int63() - d.Int63(), How: d.Intn(3)}
	if d.Intn(3) > 0 {
		x.N = int64(d.Intn(30) - 10)
	}
	x.Cell.Meas = d.Intn(len(c.Meas))
	for k, dim := range c.Dims {
		x.Cell.At[k] = d.Intn(len(dim.Nodes))
	}
	x.Meas = d.Intn(min(len(c.Dims), len(c.Meas)))
	if d.Intn(2) == 0 {
		return d.junk(x)
	}
	return x
}

// junk writes something into what the command's kind does not name.
func (d dice) junk(x api.Cmd) api.Cmd {
	many := func(kinds ...int) bool { return slices.Contains(kinds, x.Kind) }
	if !many(api.CSet, api.CLock, api.CUnlock, api.CMerge, api.CFree) {
		x.User = d.pick("", "no name", "\n", "x/y")
	}
	if x.Kind == api.CScens {
		x.Scen = "1"
	}
	if !many(api.CBranch, api.CMerge, api.CDiff) {
		x.Other = "\xff"
	}
	if !many(api.CSet, api.CHold, api.CRelease, api.CLock, api.CUnlock, api.CGet, api.CFree, api.CSlice, api.CTop) {
		x.Cell = api.Cell{Meas: -1, At: [api.MaxDims]int{99, -7}}
	}
	if !many(api.CSet, api.CMerge) {
		x.How = -5
	}
	if x.Kind != api.CSlice && (x.Kind != api.CSet || x.How != api.Weight) {
		x.Meas = 77
	}
	return x
}

func (d dice) commands(c api.Cat, n int) []api.Cmd {
	l := make([]api.Cmd, n)
	for i := range l {
		l[i] = d.command(c)
	}
	return l
}

// reads is what Read must tell of a text: the lines ahead of open are asked of a shell each, that has done all lines ahead of it.
func reads(t *testing.T, whole string) (api.Cat, []api.Cmd, int, api.Errno) {
	t.Helper()
	no := func(at int, why api.Errno) (api.Cat, []api.Cmd, int, api.Errno) { return api.Cat{}, nil, at, why }
	if len(whole) > 8000 {
		return no(0, api.ErrSize)
	}
	l := strings.Split(whole, "\n")
	if last := len(l) - 1; l[last] == "" {
		l = l[:last]
	}
	var d *dims.Dims
	var cmds []api.Cmd
	for i, line := range l {
		words := strings.FieldsFunc(line, func(r rune) bool { return r == ' ' })
		switch {
		case len(line) > 200:
			return no(i, api.ErrSize)
		case len(words) == 0 || words[0][0] == '#':
		case d == nil:
			s, _ := shell.New(4096)
			for _, ahead := range l[:i] {
				s.Do(ahead)
			}
			if words[0] == "stop" || words[0] == "compact" || words[0] == "up" || !slices.Equal(s.Do(line), []string{"ok"}) {
				return no(i, api.ErrForm)
			}
			if words[0] == "open" {
				d, _, _ = dims.New(s.Cat())
			}
		default:
			x, _, why := parse.Parse(d, line)
			if why != api.OK {
				return no(i, api.ErrForm)
			}
			cmds = append(cmds, x)
		}
	}
	if d == nil {
		return no(len(l), api.ErrForm)
	}
	return d.Cat(), cmds, 0, api.OK
}

// asksRead holds what Read tells of a text against reads.
func asksRead(t *testing.T, whole string) api.Errno {
	t.Helper()
	wantCat, want, wantAt, wantWhy := reads(t, whole)
	c, l, at, why := script.Read(whole)
	if why != wantWhy || at != wantAt || !slices.Equal(l, want) || !dims.Same(c, wantCat) {
		t.Fatalf("Read(%q) = %v, %v, %d, %d; want %v, %v, %d, %d", whole, c, l, at, why, wantCat, want, wantAt, wantWhy)
	}
	return why
}

// wrong holds that Read refuses a text, and tells nothing but where and why.
func wrong(t *testing.T, whole string, at int, why api.Errno) {
	t.Helper()
	c, l, place, e := script.Read(whole)
	if place != at || e != why || len(l) != 0 || !dims.Same(c, api.Cat{}) {
		t.Errorf("Read(%.60q) = %v, %v, %d, %d; want %d, %d", whole, c, l, place, e, at, why)
	}
}

// traced is what Trace of a script must tell: ok for each line up to open, and then each reply of a cube.
func traced(t *testing.T, c api.Cat, l []api.Cmd) string {
	t.Helper()
	d, _, _ := dims.New(c)
	q, _, why := cube.New(c)
	if why != api.OK {
		t.Fatal("cube", why)
	}
	told := strings.Repeat("ok\n", len(lines(c)))
	for _, x := range l {
		told += ended(show.Reply(d, x.Kind, q.Do(x)))
	}
	return told
}
