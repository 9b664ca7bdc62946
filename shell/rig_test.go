package shell_test

import (
	"bytes"
	"math/rand"
	"slices"
	"strconv"
	"strings"
	"testing"

	"moiety/api"
	"moiety/dims"
	"moiety/shell"
	"moiety/snap"
)

// rig is a shell, and the lists that say what it must answer.
type rig struct {
	t *testing.T
	s *shell.Shell
	w *world
}

func newShell(t *testing.T, blocks int) *shell.Shell {
	t.Helper()
	s, why := shell.New(blocks)
	if s == nil || why != api.OK {
		t.Fatal("New", blocks, s, why)
	}
	return s
}

func newRig(t *testing.T, blocks int) *rig {
	t.Helper()
	return &rig{t, newShell(t, blocks), newWorld()}
}

// opened is a rig of a catalogue, behind open.
func opened(t *testing.T, blocks int, cat api.Cat) *rig {
	t.Helper()
	r := newRig(t, blocks)
	r.do(makes(cat)...)
	if !r.w.open {
		t.Fatal("a catalogue that can not be")
	}
	return r
}

// do does lines, and holds their answers, and the catalogue, against the lists'.
func (r *rig) do(lines ...string) {
	r.t.Helper()
	for _, line := range lines {
		want := r.w.answer(line)
		if l := r.s.Do(line); !slices.Equal(l, want) {
			r.t.Fatalf("%q: %q; want %q", line, l, want)
		}
	}
	if c := r.s.Cat(); !dims.Same(c, r.w.cat) {
		r.t.Fatalf("Cat = %+v; want %+v", c, r.w.cat)
	}
	if (r.s.Store() != nil) != r.w.open {
		r.t.Fatal("Store", r.s.Store(), r.w.open)
	}
}

// probe holds all that can be asked of all scenarios against the lists'.
func (r *rig) probe() {
	r.t.Helper()
	r.do(asks(r.w)...)
}

// says does a line, whose answer is told.
func says(t *testing.T, s *shell.Shell, line string, want ...string) {
	t.Helper()
	if l := s.Do(line); !slices.Equal(l, want) {
		t.Errorf("%q: %q; want %q", line, l, want)
	}
}

// picture is all that the shell's cube has.
func picture(s *shell.Shell) []byte {
	return snap.Put(s.Store().Cube())
}

// kept holds that a line that has an error leaves all as it was.
func kept(t *testing.T, s *shell.Shell, line string, want ...string) {
	t.Helper()
	file, store, cat := s.File().Copy(), s.Store(), s.Cat()
	var cube []byte
	if store != nil {
		cube = picture(s)
	}
	says(t, s, line, want...)
	if !s.File().Same(file) || s.Store() != store || !dims.Same(s.Cat(), cat) || s.File().Off() != file.Off() {
		t.Errorf("%q changes something", line)
	}
	if store != nil && !bytes.Equal(picture(s), cube) {
		t.Errorf("%q changes the cube", line)
	}
}

// makes is the lines of which a catalogue is made, and open.
func makes(c api.Cat) []string {
	var l []string
	for _, d := range c.Dims {
		l = append(l, "dim "+d.Name)
		for _, n := range d.Nodes {
			if n.Up < 0 {
				l = append(l, "node "+d.Name+" "+n.Name)
			} else {
				l = append(l, "node "+d.Name+" "+n.Name+" "+d.Nodes[n.Up].Name)
			}
		}
	}
	for _, name := range c.Meas {
		l = append(l, "measure "+name)
	}
	return append(l, "limit leaves "+strconv.Itoa(c.Leaves), "limit scens "+strconv.Itoa(c.Scens), "open")
}

// asks is lines that ask all that can be asked.
func asks(w *world) []string {
	l := []string{"scens"}
	for _, name := range w.names() {
		l = append(l, "holds "+name, "locks "+name)
		for _, other := range w.names() {
			l = append(l, "diff "+name+" "+other)
		}
		for i, c := range w.cells {
			shown := name + " " + w.show(c)
			l = append(l, "get "+shown)
			if i%3 == 0 {
				l = append(l, "free ann "+shown, "free bob "+shown, "top "+shown+" 3")
				for _, d := range w.cat.Dims {
					l = append(l, "slice "+shown+" "+d.Name)
				}
			}
		}
	}
	return l
}

func node(name string, up int) api.Node { return api.Node{Name: name, Up: up} }

// small is leaves a and b below all.
func small() api.Cat {
	x := api.Dim{Name: "x", Nodes: []api.Node{node("all", -1), node("a", 0), node("b", 0)}}
	return api.Cat{Dims: []api.Dim{x}, Meas: []string{"m"}, Leaves: 8, Scens: 3}
}

// cats are of one to four dimensions, with several trees, and with members deep below others.
func cats() map[string]api.Cat {
	place := api.Dim{Name: "place", Nodes: []api.Node{node("all", -1), node("n", 0), node("s", 0), node("a", 1), node("b", 1), node("c", 1)}}
	when := api.Dim{Name: "when", Nodes: []api.Node{node("year", -1), node("later", -1), node("q1", 0), node("q2", 0)}}
	one := api.Dim{Name: "one", Nodes: []api.Node{node("a", -1)}}
	who := api.Dim{Name: "who", Nodes: []api.Node{node("set", -1), node("open", 0), node("up", 1)}}
	return map[string]api.Cat{
		"small": small(),
		"tiny":  {Dims: []api.Dim{one}, Meas: []string{"m"}, Leaves: 1, Scens: 1},
		"place": {Dims: []api.Dim{place}, Meas: []string{"m", "n"}, Leaves: 7, Scens: 4},
		"two":   {Dims: []api.Dim{place, when}, Meas: []string{"m"}, Leaves: 1024, Scens: 3},
		"four":  {Dims: []api.Dim{who, when, one, small().Dims[0]}, Meas: []string{"m", "dim"}, Leaves: 11, Scens: 8},
	}
}

// dice throws lines.
type dice struct {
	*rand.Rand
	w *world
}

func (d dice) pick(l ...string) string { return l[d.Intn(len(l))] }

// word is one that mostly can stand where one is wanted.
func (d dice) word(want string) string {
	switch strings.TrimPrefix(want, "?") {
	case "USER":
		return d.pick("ann", "ann", "bob")
	case "SCEN", "OTHER":
		return d.pick("main", "main", "p", "p", "q", "r")
	case "CELL":
		if len(d.w.cells) == 0 || d.Intn(30) == 0 {
			return d.pick("m/a", "m/all", "x/a", "m/a/a/a/a/a")
		}
		return d.w.show(d.w.cells[d.Intn(len(d.w.cells))])
	case "N", "M":
		return d.number()
	case "SPREAD":
		return d.pick("", "", "equal", "prop", "prop", "weight "+d.pick("m", "n", "dim"))
	case "MEET":
		return d.pick("", "abort", "ours", "theirs")
	case "DIM":
		return d.pick("place", "when", "one", "who", "x")
	case "LIMIT":
		return d.pick("leaves", "scens")
	case "KIND":
		return d.pick("place", "x", "x")
	case "ABOVE":
		return d.pick("", "a", "b", "all")
	case "NEW":
		return d.pick("place", "x", "a", "b", "all", "m", "n")
	}
	return want
}

func (d dice) number() string {
	switch d.Intn(40) {
	case 0:
		return "9223372036854775807"
	case 1:
		return "-9223372036854775808"
	case 2:
		return num(int64(d.Uint64()))
	}
	return num(int64(d.Intn(300) - 60))
}

// line is one of the table, now and then with words that it should not have, or without some that it should; none ends what a shell has.
func (d dice) line() string {
	k := d.Intn(len(table))
	for strings.HasPrefix(table[k], "stop") || d.Intn(3) > 0 && k < len(table)-commands {
		k = d.Intn(len(table))
	}
	var l []string
	for _, want := range strings.Fields(table[k]) {
		l = append(l, d.word(want))
	}
	for d.Intn(12) == 0 {
		i, word := d.Intn(len(l)+1), d.pick("x", "5", "m/a", "m", "?", "ann", "main", "-0", "99999999999999999999", "é", "\x00")
		switch {
		case d.Intn(3) == 0:
			l = slices.Insert(l, i, word)
		case i == len(l):
			l = l[:max(0, i-1)]
		default:
			l[i] = word
		}
	}
	return strings.Join(l, " ")
}
