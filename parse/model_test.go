package parse_test

import (
	"math"
	"math/rand"
	"regexp"
	"slices"
	"strconv"
	"strings"
	"testing"

	"moiety/api"
	"moiety/dims"
	"moiety/parse"
)

// table is the chapter's table of lines: SPREAD is equal, prop, or weight and a MEASURE; MEET is abort, ours or theirs.
var table = []string{
	"",
	"set USER SCEN CELL N SPREAD",
	"hold SCEN CELL",
	"release SCEN CELL",
	"lock USER SCEN CELL",
	"unlock USER SCEN CELL",
	"undo SCEN",
	"redo SCEN",
	"branch SCEN OTHER",
	"drop SCEN",
	"merge USER SCEN OTHER MEET",
	"get SCEN CELL",
	"free USER SCEN CELL",
	"diff SCEN OTHER",
	"holds SCEN",
	"locks SCEN",
	"scens",
	"slice SCEN CELL DIM",
	"top SCEN CELL N",
}

var (
	isName  = regexp.MustCompile(`^[A-Za-z][A-Za-z0-9_]{0,11}$`)
	isCell  = regexp.MustCompile(`^[A-Za-z][A-Za-z0-9_]{0,11}(/[A-Za-z][A-Za-z0-9_]{0,11})+$`)
	isNum   = regexp.MustCompile(`^(0|-?[1-9][0-9]*)$`)
	spreads = []string{"equal", "prop", "weight"}
	meets   = []string{"abort", "ours", "theirs"}
)

// pattern is what the line of a kind has; nothing, if there is no such kind.
func pattern(kind int) []string {
	if kind < 1 || kind >= len(table) {
		return nil
	}
	return strings.Fields(table[kind])
}

// wordsOf is the parts of a line between blanks.
func wordsOf(line string) []string {
	return slices.DeleteFunc(strings.Split(line, " "), func(s string) bool { return s == "" })
}

// parsed is what the chapter says of Parse, word by word along the line's pattern.
func parsed(c api.Cat, line string) (api.Cmd, int, api.Errno) {
	words := wordsOf(line)
	if len(words) == 0 {
		return api.Cmd{}, 0, api.ErrForm
	}
	var x api.Cmd
	for kind := range table {
		if p := pattern(kind); p != nil && p[0] == words[0] {
			x.Kind = kind
		}
	}
	if x.Kind == 0 {
		return api.Cmd{}, 0, api.ErrForm
	}
	wanted := pattern(x.Kind)
	for at := 1; at < len(wanted); at++ {
		if at == len(words) && (wanted[at] == "SPREAD" || wanted[at] == "MEET") {
			return x, 0, api.OK
		}
		if at == len(words) {
			return api.Cmd{}, at, api.ErrForm
		}
		if why := fill(c, &x, wanted[at], words[at]); why != api.OK {
			return api.Cmd{}, at, why
		}
		if words[at] == "weight" && wanted[at] == "SPREAD" {
			wanted = append(wanted, "MEASURE")
		}
	}
	if len(words) > len(wanted) {
		return api.Cmd{}, len(wanted), api.ErrForm
	}
	return x, 0, api.OK
}

// fill takes a word for what is wanted in its place.
func fill(c api.Cat, x *api.Cmd, wanted, word string) api.Errno {
	n, err := strconv.ParseInt(word, 10, 64)
	named := isName.MatchString(word)
	switch {
	case wanted == "N" && isNum.MatchString(word) && err == nil:
		x.N = n
	case wanted == "CELL" && isCell.MatchString(word):
		return fillCell(c, x, strings.Split(word, "/"))
	case wanted == "USER" && named:
		x.User = word
	case wanted == "SCEN" && named:
		x.Scen = word
	case wanted == "OTHER" && named:
		x.Other = word
	case wanted == "SPREAD" && slices.Contains(spreads, word):
		x.How = slices.Index(spreads, word)
	case wanted == "MEET" && slices.Contains(meets, word):
		x.How = slices.Index(meets, word)
	case wanted == "MEASURE" && named:
		x.Meas = slices.Index(c.Meas, word)
		return there(x.Meas)
	case wanted == "DIM" && named:
		x.Meas = slices.IndexFunc(c.Dims, func(y api.Dim) bool { return y.Name == word })
		return there(x.Meas)
	default:
		return api.ErrForm
	}
	return api.OK
}

// fillCell is what layer 6 says of Cell.
func fillCell(c api.Cat, x *api.Cmd, parts []string) api.Errno {
	x.Cell.Meas = slices.Index(c.Meas, parts[0])
	if x.Cell.Meas < 0 {
		return api.ErrNone
	}
	if len(parts)-1 != len(c.Dims) {
		return api.ErrSize
	}
	for k, member := range parts[1:] {
		x.Cell.At[k] = slices.IndexFunc(c.Dims[k].Nodes, func(y api.Node) bool { return y.Name == member })
		if x.Cell.At[k] < 0 {
			return api.ErrNone
		}
	}
	return api.OK
}

func there(at int) api.Errno {
	if at < 0 {
		return api.ErrNone
	}
	return api.OK
}

// named is a command without the fields that its kind does not name.
func named(x api.Cmd) api.Cmd {
	y := api.Cmd{Kind: x.Kind}
	for _, field := range pattern(x.Kind) {
		switch field {
		case "USER":
			y.User = x.User
		case "SCEN":
			y.Scen = x.Scen
		case "OTHER":
			y.Other = x.Other
		case "CELL":
			y.Cell = x.Cell
		case "N":
			y.N = x.N
		case "DIM":
			y.Meas = x.Meas
		case "MEET":
			y.How = x.How
		case "SPREAD":
			y.How = x.How
			if x.How == api.Weight {
				y.Meas = x.Meas
			}
		}
	}
	return y
}

// at is the text in a place; one that can stand nowhere, if there is none.
func at(l []string, k int) string {
	if k < 0 || k >= len(l) {
		return "?"
	}
	return l[k]
}

// lined is what the chapter says of Line: of all that a line of the kind could be, the one of which x is the command, if there is one.
func lined(c api.Cat, x api.Cmd) (string, api.Errno) {
	var dim []string
	for _, y := range c.Dims {
		dim = append(dim, y.Name)
	}
	var l []string
	for i, field := range pattern(x.Kind) {
		switch {
		case i == 0:
			l = append(l, field)
		case field == "USER":
			l = append(l, x.User)
		case field == "SCEN":
			l = append(l, x.Scen)
		case field == "OTHER":
			l = append(l, x.Other)
		case field == "CELL":
			l = append(l, cellText(c, x.Cell))
		case field == "N":
			l = append(l, strconv.FormatInt(x.N, 10))
		case field == "DIM":
			l = append(l, at(dim, x.Meas))
		case field == "MEET" && x.How != 0:
			l = append(l, at(meets, x.How))
		case field == "SPREAD" && x.How == api.Weight:
			l = append(l, "weight", at(c.Meas, x.Meas))
		case field == "SPREAD" && x.How != 0:
			l = append(l, at(spreads, x.How))
		}
	}
	line := strings.Join(l, " ")
	if y, _, why := parsed(c, line); why != api.OK || y != named(x) {
		return "", api.ErrArg
	}
	return line, api.OK
}

func cellText(c api.Cat, y api.Cell) string {
	l := []string{at(c.Meas, y.Meas)}
	for k, dim := range c.Dims {
		var members []string
		for _, node := range dim.Nodes {
			members = append(members, node.Name)
		}
		l = append(l, at(members, y.At[k]))
	}
	return strings.Join(l, "/")
}

// plain is a line's words with one blank between, without equal and abort where these need not be written.
func plain(line string) string {
	l := wordsOf(line)
	if l[0] == "set" && len(l) > 5 && l[5] == "equal" {
		l = l[:5]
	}
	if l[0] == "merge" && len(l) > 4 && l[4] == "abort" {
		l = l[:4]
	}
	return strings.Join(l, " ")
}

// catalogues is one, two, and MaxDims dimensions, and none.
func catalogues() []*dims.Dims {
	place := api.Dim{Name: "place", Nodes: []api.Node{{Name: "all", Up: -1}, {Name: "a", Up: 0}, {Name: "b", Up: 0}}}
	when := api.Dim{Name: "when", Nodes: []api.Node{{Name: "year", Up: -1}, {Name: "q1", Up: 0}, {Name: "a", Up: 0}}}
	what := api.Dim{Name: "what", Nodes: []api.Node{{Name: "a", Up: -1}}}
	who := api.Dim{Name: "who", Nodes: []api.Node{{Name: "b", Up: -1}, {Name: "a", Up: -1}}}
	l := []*dims.Dims{new(dims.Dims)}
	for _, c := range []api.Cat{
		{Dims: []api.Dim{place}, Meas: []string{"m", "n"}, Leaves: 3, Scens: 4},
		{Dims: []api.Dim{place, when}, Meas: []string{"m", "a", "set"}, Leaves: 3, Scens: 4},
		{Dims: []api.Dim{what, place, who, when}, Meas: []string{"m"}, Leaves: 3, Scens: 4},
	} {
		d, _, _ := dims.New(c)
		l = append(l, d)
	}
	return l
}

// same holds Parse of a line, and Line of its command, against the chapter's words.
func same(t *testing.T, d *dims.Dims, c api.Cat, line string) {
	t.Helper()
	x, at, why := parse.Parse(d, line)
	wantX, wantAt, wantWhy := parsed(c, line)
	if x != wantX || at != wantAt || why != wantWhy {
		t.Fatalf("Parse(%q) = %+v, %d, %d; want %+v, %d, %d", line, x, at, why, wantX, wantAt, wantWhy)
	}
	if why != api.OK {
		return
	}
	if s, why := parse.Line(d, x); s != plain(line) || why != api.OK {
		t.Fatalf("Line of Parse of %q = %q, %d; want %q", line, s, why, plain(line))
	}
}

// someWords is words of all kinds: such as stand in lines, such as are almost these, and others.
func someWords() []string {
	l := []string{
		"ann", "main", "p", "m", "n", "a", "b", "all", "x", "place", "when", "what", "who", "equal", "prop", "weight", "abort", "ours", "theirs",
		"m/a", "m/all", "n/b", "m/a/q1", "a/all/year", "set/b/a", "m/a/all/b/q1", "m/a/a/a/a", "m/x", "x/a", "m/a/x", "m/a/a/a/a/a", "m/", "/",
		"0", "5", "-5", "3", "9223372036854775807", "-9223372036854775808", "9223372036854775808", "-0", "05", "+5",
		"#", "\t", "m\n", "é", "abcdefghijkl", "abcdefghijklm", "SET", "Prop",
	}
	for kind := range 20 {
		if p := pattern(kind); p != nil {
			l = append(l, p[0])
		}
	}
	return l
}

// fits is the words that may stand where one is wanted.
func fits(r *rand.Rand, c api.Cat, wanted string) []string {
	pick := func(l ...string) []string { return []string{l[r.Intn(len(l))]} }
	switch wanted {
	case "CELL":
		if len(c.Meas) == 0 {
			return pick("m/a")
		}
		y := api.Cell{Meas: r.Intn(len(c.Meas))}
		for k, dim := range c.Dims {
			y.At[k] = r.Intn(len(dim.Nodes))
		}
		return pick(cellText(c, y))
	case "N":
		return pick("0", "1", "-1", strconv.FormatInt(int64(r.Uint64()), 10), "9223372036854775807", "-9223372036854775808")
	case "DIM":
		return pick("place", "when", "who")
	case "MEET":
		return [][]string{nil, {"abort"}, {"ours"}, {"theirs"}}[r.Intn(4)]
	case "SPREAD":
		return [][]string{nil, {"equal"}, {"prop"}, {"weight", "m"}, {"weight", "n"}}[r.Intn(5)]
	case "USER", "SCEN", "OTHER":
		return pick("ann", "main", "p", "x_1", "set", "weight", "abcdefghijkl")
	}
	return []string{wanted}
}

// anyLine is a line of a kind, often with a word or two that it should not have, or without one that it should.
func anyLine(r *rand.Rand, c api.Cat, some []string) string {
	var l []string
	for _, wanted := range pattern(1 + r.Intn(18)) {
		l = append(l, fits(r, c, wanted)...)
	}
	for range r.Intn(3) {
		i, word := r.Intn(len(l)+1), some[r.Intn(len(some))]
		switch {
		case r.Intn(2) == 0 && i < len(l):
			l[i] = word
		case r.Intn(2) == 0:
			l = slices.Insert(l, i, word)
		default:
			l = slices.Delete(l, min(i, len(l)), min(i+1, len(l)))
		}
	}
	blanks := []string{" ", "  ", "   "}
	line := blanks[r.Intn(3)][1:]
	for _, word := range l {
		line += word + blanks[r.Intn(3)]
	}
	return line
}

// P29.2, P29.4, P29.5, P6: any line, of catalogues with and without dimensions.
func TestAnyLine(t *testing.T) {
	r := rand.New(rand.NewSource(29))
	some := someWords()
	for _, d := range catalogues() {
		c, right := d.Cat(), 0
		for range 30000 {
			line := anyLine(r, c, some)
			same(t, d, c, line)
			if _, _, why := parse.Parse(d, line); why == api.OK {
				right++
			}
		}
		if right < 5000 {
			t.Errorf("%d lines alone are commands", right)
		}
	}
}

// P29.2, P6: any bytes.
func TestAnyBytes(t *testing.T) {
	r := rand.New(rand.NewSource(30))
	d := catalogues()[1]
	c, some := d.Cat(), someWords()
	for range 30000 {
		var b []byte
		for range r.Intn(12) {
			if r.Intn(2) == 0 {
				b = append(b, byte(r.Intn(256)))
			} else {
				b = append(b, some[r.Intn(len(some))]...)
			}
			if r.Intn(2) == 0 {
				b = append(b, ' ')
			}
		}
		same(t, d, c, string(b))
	}
}

// P29.2: a line of each kind, in each place of which each of some words is put, or put for the one that is there, with what stands behind it and without.
func TestEveryWord(t *testing.T) {
	r := rand.New(rand.NewSource(31))
	some := someWords()
	for _, d := range catalogues()[1:3] {
		c := d.Cat()
		for kind := 1; kind <= 18; kind++ {
			var l []string
			for _, wanted := range pattern(kind) {
				l = append(l, fits(r, c, wanted)...)
			}
			for i := range len(l) + 1 {
				for _, word := range some {
					same(t, d, c, strings.Join(slices.Insert(slices.Clone(l), i, word), " "))
					if i < len(l) {
						changed := slices.Clone(l)
						changed[i] = word
						same(t, d, c, strings.Join(changed, " "))
						same(t, d, c, strings.Join(changed[:i+1], " "))
					}
				}
			}
		}
	}
}

// anyCmd is a command of any kind, and of none, whose fields mostly can be.
func anyCmd(r *rand.Rand) api.Cmd {
	name := func() string {
		if r.Intn(12) > 0 {
			return []string{"ann", "main", "p", "set", "abcdefghijkl"}[r.Intn(5)]
		}
		return []string{"", "x y", "5", "m/a", "abcdefghijklm", "é", " ", "a ", "_a", "\x00"}[r.Intn(10)]
	}
	small := func() int {
		if r.Intn(30) > 0 {
			return r.Intn(2)
		}
		return []int{-1, 2, 3, 4, 32, 256, 1 << 32, math.MaxInt, math.MinInt}[r.Intn(9)]
	}
	x := api.Cmd{Kind: 1 + r.Intn(18), User: name(), Scen: name(), Other: name(), How: r.Intn(3), Meas: small()}
	x.Cell.Meas = small()
	for k := range r.Intn(5) {
		x.Cell.At[k] = small()
	}
	x.N = []int64{0, 1, -1, 77, math.MaxInt64, math.MinInt64}[r.Intn(6)]
	if r.Intn(20) == 0 {
		x.Kind = []int{-1, 0, 19, 20, 256 + 1, 1<<32 + 1, math.MaxInt, math.MinInt}[r.Intn(8)]
	}
	if r.Intn(10) == 0 {
		x.How = []int{-1, 3, 256, 1 << 32, math.MaxInt, math.MinInt}[r.Intn(6)]
	}
	return x
}

// P29.3, P29.4, P6: any command, of catalogues with and without dimensions.
func TestAnyCmd(t *testing.T) {
	r := rand.New(rand.NewSource(32))
	for _, d := range catalogues() {
		c, right := d.Cat(), 0
		for range 40000 {
			x := anyCmd(r)
			s, why := parse.Line(d, x)
			if want, wantWhy := lined(c, x); s != want || why != wantWhy {
				t.Fatalf("Line(%+v) = %q, %d; want %q, %d", x, s, why, want, wantWhy)
			}
			if why != api.OK {
				continue
			}
			right++
			if y, at, why := parse.Parse(d, s); y != named(x) || at != 0 || why != api.OK {
				t.Fatalf("Parse of Line of %+v: %+v, %d, %d", x, y, at, why)
			}
		}
		if right < 5000 {
			t.Errorf("%d commands alone have lines", right)
		}
	}
}
