package parse_test

import (
	"math"
	"strings"
	"testing"

	"moiety/api"
	"moiety/dims"
	"moiety/parse"
)

const (
	least    = "-9223372036854775808"
	greatest = "9223372036854775807"
)

// row is a line, and the command that it is.
type row struct {
	line string
	x    api.Cmd
}

// rows is a line of each kind, in the catalogue of one dimension, with each word that may stand behind set and merge.
func rows() []row {
	nb := api.Cell{Meas: 1, At: [4]int{2}}
	return []row{
		{"set ann main n/b -5", api.Cmd{Kind: api.CSet, User: "ann", Scen: "main", Cell: nb, N: -5}},
		{"set ann main n/b -5 prop", api.Cmd{Kind: api.CSet, User: "ann", Scen: "main", Cell: nb, N: -5, How: api.Prop}},
		{"set ann main n/b -5 weight m", api.Cmd{Kind: api.CSet, User: "ann", Scen: "main", Cell: nb, N: -5, How: api.Weight}},
		{"set ann main n/b -5 weight n", api.Cmd{Kind: api.CSet, User: "ann", Scen: "main", Cell: nb, N: -5, How: api.Weight, Meas: 1}},
		{"hold main n/b", api.Cmd{Kind: api.CHold, Scen: "main", Cell: nb}},
		{"release main n/b", api.Cmd{Kind: api.CRelease, Scen: "main", Cell: nb}},
		{"lock ann main n/b", api.Cmd{Kind: api.CLock, User: "ann", Scen: "main", Cell: nb}},
		{"unlock ann main n/b", api.Cmd{Kind: api.CUnlock, User: "ann", Scen: "main", Cell: nb}},
		{"undo main", api.Cmd{Kind: api.CUndo, Scen: "main"}},
		{"redo main", api.Cmd{Kind: api.CRedo, Scen: "main"}},
		{"branch main p", api.Cmd{Kind: api.CBranch, Scen: "main", Other: "p"}},
		{"drop p", api.Cmd{Kind: api.CDrop, Scen: "p"}},
		{"merge ann p main", api.Cmd{Kind: api.CMerge, User: "ann", Scen: "p", Other: "main"}},
		{"merge ann p main ours", api.Cmd{Kind: api.CMerge, User: "ann", Scen: "p", Other: "main", How: api.Ours}},
		{"merge ann p main theirs", api.Cmd{Kind: api.CMerge, User: "ann", Scen: "p", Other: "main", How: api.Theirs}},
		{"get main n/b", api.Cmd{Kind: api.CGet, Scen: "main", Cell: nb}},
		{"free ann main n/b", api.Cmd{Kind: api.CFree, User: "ann", Scen: "main", Cell: nb}},
		{"diff p main", api.Cmd{Kind: api.CDiff, Scen: "p", Other: "main"}},
		{"holds main", api.Cmd{Kind: api.CHolds, Scen: "main"}},
		{"locks main", api.Cmd{Kind: api.CLocks, Scen: "main"}},
		{"scens", api.Cmd{Kind: api.CScens}},
		{"slice main n/b place", api.Cmd{Kind: api.CSlice, Scen: "main", Cell: nb}},
		{"top main n/b 7", api.Cmd{Kind: api.CTop, Scen: "main", Cell: nb, N: 7}},
	}
}

// is holds that a line is a command.
func is(t *testing.T, d *dims.Dims, line string, want api.Cmd) {
	t.Helper()
	if x, at, why := parse.Parse(d, line); x != want || at != 0 || why != api.OK {
		t.Errorf("Parse(%q) = %+v, %d, %d; want %+v", line, x, at, why, want)
	}
}

// isNot holds which word of a line can not stand there, and why.
func isNot(t *testing.T, d *dims.Dims, line string, at int, why api.Errno) {
	t.Helper()
	if x, a, w := parse.Parse(d, line); x != (api.Cmd{}) || a != at || w != why {
		t.Errorf("Parse(%q) = %+v, %d, %d; want %d, %d", line, x, a, w, at, why)
	}
}

// written holds the line of a command.
func written(t *testing.T, d *dims.Dims, x api.Cmd, want string) {
	t.Helper()
	if s, why := parse.Line(d, x); s != want || why != api.OK {
		t.Errorf("Line(%+v) = %q, %d; want %q", x, s, why, want)
	}
}

// refused holds why a command has no line.
func refused(t *testing.T, d *dims.Dims, x api.Cmd, want api.Errno) {
	t.Helper()
	if s, why := parse.Line(d, x); s != "" || why != want {
		t.Errorf("Line(%+v) = %q, %d; want %d", x, s, why, want)
	}
}

// P29.1: of each kind, and of what is none.
func TestName(t *testing.T) {
	for kind := range table {
		want := ""
		if kind > 0 {
			want = pattern(kind)[0]
		}
		if parse.Name(kind) != want {
			t.Errorf("Name(%d) = %q; want %q", kind, parse.Name(kind), want)
		}
	}
	if parse.Name(api.CSet) != "set" || parse.Name(api.CMerge) != "merge" || parse.Name(api.CTop) != "top" {
		t.Error("Name", parse.Name(api.CSet), parse.Name(api.CMerge), parse.Name(api.CTop))
	}
	for _, kind := range []int{0, -1, -2, api.CTop + 1, 20, 256, 257, 1 << 32, 1<<32 + 1, math.MinInt, math.MaxInt} {
		if s := parse.Name(kind); s != "" {
			t.Errorf("Name(%d) = %q", kind, s)
		}
	}
}

// P29.1: of each kind's word, and of words that are none's.
func TestKind(t *testing.T) {
	for kind := 1; kind < len(table); kind++ {
		if got := parse.Kind(pattern(kind)[0]); got != kind {
			t.Errorf("Kind(%q) = %d; want %d", pattern(kind)[0], got, kind)
		}
		word := pattern(kind)[0]
		for _, s := range []string{strings.ToUpper(word), strings.ToUpper(word[:1]) + word[1:], word + "x", " " + word, word + " ", word[1:], word[:len(word)-1] + "\x00"} {
			if got := parse.Kind(s); got != 0 {
				t.Errorf("Kind(%q) = %d", s, got)
			}
		}
	}
	for _, s := range []string{"", " ", "x", "sets", "held", "scen", "equal", "prop", "weight", "abort", "ours", "theirs", "compact", "open", "0", "1", "#", "ſet", "\xff", strings.Repeat("set", 1000)} {
		if got := parse.Kind(s); got != 0 {
			t.Errorf("Kind(%q) = %d", s, got)
		}
	}
}

// P29.2, P29.3: the chapter's example.
func TestExample(t *testing.T) {
	d := catalogues()[1]
	for line, x := range map[string]api.Cmd{
		"set ann main m/all 10 prop": {Kind: api.CSet, User: "ann", Scen: "main", N: 10, How: api.Prop},
		"merge ann plan main theirs": {Kind: api.CMerge, User: "ann", Scen: "plan", Other: "main", How: api.Theirs},
	} {
		is(t, d, line, x)
		written(t, d, x, line)
	}
}

// P29.2 to P29.5: each kind's line, with the fields that it has, and all others zero.
func TestEachLine(t *testing.T) {
	d := catalogues()[1]
	kinds := map[int]bool{}
	for _, r := range rows() {
		is(t, d, r.line, r.x)
		written(t, d, r.x, r.line)
		kinds[r.x.Kind] = true
	}
	if len(kinds) != api.CTop {
		t.Error("lines of", len(kinds), "kinds")
	}
}

// P29.2, P29.5: blanks anywhere play no part; other bytes are no blanks.
func TestBlanks(t *testing.T) {
	d := catalogues()[1]
	for _, r := range rows() {
		for _, line := range []string{" " + r.line, r.line + " ", "   " + strings.ReplaceAll(r.line, " ", "   ") + "    ", strings.ReplaceAll(r.line, " ", "  ")} {
			is(t, d, line, r.x)
		}
		for _, c := range []string{"\t", "\n", "\r", "\u00a0", "\x00"} {
			last := strings.Count(r.line, " ")
			isNot(t, d, r.line+c, last, api.ErrForm)
			isNot(t, d, c+r.line, 0, api.ErrForm)
			isNot(t, d, r.line+" "+c, last+1, api.ErrForm)
			if last > 0 {
				isNot(t, d, strings.Replace(r.line, " ", c, 1), 0, api.ErrForm)
			}
		}
	}
}

// P29.2, P29.3, P29.5: equal and abort may be written, and are not told; no other word is the other command's.
func TestHow(t *testing.T) {
	d := catalogues()[1]
	set := api.Cmd{Kind: api.CSet, User: "ann", Scen: "main", N: 5}
	merge := api.Cmd{Kind: api.CMerge, User: "ann", Scen: "p", Other: "main"}
	is(t, d, "set ann main m/all 5 equal", set)
	is(t, d, "merge ann p main abort", merge)
	is(t, d, "  merge  ann p main abort ", merge)
	written(t, d, set, "set ann main m/all 5")
	written(t, d, merge, "merge ann p main")
	for _, word := range []string{"abort", "ours", "theirs", "Equal", "PROP", "weights", "m", "0", "1", "2", "m/a", "#", "equal/prop"} {
		isNot(t, d, "set ann main m/all 5 "+word, 5, api.ErrForm)
		isNot(t, d, "set ann main m/all 5 "+word+" m", 5, api.ErrForm)
	}
	for _, word := range []string{"equal", "prop", "weight", "Abort", "OURS", "their", "m", "0", "1", "2", "m/a", "#", "ours/theirs"} {
		isNot(t, d, "merge ann p main "+word, 4, api.ErrForm)
		isNot(t, d, "merge ann p main "+word+" m", 4, api.ErrForm)
	}
	for _, word := range []string{"equal", "prop"} {
		isNot(t, d, "set ann main m/all 5 "+word+" m", 6, api.ErrForm)
		isNot(t, d, "set ann main m/all 5 "+word+" "+word, 6, api.ErrForm)
	}
	for _, word := range []string{"abort", "ours", "theirs"} {
		isNot(t, d, "merge ann p main "+word+" "+word, 5, api.ErrForm)
	}
}

// P29.2: weight without a measure, with one that is none, and with one that there is not.
func TestWeight(t *testing.T) {
	d := catalogues()[1]
	isNot(t, d, "set ann main m/all 5 weight", 6, api.ErrForm)
	for _, word := range []string{"5", "m/a", "#", "1m", "m/"} {
		isNot(t, d, "set ann main m/all 5 weight "+word, 6, api.ErrForm)
	}
	for _, word := range []string{"x", "M", "all", "place", "weight"} {
		isNot(t, d, "set ann main m/all 5 weight "+word, 6, api.ErrNone)
		isNot(t, d, "set ann main m/all 5 weight "+word+" m", 6, api.ErrNone)
	}
	for _, word := range []string{"m", "n", "x", "5", "#"} {
		isNot(t, d, "set ann main m/all 5 weight m "+word, 7, api.ErrForm)
	}
	is(t, d, "set ann main m/all 5 weight n", api.Cmd{Kind: api.CSet, User: "ann", Scen: "main", N: 5, How: api.Weight, Meas: 1})
}

// P29.2: a line without words, and a first word that is none's.
func TestFirstWord(t *testing.T) {
	d := catalogues()[1]
	for _, line := range []string{"", " ", "        ", "sets", "Set", "SET", "#", "# set", "5", "m/a", "set/get", "x main", "main", "open", "compact", "stop 1 5", "\t", "\xff", "5 main m/a", "#set ann main m/all 5"} {
		isNot(t, d, line, 0, api.ErrForm)
	}
}

// P29.2: a word too few at each place, and one or two too many behind each line.
func TestHowMany(t *testing.T) {
	d := catalogues()[1]
	for _, r := range rows() {
		l := strings.Split(r.line, " ")
		for n := range l {
			// The last word of set and of merge need not be written.
			if (r.x.Kind == api.CSet && n == 5) || (r.x.Kind == api.CMerge && n == 4) {
				continue
			}
			isNot(t, d, strings.Join(l[:n], " "), n, api.ErrForm)
			isNot(t, d, strings.Join(l[:n], " ")+"  ", n, api.ErrForm)
		}
		for _, word := range []string{"x", "m", "5", "m/a", "#", "get"} {
			isNot(t, d, r.line+" "+word, len(l), api.ErrForm)
			isNot(t, d, r.line+" "+word+" "+word, len(l), api.ErrForm)
		}
	}
}

// P29.2: at each place a word that is not what is to stand there: ahead of all that comes behind it, also of words that are wanting.
func TestWrongWord(t *testing.T) {
	d := catalogues()[1]
	for _, r := range rows() {
		l := strings.Split(r.line, " ")
		for i := range l {
			wrong := []string{"#", "_", "5x", "/", "m//a", "abcdefghijklm", "-", "\xff"}
			switch l[i] {
			case "n/b":
				wrong = append(wrong, "5", "m", "n", "b", "all", "place", "x")
			case "-5", "7":
				wrong = append(wrong, "x", "m", "m/a", "05", "-0", "+5", "5.0", "9223372036854775808", "-9223372036854775809")
			default:
				wrong = append(wrong, "5", "-5", "0", "m/a", "n/b")
			}
			for _, word := range wrong {
				ahead := strings.Join(append(l[:i:i], word), " ")
				isNot(t, d, ahead, i, api.ErrForm)
				isNot(t, d, ahead+" # #", i, api.ErrForm)
				isNot(t, d, ahead+" "+strings.Join(l[i+1:], " "), i, api.ErrForm)
			}
		}
	}
}

// P29.2: the least and the greatest number, and those beyond.
func TestNumbers(t *testing.T) {
	d := catalogues()[1]
	for s, n := range map[string]int64{least: math.MinInt64, greatest: math.MaxInt64, "0": 0, "-1": -1} {
		for _, x := range []api.Cmd{{Kind: api.CSet, User: "ann", Scen: "main", N: n}, {Kind: api.CTop, Scen: "main", N: n}} {
			line := map[int]string{api.CSet: "set ann main m/all ", api.CTop: "top main m/all "}[x.Kind] + s
			is(t, d, line, x)
			written(t, d, x, line)
		}
	}
	for _, s := range []string{"9223372036854775808", "-9223372036854775809", "18446744073709551616", strings.Repeat("9", 80)} {
		isNot(t, d, "set ann main m/all "+s, 4, api.ErrForm)
		isNot(t, d, "top main m/all "+s, 3, api.ErrForm)
	}
}

// P29.2: what is wrong with a cell is told as layer 6 does.
func TestCells(t *testing.T) {
	one, two, four := catalogues()[1], catalogues()[2], catalogues()[3]
	for _, r := range []struct {
		d    *dims.Dims
		cell string
		why  api.Errno
	}{
		{one, "m/a/b", api.ErrSize}, {one, "m/a/a/a/a/a", api.ErrSize}, {one, "m/x/y", api.ErrSize},
		{one, "x/a", api.ErrNone}, {one, "m/x", api.ErrNone}, {one, "x/a/b", api.ErrNone}, {one, "a/m", api.ErrNone}, {one, "M/a", api.ErrNone}, {one, "m/A", api.ErrNone},
		{two, "m/a", api.ErrSize}, {two, "m/a/a/a", api.ErrSize}, {two, "m/x", api.ErrSize}, {two, "x/a", api.ErrNone},
		{two, "m/x/a", api.ErrNone}, {two, "m/a/x", api.ErrNone}, {two, "m/q1/a", api.ErrNone}, {two, "n/a/a", api.ErrNone},
		{four, "m/a", api.ErrSize}, {four, "m/a/a/a", api.ErrSize}, {four, "m/a/a/a/a/a", api.ErrSize}, {four, "m/a/a/a/b", api.ErrNone}, {four, "m/b/a/a/a", api.ErrNone},
		{one, "m/a/", api.ErrForm}, {one, "/a", api.ErrForm}, {one, "m//a", api.ErrForm}, {one, "m/5", api.ErrForm}, {one, "m", api.ErrForm}, {one, "a", api.ErrForm},
	} {
		for line, at := range map[string]int{
			"get main ": 2, "hold main ": 2, "release main ": 2, "lock ann main ": 3, "unlock ann main ": 3, "free ann main ": 3, "set ann main ": 3, "slice main ": 2, "top main ": 2,
		} {
			isNot(t, r.d, line+r.cell, at, r.why)
			isNot(t, r.d, line+r.cell+" x", at, r.why)
			isNot(t, r.d, line+r.cell+" 5", at, r.why)
			isNot(t, r.d, line+r.cell+" place", at, r.why)
		}
	}
	is(t, two, "get main a/a/a", api.Cmd{Kind: api.CGet, Scen: "main", Cell: api.Cell{Meas: 1, At: [4]int{1, 2}}})
	is(t, two, "get main set/b/year", api.Cmd{Kind: api.CGet, Scen: "main", Cell: api.Cell{Meas: 2, At: [4]int{2}}})
	is(t, four, "get main m/a/b/a/q1", api.Cmd{Kind: api.CGet, Scen: "main", Cell: api.Cell{At: [4]int{0, 2, 1, 1}}})
}

// P29.2, P29.3: each dimension by its name, and one that there is not.
func TestDims(t *testing.T) {
	one, four := catalogues()[1], catalogues()[3]
	for k, name := range []string{"what", "place", "who", "when"} {
		x := api.Cmd{Kind: api.CSlice, Scen: "main", Meas: k}
		line := "slice main m/a/all/b/year " + name
		is(t, four, line, x)
		written(t, four, x, line)
		isNot(t, four, line+" "+name, 4, api.ErrForm)
	}
	for _, name := range []string{"when", "x", "Place", "a", "m", "all"} {
		isNot(t, one, "slice main m/all "+name, 3, api.ErrNone)
		isNot(t, one, "slice main m/all "+name+" x", 3, api.ErrNone)
	}
	for _, word := range []string{"5", "0", "m/a", "#"} {
		isNot(t, one, "slice main m/all "+word, 3, api.ErrForm)
	}
	isNot(t, one, "slice main m/all", 3, api.ErrForm)
}

// P29.2: of several faults the first word that can not stand there is told.
func TestManyFaults(t *testing.T) {
	d := catalogues()[1]
	for _, r := range []struct {
		line string
		at   int
		why  api.Errno
	}{
		{"sets 5 5 5 5", 0, api.ErrForm},
		{"set 5 5 x 5", 1, api.ErrForm},
		{"set ann 5 x/a", 2, api.ErrForm},
		{"set ann main x/a", 3, api.ErrNone},
		{"set ann main x/a x x x x", 3, api.ErrNone},
		{"set ann main m/a/b/c x weight x x", 3, api.ErrSize},
		{"set ann main m x", 3, api.ErrForm},
		{"set ann main m/a x weight", 4, api.ErrForm},
		{"set ann main m/a 5 x x x", 5, api.ErrForm},
		{"set ann main m/a 5 weight x x", 6, api.ErrNone},
		{"set ann main m/a 5 weight 5 x", 6, api.ErrForm},
		{"merge 5 5 5 x", 1, api.ErrForm},
		{"merge ann 5", 2, api.ErrForm},
		{"merge ann p 5 x y", 3, api.ErrForm},
		{"merge ann p main x y", 4, api.ErrForm},
		{"get 5", 1, api.ErrForm},
		{"get main x/x 5 5", 2, api.ErrNone},
		{"slice main m/x x", 2, api.ErrNone},
		{"slice main m/a x x", 3, api.ErrNone},
		{"top main m/a x x", 3, api.ErrForm},
		{"scens 5 5", 1, api.ErrForm},
		{"branch main", 2, api.ErrForm},
		{"branch 5", 1, api.ErrForm},
	} {
		isNot(t, d, r.line, r.at, r.why)
	}
}

// P29.2: names are taken as they are, whatever else they are the words of, and whether or not there is such a thing.
func TestNames(t *testing.T) {
	d := catalogues()[1]
	longest := strings.Repeat("n", api.MaxName)
	for _, name := range []string{"set", "get", "weight", "equal", "abort", "m", "all", "place", "A", "z_9", longest} {
		x := api.Cmd{Kind: api.CMerge, User: name, Scen: name, Other: name}
		line := "merge " + name + " " + name + " " + name
		is(t, d, line, x)
		written(t, d, x, line)
	}
	for at, line := range map[int]string{1: "merge " + longest + "n p main", 2: "merge ann " + longest + "n main", 3: "merge ann p " + longest + "n"} {
		isNot(t, d, line, at, api.ErrForm)
	}
}

// P29.3: names that can be none, of each field that the kind has.
func TestLineNames(t *testing.T) {
	d := catalogues()[1]
	for _, r := range rows() {
		for _, name := range []string{"", " ", "x y", " ann", "ann ", "5", "-5", "m/a", "#", "_a", "a-b", "é", "ann\n", "\x00", strings.Repeat("n", api.MaxName+1)} {
			for _, change := range []func(x *api.Cmd) *string{
				func(x *api.Cmd) *string { return &x.User },
				func(x *api.Cmd) *string { return &x.Scen },
				func(x *api.Cmd) *string { return &x.Other },
			} {
				x := r.x
				field := change(&x)
				if *field == "" {
					*field = name
					written(t, d, x, r.line)
					continue
				}
				*field = name
				refused(t, d, x, api.ErrArg)
			}
		}
	}
}

// celled tells whether a row's line has a cell.
func (r row) celled() bool {
	return strings.Contains(r.line, "/")
}

// P29.3: a cell whose measure, or one of whose members, there is not, or with members behind the last dimension.
func TestLineCells(t *testing.T) {
	d := catalogues()[1]
	for _, r := range rows() {
		for _, y := range []api.Cell{
			{Meas: 2}, {Meas: -1}, {Meas: math.MaxInt}, {Meas: math.MinInt}, {Meas: 1 << 32},
			{At: [4]int{3}}, {At: [4]int{-1}}, {At: [4]int{math.MaxInt}}, {At: [4]int{math.MinInt}}, {At: [4]int{1 << 32}},
			{At: [4]int{1, 1}}, {At: [4]int{1, 0, 1}}, {At: [4]int{1, 0, 0, 1}}, {At: [4]int{1, -1}}, {Meas: 1, At: [4]int{2, 0, 0, -1}},
		} {
			x := r.x
			x.Cell = y
			if r.celled() {
				refused(t, d, x, api.ErrArg)
			} else {
				written(t, d, x, r.line)
			}
		}
	}
	two := catalogues()[2]
	x := api.Cmd{Kind: api.CGet, Scen: "main", Cell: api.Cell{Meas: 2, At: [4]int{2, 1}}}
	written(t, two, x, "get main set/b/q1")
	x.Cell.At[1] = 3
	refused(t, two, x, api.ErrArg)
	x.Cell.At = [4]int{2, 1, 1}
	refused(t, two, x, api.ErrArg)
}

// P29.3: each How, and what is none; Meas counts of weight alone, and of slice as a dimension.
func TestLineHow(t *testing.T) {
	d := catalogues()[1]
	for _, r := range rows() {
		for _, how := range []int{-1, 3, 4, 256, 1 << 32, math.MaxInt, math.MinInt} {
			x := r.x
			x.How = how
			if r.x.Kind == api.CSet || r.x.Kind == api.CMerge {
				refused(t, d, x, api.ErrArg)
			} else {
				written(t, d, x, r.line)
			}
		}
		for _, meas := range []int{-1, 2, 3, 256, 1 << 32, math.MaxInt, math.MinInt} {
			x := r.x
			x.Meas = meas
			if r.x.Kind == api.CSlice || r.x.Kind == api.CSet && r.x.How == api.Weight {
				refused(t, d, x, api.ErrArg)
			} else {
				written(t, d, x, r.line)
			}
		}
	}
	// There are two measures, but one dimension.
	refused(t, d, api.Cmd{Kind: api.CSlice, Scen: "main", Meas: 1}, api.ErrArg)
	for how, behind := range []string{"", " prop", " weight n"} {
		written(t, d, api.Cmd{Kind: api.CSet, User: "ann", Scen: "main", How: how, Meas: 1}, "set ann main m/all 0"+behind)
	}
	for how, behind := range []string{"", " ours", " theirs"} {
		written(t, d, api.Cmd{Kind: api.CMerge, User: "ann", Scen: "p", Other: "main", How: how, Meas: 1}, "merge ann p main"+behind)
	}
}

// P29.3, P29.4: a kind that is none; fields that a kind does not name play no part, whatever they are.
func TestLineKinds(t *testing.T) {
	d := catalogues()[1]
	for _, kind := range []int{0, -1, -2, api.CTop + 1, 256 + 1, 1<<32 + 1, math.MaxInt, math.MinInt} {
		refused(t, d, api.Cmd{Kind: kind}, api.ErrArg)
		refused(t, d, api.Cmd{Kind: kind, User: "ann", Scen: "main", Other: "p"}, api.ErrArg)
	}
	for _, r := range rows() {
		x := api.Cmd{Kind: r.x.Kind, User: "x y", Scen: "", Other: "5", Cell: api.Cell{Meas: -1, At: [4]int{9, 9, 9, 9}}, N: -77, How: 99, Meas: -1}
		fill := named(r.x)
		for _, field := range pattern(x.Kind) {
			switch field {
			case "USER":
				x.User = fill.User
			case "SCEN":
				x.Scen = fill.Scen
			case "OTHER":
				x.Other = fill.Other
			case "CELL":
				x.Cell = fill.Cell
			case "N":
				x.N = fill.N
			case "DIM":
				x.Meas = fill.Meas
			case "MEET":
				x.How = fill.How
			case "SPREAD":
				x.How = fill.How
				if x.How == api.Weight {
					x.Meas = fill.Meas
				}
			}
		}
		written(t, d, x, r.line)
		is(t, d, r.line, fill)
	}
}

// P29.2, P29.3, rule 2: of nil, ahead of all else.
func TestNil(t *testing.T) {
	for _, line := range []string{"", " ", "sets", "set", "scens", "undo 5", "get main m/x", "get main a", "slice main m/a when", "\xff"} {
		isNot(t, nil, line, 0, api.ErrNil)
	}
	for _, r := range rows() {
		isNot(t, nil, r.line, 0, api.ErrNil)
		refused(t, nil, r.x, api.ErrNil)
	}
	for _, x := range []api.Cmd{{}, {Kind: -1}, {Kind: 19}, {Kind: api.CGet, Scen: "x y"}, {Kind: api.CSet, How: 3}, {Kind: api.CSlice, Meas: -1}} {
		refused(t, nil, x, api.ErrNil)
	}
}

// P29.2, P29.3: a catalogue without dimensions and measures has no cell: lines without one are commands all the same.
func TestWithoutDims(t *testing.T) {
	d := catalogues()[0]
	for _, r := range rows() {
		if !r.celled() {
			is(t, d, r.line, r.x)
			written(t, d, r.x, r.line)
			continue
		}
		isNot(t, d, r.line, strings.Count(r.line[:strings.Index(r.line, "/")], " "), api.ErrNone)
		refused(t, d, r.x, api.ErrArg)
		x := r.x
		x.Cell = api.Cell{}
		refused(t, d, x, api.ErrArg)
	}
}

// P6: lines beyond MaxLine.
func TestLongLine(t *testing.T) {
	const many = 100000
	d := catalogues()[1]
	is(t, d, strings.Repeat(" ", many)+"undo"+strings.Repeat(" ", many)+"p", api.Cmd{Kind: api.CUndo, Scen: "p"})
	isNot(t, d, "undo"+strings.Repeat(" p", many), 2, api.ErrForm)
	isNot(t, d, "get main m"+strings.Repeat("/a", many), 2, api.ErrSize)
	isNot(t, d, strings.Repeat("set ", many), 3, api.ErrForm)
	isNot(t, d, strings.Repeat("s", many), 0, api.ErrForm)
}

// Rule 6: what is answered hangs on the arguments alone, not on what was asked ahead, or refused.
func TestAgain(t *testing.T) {
	d := catalogues()[1]
	for range 2 {
		for _, r := range rows() {
			isNot(t, d, r.line+" #", strings.Count(r.line, " ")+1, api.ErrForm)
			is(t, d, r.line, r.x)
			refused(t, d, api.Cmd{}, api.ErrArg)
			written(t, d, r.x, r.line)
		}
	}
}
