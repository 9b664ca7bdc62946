package shell_test

import (
	"regexp"
	"slices"
	"strconv"
	"strings"

	"moiety/api"
	"moiety/dims"
)

// table is the chapters' lines, 31's ahead of 29's; what has a ? need not be there.
var table = []string{
	"dim NEW",
	"node KIND NEW ?ABOVE",
	"measure NEW",
	"limit LIMIT N",
	"open",
	"compact",
	"stop N M",
	"up",
	"set USER SCEN CELL N ?SPREAD",
	"hold SCEN CELL",
	"release SCEN CELL",
	"lock USER SCEN CELL",
	"unlock USER SCEN CELL",
	"undo SCEN",
	"redo SCEN",
	"branch SCEN OTHER",
	"drop SCEN",
	"merge USER SCEN OTHER ?MEET",
	"get SCEN CELL",
	"free USER SCEN CELL",
	"diff SCEN OTHER",
	"holds SCEN",
	"locks SCEN",
	"scens",
	"slice SCEN CELL DIM",
	"top SCEN CELL N",
}

// How many lines of the table are there ahead of open, and how many lines are commands.
const (
	makers   = 5
	commands = 18
)

var (
	isName = regexp.MustCompile(`^[A-Za-z][A-Za-z0-9_]{0,11}$`)
	isCell = regexp.MustCompile(`^[A-Za-z][A-Za-z0-9_]{0,11}(/[A-Za-z][A-Za-z0-9_]{0,11})+$`)
	isNum  = regexp.MustCompile(`^(0|-?[1-9][0-9]*)$`)
)

// row is the place of a line's first word in the table; -1, if it has none.
func row(first string) int {
	return slices.IndexFunc(table, func(s string) bool { return strings.Fields(s)[0] == first })
}

// answer is what the chapter says of Do.
func (w *world) answer(line string) []string {
	if len(line) > 200 || strings.Contains(line, "\n") {
		return fail(api.ErrSize)
	}
	words := slices.DeleteFunc(strings.Split(line, " "), func(s string) bool { return s == "" })
	if len(words) == 0 || words[0][0] == '#' {
		return nil
	}
	k := row(words[0])
	switch {
	case k < 0:
		return []string{"error 6 at 0"}
	case k < makers && w.open, k == row("compact") && !w.open, k >= len(table)-commands && !w.open:
		return fail(api.ErrState)
	}
	said, at, why := w.read(words, strings.Fields(table[k]))
	if why != api.OK {
		return []string{"error " + num(int64(why)) + " at " + num(int64(at))}
	}
	if k < len(table)-commands {
		return ended(nil, w.make(words[0], said))
	}
	return w.command(words[0], said)
}

// fail is the answer of an error without a place.
func fail(why api.Errno) []string {
	return []string{"error " + num(int64(why))}
}

// ended is lines, and behind them ok, or the error.
func ended(l []string, why api.Errno) []string {
	if why != api.OK {
		return append(l, fail(why)...)
	}
	return append(l, "ok")
}

// read is what the words of a line stand for, by what is wanted; or the first one that can not stand there, and why.
func (w *world) read(words, wanted []string) (map[string]string, int, api.Errno) {
	said := map[string]string{}
	for at := 1; at < len(wanted); at++ {
		want, need := strings.CutPrefix(wanted[at], "?")
		if at == len(words) && need {
			return said, 0, api.OK
		}
		if at == len(words) {
			return nil, at, api.ErrForm
		}
		if why := w.fits(want, words[at]); why != api.OK {
			return nil, at, why
		}
		said[want] = words[at]
		if want == "SPREAD" && words[at] == "weight" {
			wanted = append(wanted, "MEASURE")
		}
	}
	if len(words) > len(wanted) {
		return nil, len(wanted), api.ErrForm
	}
	return said, 0, api.OK
}

// fits says why a word can not stand where one is wanted.
func (w *world) fits(want, word string) api.Errno {
	in := func(l ...string) bool { return slices.Contains(l, word) }
	_, err := strconv.ParseInt(word, 10, 64)
	can, there := isName.MatchString(word), true
	switch want {
	case "N", "M":
		can = isNum.MatchString(word) && err == nil
	case "LIMIT":
		can = in("leaves", "scens")
	case "SPREAD":
		can = in("equal", "prop", "weight")
	case "MEET":
		can = in("abort", "ours", "theirs")
	case "MEASURE":
		there = slices.Contains(w.cat.Meas, word)
	case "DIM":
		there = w.dim(word) >= 0
	case "CELL":
		if !isCell.MatchString(word) {
			return api.ErrForm
		}
		_, why := w.cell(word)
		return why
	}
	if !can {
		return api.ErrForm
	}
	if !there {
		return api.ErrNone
	}
	return api.OK
}

// near is a number of 64 bits, or the nearest from -1 to most.
func near(s string, most int64) int {
	n, _ := strconv.ParseInt(s, 10, 64)
	return int(max(-1, min(n, most)))
}

// make does a line that is no command.
func (w *world) make(first string, said map[string]string) api.Errno {
	switch first {
	case "dim":
		if len(w.cat.Dims) == 4 {
			return api.ErrFull
		}
		w.cat.Dims = append(w.cat.Dims, api.Dim{Name: said["NEW"]})
	case "node":
		return w.node(said)
	case "measure":
		if len(w.cat.Meas) == 4 {
			return api.ErrFull
		}
		w.cat.Meas = append(w.cat.Meas, said["NEW"])
	case "limit":
		if said["LIMIT"] == "leaves" {
			w.cat.Leaves = near(said["N"], 2000)
		} else {
			w.cat.Scens = near(said["N"], 2000)
		}
	case "open":
		if _, _, why := dims.New(w.cat); why != api.OK {
			return why
		}
		w.begin()
	case "stop":
		behind, bytes := near(said["N"], 100000), near(said["M"], 100000)
		if behind < 0 || bytes < 0 || bytes > 32 {
			return api.ErrArg
		}
	case "up":
		if !w.open {
			return api.ErrNone
		}
	}
	return api.OK
}

func (w *world) node(said map[string]string) api.Errno {
	k := w.dim(said["KIND"])
	if k < 0 {
		return api.ErrNone
	}
	nodes := w.cat.Dims[k].Nodes
	up := slices.IndexFunc(nodes, func(n api.Node) bool { return n.Name == said["ABOVE"] })
	if said["ABOVE"] != "" && up < 0 {
		return api.ErrNone
	}
	if len(nodes) == 32 {
		return api.ErrFull
	}
	w.cat.Dims[k].Nodes = append(nodes, api.Node{Name: said["NEW"], Up: up})
	return api.OK
}

// command does a command, in the words of the chapters 21, 22 and 30.
func (w *world) command(first string, said map[string]string) []string {
	if first == "scens" {
		return ended(w.names(), api.OK)
	}
	s, other := w.scens[said["SCEN"]], w.scens[said["OTHER"]]
	if s == nil || other == nil && (first == "diff" || first == "merge") {
		return fail(api.ErrNone)
	}
	if l := w.ask(first, said, s.now); l != nil {
		return l
	}
	switch first {
	case "undo":
		return ended(nil, s.undo())
	case "redo":
		return ended(nil, s.redo())
	case "branch":
		return ended(nil, w.branch(said["SCEN"], said["OTHER"]))
	case "drop":
		return ended(nil, w.drop(said["SCEN"]))
	case "merge":
		return ended(w.merge(said["USER"], said["SCEN"], said["OTHER"], said["MEET"]))
	}
	next, why := w.change(first, said, s.now)
	if why == api.OK {
		s.put(next)
	}
	return ended(nil, why)
}

// ask is the answer to a line that only asks; nil, if it does not.
func (w *world) ask(first string, said map[string]string, l lists) []string {
	c, _ := w.cell(said["CELL"])
	n, _ := strconv.ParseInt(said["N"], 10, 64)
	switch first {
	case "get":
		return []string{w.value(l, c).String()}
	case "free":
		return []string{num(int64(len(w.free(l, c, said["USER"]))))}
	case "diff":
		return ended(w.diff(l, w.scens[said["OTHER"]].now), api.OK)
	case "slice":
		return ended(w.slice(l, c, w.dim(said["DIM"])), api.OK)
	case "top":
		if n < 0 {
			return fail(api.ErrArg)
		}
		return ended(w.top(l, c, n), api.OK)
	case "holds":
		var rows []string
		for _, h := range l.held {
			rows = append(rows, w.show(h))
		}
		return ended(rows, api.OK)
	case "locks":
		var rows []string
		for _, k := range l.locks {
			rows = append(rows, w.show(k.Cell)+" "+k.User)
		}
		return ended(rows, api.OK)
	}
	return nil
}

// change is what a line makes of a scenario's lists.
func (w *world) change(first string, said map[string]string, l lists) (lists, api.Errno) {
	c, _ := w.cell(said["CELL"])
	n, _ := strconv.ParseInt(said["N"], 10, 64)
	switch first {
	case "set":
		return w.set(l, said["USER"], c, n, said["SPREAD"], slices.Index(w.cat.Meas, said["MEASURE"]))
	case "hold":
		return w.hold(l, c)
	case "release":
		return w.release(l, c)
	case "lock":
		return w.lock(l, c, said["USER"])
	}
	return w.unlock(l, c, said["USER"])
}

func (w *world) branch(from, name string) api.Errno {
	if w.scens[name] != nil {
		return api.ErrTwice
	}
	if len(w.scens) == w.cat.Scens {
		return api.ErrFull
	}
	now := w.scens[from].now
	w.scens[name] = &story{now: now, parent: from, base: now}
	return api.OK
}

func (w *world) drop(name string) api.Errno {
	if name == "main" {
		return api.ErrUsed
	}
	delete(w.scens, name)
	for _, s := range w.scens {
		if s.parent == name {
			s.parent, s.base = "", lists{}
		}
	}
	return api.OK
}
