package shell_test

import (
	"cmp"
	"math/big"
	"slices"
	"strconv"
	"strings"

	"moiety/api"
)

// lists is what a scenario has at a time: the values of all leaves, by their codes, the cells that are held, and those that are locked.
type lists struct {
	vals  []int64
	held  []api.Cell
	locks []api.Lock
}

func (l lists) clone() lists {
	return lists{slices.Clone(l.vals), slices.Clone(l.held), slices.Clone(l.locks)}
}

// story is a scenario: what it was, is, and would be done again; its parent, and their base, if it has one.
type story struct {
	past   []lists
	now    lists
	future []lists
	parent string
	base   lists
}

func (s *story) put(l lists) {
	s.past = append(slices.Clone(s.past), s.now)
	s.past = s.past[max(0, len(s.past)-api.MaxUndo):]
	s.now, s.future = l, nil
}

func (s *story) undo() api.Errno {
	if len(s.past) == 0 {
		return api.ErrEmpty
	}
	last := len(s.past) - 1
	s.future = append([]lists{s.now}, s.future...)
	s.now, s.past = s.past[last], s.past[:last]
	return api.OK
}

func (s *story) redo() api.Errno {
	if len(s.future) == 0 {
		return api.ErrEmpty
	}
	s.past = append(slices.Clone(s.past), s.now)
	s.now, s.future = s.future[0], s.future[1:]
	return api.OK
}

// world is a shell, that has nothing but lists, and whose power never goes.
type world struct {
	cat    api.Cat
	open   bool
	leaves []api.Cell // by their codes
	cells  []api.Cell // by their indexes
	scens  map[string]*story
}

func newWorld() *world {
	return &world{cat: api.Cat{Leaves: api.MaxLeaves, Scens: api.MaxScens}}
}

// clone is another world as w is. A story's lists are never written into, so that they may be shared.
func (w *world) clone() *world {
	o := *w
	o.cat.Meas = slices.Clone(w.cat.Meas)
	o.cat.Dims = slices.Clone(w.cat.Dims)
	for k := range o.cat.Dims {
		o.cat.Dims[k].Nodes = slices.Clone(o.cat.Dims[k].Nodes)
	}
	o.scens = map[string]*story{}
	for name, s := range w.scens {
		c := *s
		c.past, c.future = slices.Clone(s.past), slices.Clone(s.future)
		o.scens[name] = &c
	}
	return &o
}

// begin makes the cube of a catalogue that can be.
func (w *world) begin() {
	w.open = true
	var all, leaves [][]int
	for _, d := range w.cat.Dims {
		var places, ends []int
		for i := range d.Nodes {
			places = append(places, i)
		}
		for _, i := range ordered(d.Nodes, -1) {
			if len(ordered(d.Nodes, i)) == 0 {
				ends = append(ends, i)
			}
		}
		all, leaves = append(all, places), append(leaves, ends)
	}
	for m := range w.cat.Meas {
		w.cells = append(w.cells, products(api.Cell{Meas: m}, 0, all)...)
		w.leaves = append(w.leaves, products(api.Cell{Meas: m}, 0, leaves)...)
	}
	w.scens = map[string]*story{"main": {now: lists{vals: make([]int64, len(w.leaves))}}}
}

// ordered is the members below one, in the chapter's order: behind each one at once those below it.
func ordered(l []api.Node, up int) []int {
	var places []int
	for i, n := range l {
		if n.Up == up {
			places = append(append(places, i), ordered(l, i)...)
		}
	}
	return places
}

// products is c with each of the members of lists, from the dimension k on, the last one changing first.
func products(c api.Cell, k int, lists [][]int) []api.Cell {
	if k == len(lists) {
		return []api.Cell{c}
	}
	var cells []api.Cell
	for _, i := range lists[k] {
		c.At[k] = i
		cells = append(cells, products(c, k+1, lists)...)
	}
	return cells
}

// within says whether c is within e.
func (w *world) within(c, e api.Cell) bool {
	for k, d := range w.cat.Dims {
		i := c.At[k]
		for i != -1 && i != e.At[k] {
			i = d.Nodes[i].Up
		}
		if i == -1 {
			return false
		}
	}
	return c.Meas == e.Meas
}

// under is the codes of the leaves within a cell.
func (w *world) under(c api.Cell) []int {
	var codes []int
	for code, leaf := range w.leaves {
		if w.within(leaf, c) {
			codes = append(codes, code)
		}
	}
	return codes
}

// value is a cell's, however great.
func (w *world) value(l lists, c api.Cell) *big.Int {
	sum := new(big.Int)
	for _, code := range w.under(c) {
		sum.Add(sum, big.NewInt(l.vals[code]))
	}
	return sum
}

func (w *world) barred(l lists, c api.Cell) bool {
	return slices.ContainsFunc(l.held, func(h api.Cell) bool { return w.within(c, h) })
}

// foreign says whether c is within a cell that another user has locked.
func (w *world) foreign(l lists, c api.Cell, user string) bool {
	return slices.ContainsFunc(l.locks, func(k api.Lock) bool { return k.User != user && w.within(c, k.Cell) })
}

// free is the codes of the leaves within c that are free for a user.
func (w *world) free(l lists, c api.Cell, user string) []int {
	return slices.DeleteFunc(w.under(c), func(code int) bool {
		leaf := w.leaves[code]
		return w.barred(l, leaf) || w.foreign(l, leaf, user)
	})
}

// can says what is wrong with the values of lists.
func (w *world) can(l lists) api.Errno {
	for _, c := range w.cells {
		if !w.value(l, c).IsInt64() {
			return api.ErrOver
		}
	}
	full := 0
	for _, n := range l.vals {
		if n != 0 {
			full++
		}
	}
	if full > w.cat.Leaves {
		return api.ErrFull
	}
	return api.OK
}

// set is what the chapters 16 and 17 say of a cell that is written.
func (w *world) set(l lists, user string, c api.Cell, n int64, how string, measure int) (lists, api.Errno) {
	free := w.free(l, c, user)
	switch {
	case w.barred(l, c):
		return l, api.ErrHeld
	case w.foreign(l, c, user):
		return l, api.ErrLocked
	case len(free) == 0:
		return l, api.ErrFree
	}
	far := new(big.Int).Sub(big.NewInt(n), w.value(l, c))
	sign := far.Sign()
	if sign == 0 {
		return l, api.OK
	}
	var weights []*big.Int
	for _, code := range free {
		leaf := w.leaves[code]
		switch how {
		case "prop":
			weights = append(weights, new(big.Int).Abs(w.value(l, leaf)))
		case "weight":
			leaf.Meas = measure
			weights = append(weights, new(big.Int).Abs(w.value(l, leaf)))
		default:
			weights = append(weights, big.NewInt(1))
		}
	}
	parts, why := split(far.Abs(far), weights)
	if why != api.OK {
		return l, why
	}
	next := l.clone()
	for i, code := range free {
		now := new(big.Int).Mul(parts[i], big.NewInt(int64(sign)))
		now.Add(now, big.NewInt(l.vals[code]))
		if !now.IsInt64() {
			return l, api.ErrOver
		}
		next.vals[code] = now.Int64()
	}
	if why := w.can(next); why != api.OK {
		return l, why
	}
	return next, api.OK
}

// split is a whole in parts, by the largest remainders.
func split(whole *big.Int, weights []*big.Int) ([]*big.Int, api.Errno) {
	sum := new(big.Int)
	for _, x := range weights {
		sum.Add(sum, x)
	}
	if !sum.IsUint64() {
		return nil, api.ErrOver
	}
	if sum.Sign() == 0 {
		return nil, api.ErrZero
	}
	var parts, rests []*big.Int
	var places []int
	left := new(big.Int).Set(whole)
	for i, x := range weights {
		part, rest := new(big.Int).QuoRem(new(big.Int).Mul(whole, x), sum, new(big.Int))
		parts, rests, places = append(parts, part), append(rests, rest), append(places, i)
		left.Sub(left, part)
	}
	slices.SortStableFunc(places, func(i, k int) int { return rests[k].Cmp(rests[i]) })
	for _, i := range places[:left.Int64()] {
		parts[i].Add(parts[i], big.NewInt(1))
	}
	return parts, api.OK
}

func (w *world) index(c api.Cell) int {
	return slices.Index(w.cells, c)
}

func (w *world) hold(l lists, c api.Cell) (lists, api.Errno) {
	if slices.Contains(l.held, c) {
		return l, api.ErrTwice
	}
	above := 0
	for _, h := range l.held {
		if !slices.Contains(w.leaves, h) {
			above++
		}
	}
	if above == api.MaxHolds && !slices.Contains(w.leaves, c) {
		return l, api.ErrFull
	}
	next := l.clone()
	next.held = append(next.held, c)
	slices.SortFunc(next.held, func(a, b api.Cell) int { return cmp.Compare(w.index(a), w.index(b)) })
	return next, api.OK
}

func (w *world) release(l lists, c api.Cell) (lists, api.Errno) {
	i := slices.Index(l.held, c)
	if i < 0 {
		return l, api.ErrNone
	}
	next := l.clone()
	next.held = slices.Delete(next.held, i, i+1)
	return next, api.OK
}

func (w *world) lock(l lists, c api.Cell, user string) (lists, api.Errno) {
	if slices.Contains(l.locks, api.Lock{Cell: c, User: user}) {
		return l, api.ErrTwice
	}
	for _, code := range w.under(c) {
		if w.foreign(l, w.leaves[code], user) {
			return l, api.ErrLocked
		}
	}
	if len(l.locks) == api.MaxLocks {
		return l, api.ErrFull
	}
	next := l.clone()
	next.locks = append(next.locks, api.Lock{Cell: c, User: user})
	slices.SortFunc(next.locks, func(a, b api.Lock) int { return cmp.Compare(w.index(a.Cell), w.index(b.Cell)) })
	return next, api.OK
}

func (w *world) unlock(l lists, c api.Cell, user string) (lists, api.Errno) {
	i := slices.IndexFunc(l.locks, func(k api.Lock) bool { return k.Cell == c })
	if i < 0 {
		return l, api.ErrNone
	}
	if l.locks[i].User != user {
		return l, api.ErrLocked
	}
	next := l.clone()
	next.locks = slices.Delete(next.locks, i, i+1)
	return next, api.OK
}

// base is that of a and b; nil, if they have none.
func (w *world) base(a, b string) *lists {
	if x := w.scens[b]; x.parent == a {
		return &x.base
	}
	if x := w.scens[a]; x.parent == b {
		return &x.base
	}
	return nil
}

// merge is what the chapters 20 and 21 say of from's changes that come into another one: the lines of the clashes, and why not.
func (w *world) merge(user, from, into, how string) ([]string, api.Errno) {
	base := w.base(from, into)
	if base == nil {
		return nil, api.ErrBase
	}
	gives, takes := w.scens[from], w.scens[into]
	next := takes.now.clone()
	var clashes []string
	locked := false
	for code, leaf := range w.leaves {
		b, o, f := base.vals[code], takes.now.vals[code], gives.now.vals[code]
		if f == b {
			continue
		}
		barred := w.barred(takes.now, leaf)
		clash := barred || o != b && o != f
		if clash {
			clashes = append(clashes, join("clash", w.show(leaf), num(b), num(o), num(f), held(barred)))
		}
		if !clash || how == "theirs" && !barred {
			next.vals[code] = f
		}
		locked = locked || next.vals[code] != o && w.foreign(takes.now, leaf, user)
	}
	switch {
	case len(clashes) > 0 && how != "ours" && how != "theirs":
		return clashes, api.ErrClash
	case locked:
		return nil, api.ErrLocked
	}
	if why := w.can(next); why != api.OK {
		return nil, why
	}
	*base = gives.now
	takes.put(next)
	return clashes, api.OK
}

func held(is bool) string {
	if is {
		return "held"
	}
	return ""
}

// diff is the lines of the leaves that differ.
func (w *world) diff(a, b lists) []string {
	var l []string
	for code, leaf := range w.leaves {
		if a.vals[code] != b.vals[code] {
			l = append(l, join(w.show(leaf), num(a.vals[code]), num(b.vals[code])))
		}
	}
	return l
}

// slice is the lines of the cells just below one.
func (w *world) slice(l lists, c api.Cell, dim int) []string {
	var rows []string
	for i, n := range w.cat.Dims[dim].Nodes {
		if n.Up == c.At[dim] {
			x := c
			x.At[dim] = i
			rows = append(rows, join(w.show(x), w.value(l, x).String()))
		}
	}
	return rows
}

// top is the lines of the n greatest leaves.
func (w *world) top(l lists, c api.Cell, n int64) []string {
	codes := w.under(c)
	slices.SortStableFunc(codes, func(a, b int) int { return cmp.Compare(l.vals[b], l.vals[a]) })
	var rows []string
	for _, code := range codes[:min(n, int64(len(codes)))] {
		rows = append(rows, join(w.show(w.leaves[code]), num(l.vals[code])))
	}
	return rows
}

// show is a cell's names.
func (w *world) show(c api.Cell) string {
	s := w.cat.Meas[c.Meas]
	for k, d := range w.cat.Dims {
		s += "/" + d.Nodes[c.At[k]].Name
	}
	return s
}

// cell is the cell of these names.
func (w *world) cell(s string) (api.Cell, api.Errno) {
	parts := strings.Split(s, "/")
	c := api.Cell{Meas: slices.Index(w.cat.Meas, parts[0])}
	if c.Meas < 0 {
		return c, api.ErrNone
	}
	if len(parts)-1 != len(w.cat.Dims) {
		return c, api.ErrSize
	}
	for k, member := range parts[1:] {
		c.At[k] = slices.IndexFunc(w.cat.Dims[k].Nodes, func(n api.Node) bool { return n.Name == member })
		if c.At[k] < 0 {
			return c, api.ErrNone
		}
	}
	return c, api.OK
}

func (w *world) dim(name string) int {
	return slices.IndexFunc(w.cat.Dims, func(d api.Dim) bool { return d.Name == name })
}

func (w *world) names() []string {
	var l []string
	for name := range w.scens {
		l = append(l, name)
	}
	slices.Sort(l)
	return l
}

func num(n int64) string { return strconv.FormatInt(n, 10) }

// join is words with one blank between, but for empty ones.
func join(l ...string) string {
	return strings.Join(slices.DeleteFunc(l, func(s string) bool { return s == "" }), " ")
}
