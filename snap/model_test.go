package snap_test

import (
	"cmp"
	"math"
	"math/big"
	"slices"
	"strconv"
	"testing"

	"moiety/api"
	"moiety/cube"
	"moiety/dims"
	"moiety/snap"
	"moiety/state"
	"moiety/text"
	"moiety/undo"
)

const (
	least    = math.MinInt64
	greatest = math.MaxInt64
)

// catOf is a catalogue of so many measures, and of dimensions whose members stand below those of each list; as many leaves may have a value as there may be, and so many scenarios be there.
func catOf(scens, measures int, ups ...[]int) api.Cat {
	cat := api.Cat{Leaves: api.MaxLeaves, Scens: scens}
	for i := range measures {
		cat.Meas = append(cat.Meas, "m"+strconv.Itoa(i))
	}
	for k, l := range ups {
		d := api.Dim{Name: "d" + strconv.Itoa(k)}
		for i, up := range l {
			d.Nodes = append(d.Nodes, api.Node{Name: "n" + strconv.Itoa(i), Up: up})
		}
		cat.Dims = append(cat.Dims, d)
	}
	return cat
}

// The members of deep.
const (
	all = iota
	inA
	inB
	inC
	inD
)

// deep is two measures of all; a and b below it; c and d below a. Its leaves' codes: c 0, d 1, b 2; 3, 4, 5. Its indexes: all 0, a 1, b 2, c 3, d 4; 5 to 9.
func deep(scens int) api.Cat {
	return catOf(scens, 2, []int{-1, all, all, inA, inA})
}

// apart is so many members without one above.
func apart(many int) []int {
	l := make([]int, many)
	for i := range l {
		l[i] = -1
	}
	return l
}

// cats are of one to four dimensions, of which some have members ahead of those above them, or alone below them.
func cats() map[string]api.Cat {
	tops := []int{5, -1, 5, 4, -1, -1, 4}
	return map[string]api.Cat{
		"one leaf": catOf(2, 1, []int{-1}),
		"deep":     deep(4),
		"one":      catOf(3, 4, tops),
		"two":      catOf(8, 2, []int{-1, 0, 0, 1}, []int{-1, 0, 0}),
		"three":    catOf(3, 1, tops, []int{1, 2, -1}, []int{-1, -1}),
		"four":     catOf(3, 2, []int{-1, 0, 1}, tops, []int{-1}, []int{2, 2, -1}),
	}
}

func cell(measure int, at ...int) api.Cell {
	c := api.Cell{Meas: measure}
	copy(c.At[:], at)
	return c
}

// num is a number's bytes, by the words of layer 4.
func num(n int64) []byte {
	bits := new(big.Int).Mul(big.NewInt(n), big.NewInt(2))
	if n < 0 {
		bits.Neg(bits).Sub(bits, big.NewInt(1))
	}
	var b []byte
	for low := new(big.Int); ; {
		bits.DivMod(bits, big.NewInt(128), low)
		if bits.Sign() == 0 {
			return append(b, byte(low.Int64()))
		}
		b = append(b, byte(low.Int64())+128)
	}
}

// txt is a text's bytes.
func txt(s string) []byte {
	return append(num(int64(len(s))), s...)
}

// leafOf is a leaf of a state's bytes: its code, its value, and what says that it is held.
type leafOf struct {
	code, n, held int64
}

// lockOf is a lock of a state's bytes.
type lockOf struct {
	index int64
	user  string
}

// stateOf is a state's bytes as lists, whether it can be or not.
type stateOf struct {
	leaves []leafOf
	held   []int64
	locks  []lockOf
}

// scenOf is a scenario's bytes as lists.
type scenOf struct {
	name, parent string
	base         stateOf
	past         []stateOf
	now          stateOf
	future       []stateOf
}

// cubeOf is a cube's bytes as lists.
type cubeOf struct {
	cat   []byte
	scens []scenOf
}

// The kinds of what is read.
const (
	aNumber = iota
	aText
	aCount
)

// part is one of what is read, one after another: its kind, its bytes, and how much a count may be.
type part struct {
	what  string
	kind  int
	most  int
	bytes []byte
}

// parts is all that is read of a cube's bytes, in order.
func (c cubeOf) parts() []part {
	l := []part{{"the catalogue", aText, 0, txt(string(c.cat))}}
	l = append(l, part{"how many scenarios", aCount, api.MaxScens, num(int64(len(c.scens)))})
	states := func(list []stateOf) {
		l = append(l, part{"how many states", aCount, api.MaxUndo, num(int64(len(list)))})
		for _, x := range list {
			l = append(l, x.parts()...)
		}
	}
	for _, s := range c.scens {
		l = append(l, part{"a name", aText, 0, txt(s.name)}, part{"a parent", aText, 0, txt(s.parent)})
		l = append(l, s.base.parts()...)
		states(s.past)
		l = append(l, s.now.parts()...)
		states(s.future)
	}
	return l
}

func (s stateOf) parts() []part {
	l := []part{{"how many leaves", aCount, api.MaxLeaves, num(int64(len(s.leaves)))}}
	for _, x := range s.leaves {
		l = append(l, part{"a code", aNumber, 0, num(x.code)}, part{"a value", aNumber, 0, num(x.n)}, part{"is it held", aNumber, 0, num(x.held)})
	}
	l = append(l, part{"how many cells held", aCount, api.MaxHolds, num(int64(len(s.held)))})
	for _, i := range s.held {
		l = append(l, part{"a cell held", aNumber, 0, num(i)})
	}
	l = append(l, part{"how many locks", aCount, api.MaxLocks, num(int64(len(s.locks)))})
	for _, x := range s.locks {
		l = append(l, part{"a cell locked", aNumber, 0, num(x.index)}, part{"a user", aText, 0, txt(x.user)})
	}
	return l
}

// join is the bytes of parts.
func join(l []part) []byte {
	var b []byte
	for _, x := range l {
		b = append(b, x.bytes...)
	}
	return b
}

func (c cubeOf) bytes() []byte {
	return join(c.parts())
}

// look is a cube as lists, of what can be asked of it.
func look(t *testing.T, c *cube.Cube) cubeOf {
	t.Helper()
	g := c.Graph()
	l := cubeOf{cat: dims.Put(c.Cat())}
	states := func(list []state.State) []stateOf {
		var l []stateOf
		for _, s := range list {
			l = append(l, lookAt(t, g.Book(), s))
		}
		return l
	}
	for _, name := range g.Names() {
		h := g.History(name)
		x := scenOf{name: name, parent: g.Parent(name), past: states(h.Past()), now: lookAt(t, g.Book(), h.Now()), future: states(h.Future())}
		if base, there := g.Base(x.parent, name); there {
			x.base = lookAt(t, g.Book(), base)
		}
		l.scens = append(l.scens, x)
	}
	return l
}

// lookAt is a state as lists: all leaves are gone through, and all cells.
func lookAt(t *testing.T, b *state.Book, s state.State) stateOf {
	t.Helper()
	var l stateOf
	space, held := b.Space(), b.Held(s)
	for code := range space.Leaves() {
		leaf, _ := space.Leaf(code)
		n, why := b.Value(s, leaf)
		if why != api.OK {
			t.Fatal("Value", why)
		}
		x := leafOf{code: int64(code), n: n}
		if slices.Contains(held, leaf) {
			x.held = 1
		}
		if x.n != 0 || x.held != 0 {
			l.leaves = append(l.leaves, x)
		}
	}
	for i := range space.Cells() {
		c, _ := space.Cell(i)
		if slices.Contains(held, c) && space.Code(c) < 0 {
			l.held = append(l.held, int64(i))
		}
		for _, lock := range s.Locks.List() {
			if lock.Cell == c {
				l.locks = append(l.locks, lockOf{int64(i), lock.User})
			}
		}
	}
	return l
}

// load is a cube with all that lists have, whether their bytes are a cube's or not; its graph's calls must take them.
func (c cubeOf) load(t *testing.T) *cube.Cube {
	t.Helper()
	cat, _ := dims.Get(c.cat)
	made, _, why := cube.New(cat)
	if why != api.OK {
		t.Fatal("cube", why)
	}
	g := made.Graph()
	states := func(l []stateOf) []state.State {
		var made []state.State
		for _, x := range l {
			made = append(made, x.load(t, g.Book()))
		}
		return made
	}
	for _, s := range c.scens {
		h, why := undo.Load(states(s.past), s.now.load(t, g.Book()), states(s.future))
		if why = cmp.Or(why, g.Load(s.name, s.parent, s.base.load(t, g.Book()), h)); why != api.OK {
			t.Fatal("Load", s.name, why)
		}
	}
	return made
}

// load is a state with all that lists have, asked for once.
func (l stateOf) load(t *testing.T, b *state.Book) state.State {
	t.Helper()
	s := state.State{}
	turn := func(next state.State, why api.Errno) {
		t.Helper()
		if why != api.OK {
			t.Fatal("a state of lists", why)
		}
		b.Drop(s)
		s = next
	}
	for _, x := range l.leaves {
		turn(b.Write(s, state.Val{Code: int(x.code), N: x.n}))
		if leaf, _ := b.Space().Leaf(int(x.code)); x.held != 0 {
			turn(b.Hold(s, leaf))
		}
	}
	for _, i := range l.held {
		c, _ := b.Space().Cell(int(i))
		turn(b.Hold(s, c))
	}
	for _, x := range l.locks {
		c, _ := b.Space().Cell(int(x.index))
		turn(b.Lock(s, c, x.user))
	}
	return s
}

// judge reads bytes by the words of the chapters 4 and 26 alone, and tells what Get must answer.
type judge struct {
	rest []byte
	why  api.Errno
}

// judged is what Get must answer of b.
func judged(b []byte) api.Errno {
	j := &judge{rest: b}
	c := cubeOf{cat: []byte(j.text())}
	for range j.count(api.MaxScens) {
		c.scens = append(c.scens, j.scenario())
	}
	if j.why == api.OK && (len(j.rest) > 0 || !c.can()) {
		return api.ErrForm
	}
	return j.why
}

func (j *judge) fail(why api.Errno) {
	j.why = cmp.Or(j.why, why)
}

// number is the next one: bytes up to the first below 128, that must be just what num makes of it.
func (j *judge) number() int64 {
	if j.why != api.OK {
		return 0
	}
	end := slices.IndexFunc(j.rest, func(c byte) bool { return c < 128 }) + 1
	if end == 0 {
		j.fail(api.ErrShort)
		return 0
	}
	bits := new(big.Int)
	for i := end - 1; i >= 0; i-- {
		bits.Lsh(bits, 7).Or(bits, big.NewInt(int64(j.rest[i]&127)))
	}
	n := new(big.Int).Rsh(bits, 1)
	if bits.Bit(0) == 1 {
		n.Neg(n).Sub(n, big.NewInt(1))
	}
	if !n.IsInt64() || !slices.Equal(num(n.Int64()), j.rest[:end]) {
		j.fail(api.ErrForm)
		return 0
	}
	j.rest = j.rest[end:]
	return n.Int64()
}

func (j *judge) count(most int) int {
	n := j.number()
	if n < 0 || n > int64(most) {
		j.fail(api.ErrSize)
		return 0
	}
	return int(n)
}

func (j *judge) text() string {
	n := j.count(api.MaxText)
	if n > len(j.rest) {
		j.fail(api.ErrShort)
	}
	if j.why != api.OK {
		return ""
	}
	s := string(j.rest[:n])
	j.rest = j.rest[n:]
	return s
}

func (j *judge) scenario() scenOf {
	var s scenOf
	s.name = j.text()
	s.parent = j.text()
	s.base = j.state()
	for range j.count(api.MaxUndo) {
		s.past = append(s.past, j.state())
	}
	s.now = j.state()
	for range j.count(api.MaxUndo) {
		s.future = append(s.future, j.state())
	}
	return s
}

func (j *judge) state() stateOf {
	var s stateOf
	for range j.count(api.MaxLeaves) {
		code := j.number()
		n := j.number()
		s.leaves = append(s.leaves, leafOf{code, n, j.number()})
	}
	for range j.count(api.MaxHolds) {
		s.held = append(s.held, j.number())
	}
	for range j.count(api.MaxLocks) {
		index := j.number()
		s.locks = append(s.locks, lockOf{index, j.text()})
	}
	return s
}

// can says of each condition on the bytes of a cube whether it is kept.
func (c cubeOf) can() bool {
	cat, why := dims.Get(c.cat)
	if why != api.OK {
		return false
	}
	d, _, why := dims.New(cat)
	if why != api.OK {
		return false
	}
	b, _ := state.New(d, 1)
	byName := map[string]int{}
	for i, s := range c.scens {
		byName[s.name] = i
		if !text.Name(s.name) || i > 0 && !text.Less(c.scens[i-1].name, s.name) {
			return false
		}
	}
	if _, there := byName["main"]; !there || len(c.scens) > cat.Scens {
		return false
	}
	for i, s := range c.scens {
		parent, there := byName[s.parent]
		none := len(s.base.leaves)+len(s.base.held)+len(s.base.locks) == 0
		if s.parent == "" && !none || s.parent != "" && (!there || parent == i) {
			return false
		}
		if len(s.past)+len(s.future) > api.MaxUndo {
			return false
		}
		for _, x := range slices.Concat([]stateOf{s.base, s.now}, s.past, s.future) {
			if !x.can(b) {
				return false
			}
		}
		if !s.now.fits(b, cat.Leaves) {
			return false
		}
	}
	return true
}

// can says whether a state keeps the conditions on all states.
func (s stateOf) can(b *state.Book) bool {
	space := b.Space()
	for i, x := range s.leaves {
		if i > 0 && s.leaves[i-1].code >= x.code || x.code < 0 || x.code >= int64(space.Leaves()) {
			return false
		}
		if x.held != 0 && x.held != 1 || x.n == 0 && x.held == 0 {
			return false
		}
	}
	for i, at := range s.held {
		c, there := space.Cell(int(at))
		if i > 0 && s.held[i-1] >= at || !there || space.Code(c) >= 0 {
			return false
		}
	}
	owners := map[int]string{}
	for i, x := range s.locks {
		c, there := space.Cell(int(x.index))
		if i > 0 && s.locks[i-1].index >= x.index || !there || !text.Name(x.user) {
			return false
		}
		for _, code := range space.Under(c) {
			if was := owners[code]; was != "" && was != x.user {
				return false
			}
			owners[code] = x.user
		}
	}
	return true
}

// fits says whether each cell's value fits in 64 bits, and no more than most leaves have a value.
func (s stateOf) fits(b *state.Book, most int) bool {
	sums, full := map[int]*big.Int{}, 0
	for _, x := range s.leaves {
		if x.n != 0 {
			full++
		}
		for _, c := range b.Space().Over(int(x.code)) {
			i := b.Space().Index(c)
			if sums[i] == nil {
				sums[i] = new(big.Int)
			}
			sums[i].Add(sums[i], big.NewInt(x.n))
		}
	}
	for _, sum := range sums {
		if !sum.IsInt64() {
			return false
		}
	}
	return full <= most
}

// newCube is one of a catalogue.
func newCube(t *testing.T, cat api.Cat) *cube.Cube {
	t.Helper()
	c, _, why := cube.New(cat)
	if why != api.OK {
		t.Fatal("cube", why)
	}
	return c
}

// must does commands that must be answered without an error; Scen is main, and User ann, if they are left out.
func must(t *testing.T, c *cube.Cube, l ...api.Cmd) {
	t.Helper()
	for _, x := range l {
		x.Scen, x.User = cmp.Or(x.Scen, "main"), cmp.Or(x.User, "ann")
		if r := c.Do(x); r.Why != api.OK {
			t.Fatalf("Do %+v = %d", x, r.Why)
		}
	}
}

// puts holds the bytes that Put tells of c.
func puts(t *testing.T, what string, c *cube.Cube, want []byte) {
	t.Helper()
	if b := snap.Put(c); !slices.Equal(b, want) {
		t.Errorf("%s: Put = %x; want %x", what, b, want)
	}
}

// gets is the cube of which b is the bytes.
func gets(t *testing.T, what string, b []byte) *cube.Cube {
	t.Helper()
	c, why := snap.Get(b)
	if c == nil || why != api.OK {
		t.Fatalf("%s: Get = %v, %d", what, c, why)
	}
	puts(t, what+", got", c, b)
	return c
}

// fails holds the error that Get has of b.
func fails(t *testing.T, what string, b []byte, want api.Errno) {
	t.Helper()
	if c, why := snap.Get(b); c != nil || why != want {
		t.Errorf("%s: Get = %v, %d; want %d", what, c, why, want)
	}
}

func set(k int, n int64) api.Cmd {
	return api.Cmd{Kind: api.CSet, Cell: cell(0, k), N: n}
}

// of is a command of another scenario.
func of(name string, x api.Cmd) api.Cmd {
	x.Scen = name
	return x
}

// by is a command by another user.
func by(user string, x api.Cmd) api.Cmd {
	x.User = user
	return x
}

// on is a command of a kind, on a cell.
func on(kind int, c api.Cell) api.Cmd {
	return api.Cmd{Kind: kind, Cell: c}
}

func branch(name string) api.Cmd { return api.Cmd{Kind: api.CBranch, Other: name} }

// undos is so many undos of a scenario.
func undos(name string, many int) []api.Cmd {
	return slices.Repeat([]api.Cmd{{Kind: api.CUndo, Scen: name}}, many)
}
