package shell

import (
	"slices"

	"moiety/api"
	"moiety/dims"
	"moiety/lex"
	"moiety/parse"
	"moiety/store"
)

// When a line may come.
const (
	never  = iota // no line has its first word
	ahead         // as long as there is no store
	behind        // as soon as there is one
	always
)

// What a word behind the first one must be.
const (
	aName  = iota
	anUp   // a name that need not be there
	aLimit // which limit it is
	aNumber
)

// The greatest numbers that a line's numbers are taken for.
const (
	mostLimit = 2000
	mostStop  = 100000
)

// when is when a line with that first word may come.
func when(first string) int {
	switch first {
	case "dim", "node", "measure", "limit", "open":
		return ahead
	case "compact":
		return behind
	case "stop", "up":
		return always
	}
	if parse.Kind(first) != 0 {
		return behind
	}
	return never
}

// wanted is what the words behind the first one must be, of a line that is no command.
func wanted(first string) []int {
	switch first {
	case "dim", "measure":
		return []int{aName}
	case "node":
		return []int{aName, aName, anUp}
	case "limit":
		return []int{aLimit, aNumber}
	case "stop":
		return []int{aNumber, aNumber}
	}
	return nil
}

// check is what is wrong with the words of a line that is no command: ErrForm, and the number of the first word that is not what is wanted, is wanting, or is one too many.
func check(words []lex.Word) (int, api.Errno) {
	l := wanted(words[0].Text)
	for i, want := range l {
		at := i + 1
		if at == len(words) && want == anUp {
			return 0, api.OK
		}
		if at == len(words) || !fits(words[at], want) {
			return at, api.ErrForm
		}
	}
	if len(words) > len(l)+1 {
		return len(l) + 1, api.ErrForm
	}
	return 0, api.OK
}

// fits tells whether a word is what is wanted.
func fits(w lex.Word, want int) bool {
	switch want {
	case aNumber:
		return w.Kind == lex.Num
	case aLimit:
		return w.Text == "leaves" || w.Text == "scens"
	}
	return w.Kind == lex.Name
}

// act does a line that is no command, whose words are as they must be.
func (s *Shell) act(words []lex.Word) api.Errno {
	switch words[0].Text {
	case "dim":
		return s.dim(words[1].Text)
	case "node":
		return s.node(words[1].Text, words[2].Text, words[3:])
	case "measure":
		return s.measure(words[1].Text)
	case "limit":
		s.limit(words[1].Text, near(words[2].N, mostLimit))
	case "open":
		return s.take(store.Create(s.file, s.made))
	case "compact":
		return s.store.Compact()
	case "stop":
		return s.file.Stop(near(words[1].N, mostStop), near(words[2].N, mostStop))
	case "up":
		s.file.Up()
		return s.take(store.Open(s.file))
	}
	return api.OK
}

// dim: a dimension more. ErrFull.
func (s *Shell) dim(name string) api.Errno {
	if len(s.made.Dims) >= api.MaxDims {
		return api.ErrFull
	}
	s.made.Dims = append(s.made.Dims, api.Dim{Name: name})
	return api.OK
}

// node: a member more of a dimension, below the one that is named, or below none. ErrNone, if there is no such dimension, or no such member; ErrFull.
func (s *Shell) node(dim, name string, up []lex.Word) api.Errno {
	k := slices.IndexFunc(s.made.Dims, func(x api.Dim) bool { return x.Name == dim })
	if k < 0 {
		return api.ErrNone
	}
	x := &s.made.Dims[k]
	n := api.Node{Name: name, Up: noUp}
	for _, w := range up {
		n.Up = slices.IndexFunc(x.Nodes, func(o api.Node) bool { return o.Name == w.Text })
		if n.Up < 0 {
			return api.ErrNone
		}
	}
	if len(x.Nodes) >= api.MaxNodes {
		return api.ErrFull
	}
	x.Nodes = append(x.Nodes, n)
	return api.OK
}

// measure: a measure more. ErrFull.
func (s *Shell) measure(name string) api.Errno {
	if len(s.made.Meas) >= api.MaxMeas {
		return api.ErrFull
	}
	s.made.Meas = append(s.made.Meas, name)
	return api.OK
}

// limit: one of the catalogue's two limits is n.
func (s *Shell) limit(which string, n int) {
	if which == "scens" {
		s.made.Scens = n
		return
	}
	s.made.Leaves = n
}

// take makes a store the shell's own, if there is one: with an error that is as it was.
func (s *Shell) take(next *store.Store, why api.Errno) api.Errno {
	if why != api.OK {
		return why
	}
	s.store = next
	// A cube's catalogue can be, so that no error can come of it.
	s.dims, _, _ = dims.New(next.Cube().Cat())
	return api.OK
}

// near is n, or the nearest number from the least one to the greatest one that it may be.
func near(n, most int64) int {
	return int(max(least, min(n, most)))
}
