package snap

import (
	"moiety/api"
	"moiety/wire"
)

// line is a scenario as it is read, whether it can be or not.
type line struct {
	name, parent string
	base         image
	past         []image
	now          image
	future       []image
}

// image is a state as it is read, whether it can be or not: leaves, the indexes of cells above them that are held, and locks.
type image struct {
	leaves []leaf
	held   []int64
	locks  []lock
}

// leaf is a leaf's code and value, and whether it is held: 1, or 0.
type leaf struct {
	code, n, held int64
}

// lock is a cell's index, and the user who has locked it.
type lock struct {
	index int64
	user  string
}

// reader reads what a cube is made of. All of it is read ahead of asking whether it can be, as a fault of the reader goes ahead of all that can not be.
type reader struct {
	*wire.Reader
}

// list reads how many things there are, most at most, and each of them by one. Behind a fault there are none.
func list[T any](r reader, most int, one func() T) []T {
	var l []T
	for range r.Count(most) {
		l = append(l, one())
	}
	return l
}

func (r reader) line() line {
	return line{
		name:   r.Text(),
		parent: r.Text(),
		base:   r.image(),
		past:   list(r, api.MaxUndo, r.image),
		now:    r.image(),
		future: list(r, api.MaxUndo, r.image),
	}
}

func (r reader) image() image {
	return image{
		leaves: list(r, api.MaxLeaves, r.leaf),
		held:   list(r, api.MaxHolds, r.Num),
		locks:  list(r, api.MaxLocks, r.lock),
	}
}

func (r reader) leaf() leaf {
	return leaf{code: r.Num(), n: r.Num(), held: r.Num()}
}

func (r reader) lock() lock {
	return lock{index: r.Num(), user: r.Text()}
}

// nothing tells whether it is that of the zero state.
func (x image) nothing() bool {
	return len(x.leaves) == 0 && len(x.held) == 0 && len(x.locks) == 0
}
