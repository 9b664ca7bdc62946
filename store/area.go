package store

import (
	"slices"

	"moiety/api"
	"moiety/block"
	"moiety/cube"
	"moiety/log"
	"moiety/snap"
)

const (
	heads  = 2 // blocks ahead of the areas, and how many areas there are
	least  = 8 // blocks of a file
	number = 8 // bytes of a number in a head
)

// area is blocks of a file, from one up to ahead of another one, for an epoch: the bytes of its cube, and behind their last block its log.
type area struct {
	epoch    int64
	size     int64 // how many bytes the cube has
	from, to int
	log      *log.Log
	// records is how many of the log's are done: an Add whose power goes may leave one more, that nobody was told of.
	records int
}

// newest is the area of a file's epoch; false, if none of its blocks is a head. ErrNil; ErrArg, if there are too few blocks; ErrOff.
func newest(f *block.File) (area, bool, api.Errno) {
	if f == nil {
		return area{}, false, api.ErrNil
	}
	if f.Size() < least {
		return area{}, false, api.ErrArg
	}
	var last area
	for n := range heads {
		b, why := f.Read(n)
		if why != api.OK {
			return area{}, false, why
		}
		a := areaOf(f, read(b[:number]), read(b[number:2*number]))
		if a.place() == n && a.can() && slices.Equal(b, a.head()) && a.epoch > last.epoch {
			last = a
		}
	}
	return last, last.epoch > 0, api.OK
}

// areaOf is the area that an epoch has, without a log, whether a cube of so many bytes can be there or not.
func areaOf(f *block.File, epoch, size int64) area {
	a := area{epoch: epoch, size: size}
	blocks := (f.Size() - heads) / heads
	a.from = heads + a.place()*blocks
	a.to = a.from + blocks
	return a
}

// place is which of the heads, and of the areas, the epoch has.
func (a area) place() int {
	return int(a.epoch & 1)
}

// can tells whether there is such an epoch, and its cube, and a block more, have room. A number in a head is read as one with a sign, so that what is too great for it is below 0.
func (a area) can() bool {
	most := int64(a.to-a.from-1) * api.BlockSize
	return a.epoch > 0 && a.size >= 0 && a.size <= most
}

// head is the bytes of the epoch's head.
func (a area) head() []byte {
	return eights(a.epoch, a.size, 0, a.epoch)
}

// journal is the first block of the log.
func (a area) journal() int {
	return a.from + int((a.size+api.BlockSize-1)/api.BlockSize)
}

// write puts b, and noughts, into all blocks, and then writes the head. ErrOff.
func (a area) write(f *block.File, b []byte) api.Errno {
	for n := a.from; n < a.to; n++ {
		part := b[:min(len(b), api.BlockSize)]
		b = b[len(part):]
		if why := f.Write(n, part); why != api.OK {
			return why
		}
	}
	return f.Write(a.place(), a.head())
}

// open is the area with the log that its blocks have. ErrOff.
func (a area) open(f *block.File) (area, api.Errno) {
	l, why := log.Open(f, a.journal(), a.to)
	a.log, a.records = l, len(l.Records())
	return a, why
}

// load is the cube of the area's bytes, to which all commands of its records are done. ErrForm, if there is none, or one of these is none, or has an error.
func (a area) load(f *block.File) (*cube.Cube, api.Errno) {
	var b []byte
	for n := a.from; n < a.journal(); n++ {
		part, why := f.Read(n)
		if why != api.OK {
			return nil, why
		}
		b = append(b, part...)
	}
	c, why := snap.Get(b[:a.size])
	if why != api.OK {
		return nil, api.ErrForm
	}
	lines := a.log.Records()
	for _, line := range lines[:min(a.records, len(lines))] {
		x, why := Back(line)
		if why != api.OK || c.Do(x).Why != api.OK {
			return nil, api.ErrForm
		}
	}
	return c, api.OK
}

// eights is the bytes of all of l, eight of each number, the lowest first.
func eights(l ...int64) []byte {
	var b []byte
	for _, n := range l {
		for i := range number {
			b = append(b, byte(n>>(8*i)))
		}
	}
	return b
}

// read is the number of which b is the eight bytes.
func read(b []byte) int64 {
	n := int64(0)
	for _, c := range slices.Backward(b) {
		n = n<<8 | int64(c)
	}
	return n
}
