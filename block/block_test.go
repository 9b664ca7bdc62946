package block_test

import (
	"bytes"
	"math"
	"strings"
	"testing"

	"moiety/api"
	"moiety/block"
)

const size = api.BlockSize

func newFile(t *testing.T, blocks int) *block.File {
	t.Helper()
	f, why := block.New(blocks)
	if f == nil || why != api.OK {
		t.Fatalf("New(%d) = %v, %d", blocks, f, why)
	}
	return f
}

// whole is s and noughts behind it.
func whole(s string) string {
	return s + strings.Repeat("\x00", size-len(s))
}

// fill is a block of the one byte c.
func fill(c byte) []byte {
	return bytes.Repeat([]byte{c}, size)
}

// has reads a block and holds it against s and noughts behind it.
func has(t *testing.T, f *block.File, n int, s string) {
	t.Helper()
	b, why := f.Read(n)
	if why != api.OK || string(b) != whole(s) {
		t.Errorf("Read(%d) = %q, %d; want %q", n, b, why, whole(s))
	}
}

// off reads a block with the power off.
func off(t *testing.T, f *block.File, n int) {
	t.Helper()
	if b, why := f.Read(n); len(b) != 0 || why != api.ErrOff {
		t.Errorf("Read(%d) = %q, %d; want none, %d", n, b, why, api.ErrOff)
	}
}

func is(t *testing.T, what string, got, want api.Errno) {
	t.Helper()
	if got != want {
		t.Errorf("%s = %d; want %d", what, got, want)
	}
}

// told holds what a file tells of itself.
func told(t *testing.T, what string, f *block.File, writes int, gone bool) {
	t.Helper()
	if f.Writes() != writes || f.Off() != gone {
		t.Errorf("%s: Writes %d, Off %t; want %d, %t", what, f.Writes(), f.Off(), writes, gone)
	}
}

// P23.1
func TestNew(t *testing.T) {
	for _, blocks := range []int{1, 2, 3, 100, api.MaxBlocks - 1, api.MaxBlocks} {
		f := newFile(t, blocks)
		if f.Size() != blocks {
			t.Errorf("Size = %d; want %d", f.Size(), blocks)
		}
		told(t, "new", f, 0, false)
		for n := range blocks {
			has(t, f, n, "")
		}
	}
}

// P23.1
func TestNewThatCanNotBe(t *testing.T) {
	for _, blocks := range []int{0, -1, math.MinInt, api.MaxBlocks + 1, math.MaxInt} {
		if f, why := block.New(blocks); f != nil || why != api.ErrArg {
			t.Errorf("New(%d) = %v, %d; want nil, %d", blocks, f, why, api.ErrArg)
		}
	}
}

// P23.1 to P23.4, P6: of nil ErrNil, 0, nil, false, also where another error would apply.
func TestNil(t *testing.T) {
	var f *block.File
	for _, n := range []int{math.MinInt, -1, 0, 1, math.MaxInt} {
		if b, why := f.Read(n); len(b) != 0 || why != api.ErrNil {
			t.Errorf("Read(%d) = %v, %d", n, b, why)
		}
		is(t, "Write", f.Write(n, nil), api.ErrNil)
		is(t, "Write of too much", f.Write(n, make([]byte, size+1)), api.ErrNil)
		is(t, "Stop", f.Stop(n, 0), api.ErrNil)
		is(t, "Stop", f.Stop(0, n), api.ErrNil)
	}
	is(t, "Up", f.Up(), api.ErrNil)
	told(t, "nil", f, 0, false)
	if f.Size() != 0 || f.Copy() != nil {
		t.Errorf("Size %d, Copy %v", f.Size(), f.Copy())
	}
	if f.Same(nil) || f.Same(newFile(t, 1)) || newFile(t, 1).Same(nil) {
		t.Error("Same with nil")
	}
}

// P6: a file that New did not make has no blocks, and its power is on.
func TestFileOfNothing(t *testing.T) {
	f := &block.File{}
	if b, why := f.Read(0); len(b) != 0 || why != api.ErrRange {
		t.Errorf("Read = %v, %d", b, why)
	}
	is(t, "Write", f.Write(0, nil), api.ErrRange)
	is(t, "Stop", f.Stop(0, 0), api.OK)
	is(t, "Up", f.Up(), api.OK)
	told(t, "no blocks", f, 0, false)
	if f.Size() != 0 || f.Copy().Size() != 0 || f.Same(newFile(t, 1)) {
		t.Error("a file of nothing")
	}
}

// P23.2
func TestRangeOfReadAndWrite(t *testing.T) {
	for _, blocks := range []int{1, 3, api.MaxBlocks} {
		f := newFile(t, blocks)
		for _, n := range []int{math.MinInt, -2, -1, blocks, blocks + 1, math.MaxInt} {
			if b, why := f.Read(n); len(b) != 0 || why != api.ErrRange {
				t.Errorf("Read(%d) of %d = %v, %d", n, blocks, b, why)
			}
			is(t, "Write", f.Write(n, []byte("a")), api.ErrRange)
		}
		is(t, "Write of the first", f.Write(0, []byte("first")), api.OK)
		has(t, f, 0, "first")
		is(t, "Write of the last", f.Write(blocks-1, []byte("last")), api.OK)
		has(t, f, blocks-1, "last")
		told(t, "two written", f, 2, false)
	}
}

// P23.2: what Read tells is one's own (rule 4).
func TestReadIsOnesOwn(t *testing.T) {
	f := newFile(t, 2)
	f.Write(0, fill('a'))
	f.Write(1, fill('b'))
	first, _ := f.Read(0)
	again, _ := f.Read(0)
	for i := range first {
		first[i] = 'x'
	}
	_ = append(first, "more than there was"...)
	if string(again) != string(fill('a')) {
		t.Errorf("another answer is %q", again)
	}
	has(t, f, 0, string(fill('a')))
	has(t, f, 1, string(fill('b')))
	f.Write(0, fill('c'))
	if string(again) != string(fill('a')) {
		t.Errorf("behind a Write an answer is %q", again)
	}
}

// P23.2: noughts stand behind what is shorter, also over bytes that were there.
func TestWriteOfEachSize(t *testing.T) {
	for many := range size + 1 {
		f := newFile(t, 1)
		b := fill('y')[:many]
		is(t, "Write over noughts", f.Write(0, b), api.OK)
		has(t, f, 0, string(b))
		is(t, "Write of a whole block", f.Write(0, fill('x')), api.OK)
		has(t, f, 0, string(fill('x')))
		is(t, "Write over bytes", f.Write(0, b), api.OK)
		has(t, f, 0, string(b))
		told(t, "three written", f, 3, false)
	}
}

// P23.2
func TestWriteOfNil(t *testing.T) {
	f := newFile(t, 1)
	f.Write(0, fill('x'))
	is(t, "Write of nil", f.Write(0, nil), api.OK)
	has(t, f, 0, "")
	told(t, "nil", f, 2, false)
}

// P23.2, rule 3
func TestWriteOfTooMuch(t *testing.T) {
	f := newFile(t, 2)
	f.Write(1, []byte("kept"))
	for _, many := range []int{size + 1, size + 2, 2 * size, 100000} {
		is(t, "Write", f.Write(1, bytes.Repeat([]byte{'y'}, many)), api.ErrSize)
	}
	has(t, f, 0, "")
	has(t, f, 1, "kept")
	told(t, "too much", f, 1, false)
}

// P23.2, rules 4 and 5: b is neither changed nor kept, and its room is none of it.
func TestWriteKeepsNothing(t *testing.T) {
	room := fill('r')
	copy(room, "hello")
	f := newFile(t, 2)
	is(t, "Write", f.Write(0, room[:5]), api.OK)
	f.Stop(0, 20)
	is(t, "Write that is stopped", f.Write(1, room[:5]), api.ErrOff)
	if string(room) != "hello"+string(fill('r')[5:]) {
		t.Errorf("Write changed what it was given: %q", room)
	}
	for i := range room {
		room[i] = 'z'
	}
	f.Up()
	has(t, f, 0, "hello")
	has(t, f, 1, "hello")
}

// P23.2, P23.3, rule 2: of several errors the one named first.
func TestErrorNamedFirst(t *testing.T) {
	much := make([]byte, size+1)
	f := newFile(t, 2)
	for _, n := range []int{-1, 2} {
		is(t, "Write out of range and of too much", f.Write(n, much), api.ErrRange)
	}
	f.Stop(0, 0)
	is(t, "Write out of range with a stop", f.Write(2, much), api.ErrRange)
	is(t, "Write of too much with a stop", f.Write(0, much), api.ErrSize)
	is(t, "Write", f.Write(0, nil), api.ErrOff)
	for _, n := range []int{math.MinInt, -1, 0, 1, 2, math.MaxInt} {
		off(t, f, n)
		is(t, "Write with the power off", f.Write(n, nil), api.ErrOff)
		is(t, "Write of too much with the power off", f.Write(n, much), api.ErrOff)
	}
	is(t, "Stop with the power off, behind -1", f.Stop(-1, 0), api.ErrArg)
	is(t, "Stop with the power off, -1 bytes", f.Stop(0, -1), api.ErrArg)
	is(t, "Stop with the power off, too many bytes", f.Stop(0, size+1), api.ErrArg)
	is(t, "Stop with the power off", f.Stop(0, 0), api.ErrOff)
}

// P23.3
func TestStopThatCanNotBe(t *testing.T) {
	rows := []struct {
		behind, bytes int
		want          api.Errno
	}{
		{-1, 0, api.ErrArg},
		{-1, -1, api.ErrArg},
		{-1, size + 1, api.ErrArg},
		{math.MinInt, 5, api.ErrArg},
		{0, -1, api.ErrArg},
		{0, math.MinInt, api.ErrArg},
		{0, size + 1, api.ErrArg},
		{0, math.MaxInt, api.ErrArg},
		{math.MaxInt, size + 1, api.ErrArg},
		{0, 0, api.OK},
		{0, size, api.OK},
		{1, 1, api.OK},
		{math.MaxInt, 0, api.OK},
		{math.MaxInt, size, api.OK},
	}
	for _, x := range rows {
		f := newFile(t, 1)
		if why := f.Stop(x.behind, x.bytes); why != x.want {
			t.Errorf("Stop(%d, %d) = %d; want %d", x.behind, x.bytes, why, x.want)
		}
		told(t, "Stop", f, 0, false)
		want := api.OK
		if x.want == api.OK && x.behind == 0 {
			want = api.ErrOff
		}
		is(t, "the next Write", f.Write(0, nil), want)
		told(t, "the next Write", f, 1, want == api.ErrOff)
	}
}

// P23.3: a power that goes behind very many writes does not go.
func TestStopFarAway(t *testing.T) {
	f := newFile(t, 1)
	f.Stop(math.MaxInt, 3)
	for n := range 1000 {
		is(t, "Write", f.Write(0, []byte("a")), api.OK)
		told(t, "Write", f, n+1, false)
	}
}

// P23.2, P23.3: the power goes in the write that was said, not ahead of it and not behind it.
func TestStopBehindSoMany(t *testing.T) {
	for behind := range 6 {
		f := newFile(t, 3)
		is(t, "Stop", f.Stop(behind, 2), api.OK)
		for n := range behind {
			is(t, "Write ahead of the stop", f.Write(n%3, []byte{'a' + byte(n), '1', '2'}), api.OK)
			told(t, "ahead of the stop", f, n+1, false)
			has(t, f, n%3, string([]byte{'a' + byte(n), '1', '2'}))
		}
		c := f.Copy()
		is(t, "Write that is stopped", f.Write(2, []byte("xyz")), api.ErrOff)
		told(t, "stopped", f, behind+1, true)
		f.Up()
		old, _ := c.Read(2)
		has(t, f, 2, "xy"+string(old[2:]))
		for n := range 2 {
			old, _ = c.Read(n)
			has(t, f, n, string(old))
		}
	}
}

// P23.2, P23.3, P23.5: of each length of b each number of bytes is written; the others, and all other blocks, are as they were.
func TestStopWithSoManyBytes(t *testing.T) {
	old := "abcdefghijklmnopqrstuvwxyz012345"
	give := "ABCDEFGHIJKLMNOPQRSTUVWXYZ678901"
	for many := range size + 1 {
		for written := range size + 1 {
			f := newFile(t, 3)
			for n := range 3 {
				f.Write(n, []byte(old))
			}
			is(t, "Stop", f.Stop(0, written), api.OK)
			is(t, "Write", f.Write(1, []byte(give[:many])), api.ErrOff)
			told(t, "Write", f, 4, true)
			f.Up()
			has(t, f, 0, old)
			has(t, f, 1, whole(give[:many])[:written]+old[written:])
			has(t, f, 2, old)
		}
	}
}

// P23.2, P23.3, P23.5: the first example.
func TestExample(t *testing.T) {
	f := newFile(t, 1)
	is(t, "Write", f.Write(0, []byte("abc")), api.OK)
	is(t, "Stop", f.Stop(0, 1), api.OK)
	is(t, "Write", f.Write(0, []byte("xyz")), api.ErrOff)
	is(t, "Up", f.Up(), api.OK)
	has(t, f, 0, "xbc")
	told(t, "Up", f, 2, false)
}

// P23.3: the last Stop alone counts, from then on; one that is refused changes nothing of it.
func TestStopBehindStop(t *testing.T) {
	f := newFile(t, 1)
	f.Stop(0, 1)
	is(t, "a later one", f.Stop(2, 4), api.OK)
	is(t, "Write", f.Write(0, fill('a')), api.OK)
	is(t, "counted from now on", f.Stop(1, 3), api.OK)
	for _, x := range [][2]int{{-1, 0}, {0, -1}, {0, size + 1}} {
		is(t, "refused", f.Stop(x[0], x[1]), api.ErrArg)
	}
	is(t, "Write", f.Write(0, fill('b')), api.OK)
	is(t, "Write", f.Write(0, fill('c')), api.ErrOff)
	told(t, "three written", f, 3, true)
	f.Up()
	has(t, f, 0, "ccc"+string(fill('b')[3:]))

	f.Stop(5, 5)
	f.Stop(0, 0)
	is(t, "an earlier one", f.Write(0, fill('d')), api.ErrOff)
	f.Up()
	has(t, f, 0, "ccc"+string(fill('b')[3:]))
}

// P23.2, P23.3: a Write with an error is none of those that are counted, nor is a Read.
func TestWhatIsNotCounted(t *testing.T) {
	f := newFile(t, 2)
	is(t, "Stop", f.Stop(1, size), api.OK)
	for range 5 {
		is(t, "out of range", f.Write(2, nil), api.ErrRange)
		is(t, "below the range", f.Write(-1, nil), api.ErrRange)
		is(t, "too much", f.Write(0, make([]byte, size+1)), api.ErrSize)
		has(t, f, 0, "")
		f.Size()
		f.Copy().Write(0, nil)
		f.Same(newFile(t, 2))
	}
	told(t, "errors", f, 0, false)
	is(t, "the first", f.Write(0, []byte("one")), api.OK)
	told(t, "one", f, 1, false)
	is(t, "out of range", f.Write(2, nil), api.ErrRange)
	is(t, "too much", f.Write(0, make([]byte, size+1)), api.ErrSize)
	told(t, "still one", f, 1, false)
	is(t, "the second", f.Write(1, []byte("two")), api.ErrOff)
	told(t, "two", f, 2, true)
}

// P23.2, P23.3, P23.5: with the power off nothing is read, written or stopped, and all is as it was.
func TestOff(t *testing.T) {
	f := newFile(t, 2)
	f.Write(0, []byte("a"))
	f.Stop(0, 1)
	f.Write(1, []byte("xy"))
	c := f.Copy()
	for range 3 {
		off(t, f, 0)
		is(t, "Write", f.Write(0, []byte("lost")), api.ErrOff)
		is(t, "Stop", f.Stop(0, 0), api.ErrOff)
		told(t, "off", f, 2, true)
	}
	if f.Size() != 2 || !f.Same(c) || !f.Copy().Off() {
		t.Error("a file whose power is off")
	}
	is(t, "Up", f.Up(), api.OK)
	told(t, "up", f, 2, false)
	has(t, f, 0, "a")
	has(t, f, 1, "x")
	is(t, "Write", f.Write(0, []byte("b")), api.OK)
	told(t, "written", f, 3, false)
}

// P23.3: a Stop with the power off is refused, and counts no more behind Up than the one that was met.
func TestUpBehindOff(t *testing.T) {
	f := newFile(t, 1)
	f.Stop(0, 0)
	f.Write(0, []byte("a"))
	is(t, "Stop", f.Stop(0, 5), api.ErrOff)
	is(t, "Up", f.Up(), api.OK)
	for n := range 10 {
		is(t, "Write", f.Write(0, []byte("b")), api.OK)
		told(t, "Write", f, n+2, false)
	}
	has(t, f, 0, "b")
}

// P23.3: Up with the power on lets a Stop that is waiting go.
func TestUpWithThePowerOn(t *testing.T) {
	f := newFile(t, 1)
	is(t, "Up of a new one", f.Up(), api.OK)
	told(t, "Up of a new one", f, 0, false)
	f.Stop(1, 2)
	f.Write(0, []byte("a"))
	is(t, "Up", f.Up(), api.OK)
	for range 5 {
		is(t, "Write", f.Write(0, []byte("bcd")), api.OK)
	}
	has(t, f, 0, "bcd")
	told(t, "no stop", f, 6, false)
	is(t, "Stop", f.Stop(0, 2), api.OK)
	is(t, "a new stop", f.Write(0, []byte("xyz")), api.ErrOff)
	f.Up()
	has(t, f, 0, "xyd")
}
