package block_test

import (
	"math"
	"math/rand"
	"testing"

	"moiety/api"
	"moiety/block"
)

// P23.4: blocks, and what is done to one of both changes nothing of the other.
func TestCopyIsAnother(t *testing.T) {
	f := newFile(t, 3)
	f.Write(1, []byte("both"))
	c := f.Copy()
	if c == f || c.Size() != 3 || !c.Same(f) || !f.Same(c) {
		t.Fatal("Copy")
	}
	told(t, "copy", c, 1, false)
	f.Write(0, []byte("one"))
	c.Write(2, []byte("other"))
	c.Write(2, []byte("another"))
	for n, s := range []string{"one", "both", ""} {
		has(t, f, n, s)
	}
	for n, s := range []string{"", "both", "another"} {
		has(t, c, n, s)
	}
	told(t, "one", f, 2, false)
	told(t, "other", c, 3, false)
	f.Stop(0, 0)
	is(t, "Write of the other", c.Write(0, nil), api.OK)
	is(t, "Write of the one", f.Write(0, nil), api.ErrOff)
	told(t, "one", f, 3, true)
	told(t, "other", c, 4, false)
}

// P23.4: a copy has the power.
func TestCopyWithThePowerOff(t *testing.T) {
	f := newFile(t, 2)
	f.Write(0, []byte("abc"))
	f.Stop(0, 2)
	f.Write(0, []byte("xyz"))
	c := f.Copy()
	told(t, "copy", c, 2, true)
	off(t, c, 0)
	is(t, "Write", c.Write(0, nil), api.ErrOff)
	is(t, "Stop", c.Stop(0, 0), api.ErrOff)
	is(t, "Up", c.Up(), api.OK)
	has(t, c, 0, "xyc")
	told(t, "copy", c, 2, false)
	told(t, "the first one", f, 2, true)
	off(t, f, 0)
	d := f.Copy()
	f.Up()
	told(t, "another copy", d, 2, true)
}

// P23.4: a copy has the Stop, as far as it has come, and each has one of its own.
func TestCopyWithAStop(t *testing.T) {
	f := newFile(t, 1)
	f.Stop(2, 1)
	is(t, "Write", f.Write(0, []byte("ab")), api.OK)
	c, d := f.Copy(), f.Copy()
	for _, x := range []*block.File{f, c} {
		is(t, "Write", x.Write(0, []byte("cd")), api.OK)
		is(t, "Write that is stopped", x.Write(0, []byte("ef")), api.ErrOff)
		told(t, "stopped", x, 3, true)
		x.Up()
		has(t, x, 0, "ed")
	}
	d.Up()
	e := d.Copy()
	d.Stop(0, 0)
	for range 4 {
		is(t, "Write without a stop", e.Write(0, nil), api.OK)
	}
	is(t, "Write with one", d.Write(0, nil), api.ErrOff)
}

// P23.4
func TestSame(t *testing.T) {
	f, o := newFile(t, 3), newFile(t, 3)
	same := func(what string, want bool) {
		t.Helper()
		if f.Same(o) != want || o.Same(f) != want {
			t.Errorf("%s: Same = %t, %t; want %t", what, f.Same(o), o.Same(f), want)
		}
		if !f.Same(f) || !o.Same(o) || f.Same(nil) || o.Same(nil) {
			t.Errorf("%s: Same with itself, or nil", what)
		}
	}
	same("new", true)
	for n := range 3 {
		for at := range size {
			b := make([]byte, size)
			b[at] = 1
			f.Write(n, b)
			same("a byte", false)
			o.Write(n, b)
			same("the same byte", true)
		}
	}
	f.Write(0, []byte("a"))
	o.Write(1, []byte("a"))
	same("other places", false)
	o.Write(1, nil)
	o.Write(0, []byte("b"))
	f.Write(1, nil)
	o.Write(0, []byte("a\x00"))
	o.Write(2, nil)
	f.Write(2, nil)
	same("other Writes", true)
	f.Stop(5, 5)
	same("a stop", true)
	f.Stop(0, 0)
	f.Write(0, []byte("lost"))
	same("the power off", true)
	o.Stop(0, 0)
	o.Write(0, []byte("lost, too"))
	same("the power of both off", true)
	f.Up()
	same("the power of one on", true)
}

// P23.4
func TestSameOfAnotherSize(t *testing.T) {
	sizes := []int{1, 2, 3, api.MaxBlocks - 1, api.MaxBlocks}
	for _, a := range sizes {
		for _, b := range sizes {
			if got := newFile(t, a).Same(newFile(t, b)); got != (a == b) {
				t.Errorf("Same of %d and %d = %t", a, b, got)
			}
		}
	}
}

// model is a file that has nothing but a list of bytes, and the number of the write in which the power goes.
type model struct {
	bytes        []byte
	gone         bool
	writes, goes int
	some         int
}

func newModel(blocks int) *model {
	return &model{bytes: make([]byte, blocks*size), goes: -1}
}

func (m *model) read(n int) ([]byte, api.Errno) {
	if m.gone {
		return nil, api.ErrOff
	}
	if n < 0 || n >= len(m.bytes)/size {
		return nil, api.ErrRange
	}
	return m.bytes[n*size : (n+1)*size], api.OK
}

func (m *model) write(n int, b []byte) api.Errno {
	if _, why := m.read(n); why != api.OK {
		return why
	}
	if len(b) > size {
		return api.ErrSize
	}
	m.writes++
	m.gone = m.writes == m.goes
	for i := range size {
		if m.gone && i == m.some {
			break
		}
		m.bytes[n*size+i] = 0
		if i < len(b) {
			m.bytes[n*size+i] = b[i]
		}
	}
	if m.gone {
		return api.ErrOff
	}
	return api.OK
}

func (m *model) stop(behind, some int) api.Errno {
	if behind < 0 || some < 0 || some > size {
		return api.ErrArg
	}
	if m.gone {
		return api.ErrOff
	}
	m.goes, m.some = m.writes+1+behind, some
	return api.OK
}

func (m *model) up() api.Errno {
	m.gone, m.goes = false, -1
	return api.OK
}

func (m *model) copy() *model {
	o := *m
	o.bytes = append([]byte{}, m.bytes...)
	return &o
}

// agree holds a file against its model: of a copy all blocks can be read, also with the power off.
func agree(t *testing.T, f *block.File, m *model) {
	t.Helper()
	if f.Size() != len(m.bytes)/size || f.Writes() != m.writes || f.Off() != m.gone {
		t.Fatalf("Size %d, Writes %d, Off %t; want %d, %d, %t", f.Size(), f.Writes(), f.Off(), len(m.bytes)/size, m.writes, m.gone)
	}
	c := f.Copy()
	c.Up()
	for n := -1; n <= f.Size(); n++ {
		want, wantWhy := m.read(n)
		if b, why := f.Read(n); string(b) != string(want) || why != wantWhy {
			t.Fatalf("Read(%d) = %q, %d; want %q, %d", n, b, why, want, wantWhy)
		}
		if n < 0 || n == f.Size() {
			continue
		}
		if b, why := c.Read(n); string(b) != string(m.bytes[n*size:(n+1)*size]) || why != api.OK {
			t.Fatalf("Read(%d) of a copy = %q, %d", n, b, why)
		}
	}
}

// some is a number from -1 to most, and now and then a very great one.
func some(r *rand.Rand, most int) int {
	switch r.Intn(40) {
	case 0:
		return math.MinInt
	case 1:
		return 1 << 40
	}
	return r.Intn(most+2) - 1
}

// P23.1 to P23.5: any calls, one behind the other, over two files, that are copied onto each other.
func TestAgainstTheModel(t *testing.T) {
	for seed := range int64(300) {
		r := rand.New(rand.NewSource(seed))
		blocks := 1 + r.Intn(4)
		files := []*block.File{newFile(t, blocks), newFile(t, 1+r.Intn(4))}
		models := []*model{newModel(blocks), newModel(files[1].Size())}
		for range 120 {
			at := r.Intn(2)
			f, m := files[at], models[at]
			got, want := api.OK, api.OK
			switch k := r.Intn(20); {
			case k < 12:
				b := make([]byte, r.Intn(size+2))
				r.Read(b)
				n := some(r, blocks)
				got, want = f.Write(n, b), m.write(n, b)
			case k < 16:
				behind, bytes := some(r, 3), some(r, size+1)
				got, want = f.Stop(behind, bytes), m.stop(behind, bytes)
			case k < 19:
				got, want = f.Up(), m.up()
			default:
				files[1-at], models[1-at] = f.Copy(), m.copy()
			}
			if got != want {
				t.Fatalf("seed %d: %d; want %d", seed, got, want)
			}
			agree(t, files[0], models[0])
			agree(t, files[1], models[1])
			if same := string(models[0].bytes) == string(models[1].bytes); files[0].Same(files[1]) != same {
				t.Fatalf("seed %d: Same is not %t", seed, same)
			}
		}
	}
}
