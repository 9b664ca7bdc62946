package shell_test

import (
	"bytes"
	"math/rand"
	"slices"
	"strings"
	"testing"

	"moiety/api"
	"moiety/dims"
	"moiety/shell"
)

const off = "error 21"

// play is lines of all kinds that change something, so many that the log is full more than once.
func play() []string {
	l := append(makes(small()),
		"set ann main m/all 7", "get main m/a", "hold main m/a", "set ann main m/all 9", "set ann main m/a 1", "lock bob main m/b", "set ann main m/b 1", "undo main", "redo main",
		"branch main p", "release p m/a", "set bob p m/all 900000000000 prop", "set ann p m/a -4", "merge bob p main", "merge bob p main theirs", "undo main", "merge bob p main ours",
		"compact", "unlock bob main m/b", "set abcdefghijkl main m/all 55", "branch p q", "drop p", "diff main q",
	)
	for n := range 14 {
		l = append(l, "set ann q m/all "+num(int64(n*n)), "set abcdefghijkl main m/b "+num(int64(1)<<(4*n)), "scens", "undo q")
	}
	return append(l, "compact", "set ann main m/all 3", "drop q", "get main m/all")
}

// scene is the lists, and the whole cube, behind some lines.
type scene struct {
	w    *world
	cube []byte
}

// scenes is what there is ahead of each line, and behind all, if the power does not go.
func scenes(t *testing.T, blocks int, lines []string) ([]scene, int) {
	t.Helper()
	r := newRig(t, blocks)
	l := []scene{{r.w.clone(), nil}}
	for _, line := range lines {
		r.do(line)
		now := scene{w: r.w.clone()}
		if r.w.open {
			now.cube = picture(r.s)
		}
		l = append(l, now)
	}
	if r.s.Store().Epoch() < 5 {
		t.Fatal("a log that is never full", r.s.Store().Epoch())
	}
	return l, r.s.File().Writes()
}

// is tells whether a shell has what a scene has.
func (x scene) is(s *shell.Shell) bool {
	if s.Store() == nil {
		return x.cube == nil
	}
	return bytes.Equal(picture(s), x.cube) && dims.Same(s.Cat(), x.w.cat)
}

// P5: the power goes in each write of a block, with some numbers of its bytes: opened again once and twice all is as behind the lines that were answered, or as behind these and the one in which it went; and so it goes on.
func TestPower(t *testing.T) {
	const blocks = 40
	lines := play()
	want, writes := scenes(t, blocks, lines)
	kept, done := 0, 0
	for k := range writes {
		for _, b := range []int{0, 1, 4, 11, 23, 24, 25, 31, 32} {
			s := newShell(t, blocks)
			says(t, s, "stop "+num(int64(k))+" "+num(int64(b)), "ok")
			i := 0
			for !s.File().Off() {
				was := want[i].w.clone()
				if l := s.Do(lines[i]); !s.File().Off() && !slices.Equal(l, was.answer(lines[i])) {
					t.Fatalf("%q: %q", lines[i], l)
				} else if s.File().Off() && !slices.Equal(l, []string{off}) {
					t.Fatalf("the power goes in %q: %q", lines[i], l)
				}
				i++
			}
			i = again(t, s, want, lines, i)
			if want[i].is(s) {
				done++
			} else {
				kept++
			}
			goOn(t, s, want[i].w.clone(), lines[i:])
			if t.Failed() {
				t.Fatalf("the power went in write %d, at %d bytes", k, b)
			}
		}
	}
	if kept+done < 1000 || done < 100 {
		t.Error("few cases", kept, done)
	}
}

// again opens the file anew, once and twice, behind a line in which the power went: how many lines are done then.
func again(t *testing.T, s *shell.Shell, want []scene, lines []string, i int) int {
	t.Helper()
	for _, line := range []string{"get main m/all", "scens", "set ann main m/a 1", "compact", "undo main"} {
		if s.Store() != nil {
			says(t, s, line, off)
		}
	}
	says(t, s, "stop 0 0", off)
	first := s.Do("up")
	second := s.Do("up")
	if !slices.Equal(first, second) || len(first) != 1 || first[0] != "ok" && (first[0] != "error 10" || want[i-1].w.open) {
		t.Fatalf("up behind %q: %q, %q", lines[i-1], first, second)
	}
	switch {
	case want[i].is(s):
		return i
	case want[i-1].is(s):
		return i - 1
	}
	t.Fatalf("behind up, the power of which went in %q: neither as ahead of it, nor as behind it", lines[i-1])
	return 0
}

// goOn does the lines that are left, and asks for all.
func goOn(t *testing.T, s *shell.Shell, w *world, lines []string) {
	t.Helper()
	r := &rig{t, s, w}
	r.do(lines...)
	r.probe()
	r.do("compact", "up")
	r.probe()
}

// P5: whatever number of bytes of a block is written.
func TestPowerBytes(t *testing.T) {
	const blocks = 40
	lines := append(makes(small()), "set ann main m/all 7", "branch main plan", "merge abcdefghijkl plan main theirs", "compact", "set abcdefghijkl plan m/all 123456789 prop")
	r := newRig(t, blocks)
	var want []scene
	for _, line := range append([]string{""}, lines...) {
		r.do(line)
		now := scene{w: r.w.clone()}
		if r.w.open {
			now.cube = picture(r.s)
		}
		want = append(want, now)
	}
	for k := range r.s.File().Writes() {
		for b := range api.BlockSize + 1 {
			s := newShell(t, blocks)
			says(t, s, "stop "+num(int64(k))+" "+num(int64(b)), "ok")
			i := 0
			for ; !s.File().Off(); i++ {
				s.Do(lines[i])
			}
			i = again(t, s, want, lines, i)
			goOn(t, s, want[i].w.clone(), lines[i:])
		}
	}
}

// P1: the power that goes in open: all lines of a catalogue are there still, and it may be opened behind up; or it was, and then the catalogue is the one that was.
func TestPowerInOpen(t *testing.T) {
	l := makes(small())
	r := newRig(t, 40)
	r.do(l...)
	opened := 0
	for k := range r.s.File().Writes() {
		for b := range api.BlockSize + 1 {
			r := newRig(t, 40)
			r.do(l[:len(l)-1]...)
			r.do("stop " + num(int64(k)) + " " + num(int64(b)))
			says(t, r.s, "open", off)
			if r.s.Store() != nil {
				t.Error("a store without power")
			}
			says(t, r.s, "open", off)
			says(t, r.s, "stop 0 0", off)
			says(t, r.s, "get main m/all", "error 22")
			says(t, r.s, "compact", "error 22")
			says(t, r.s, "measure n", "ok")
			if up := r.s.Do("up"); up[0] == "ok" {
				opened++
				r.w.begin()
				r.do("measure n", "get main m/all", "get main n/all")
			} else {
				says(t, r.s, "up", "error 10")
				r.w.answer("measure n")
				r.do("open", "get main m/all", "get main n/all")
			}
			r.probe()
		}
	}
	if opened == 0 {
		t.Error("never opened")
	}
}

// P5: powers that go at any times, in files of some sizes.
func TestPowersAtAnyTimes(t *testing.T) {
	went := 0
	for seed := range int64(60) {
		r := opened(t, 60+int(seed), small())
		d := dice{rand.New(rand.NewSource(seed)), r.w}
		for range 400 {
			if d.Intn(8) == 0 {
				says(t, r.s, "stop "+num(d.Int63n(30))+" "+num(d.Int63n(33)), "ok")
			}
			line := d.line()
			was := r.w.clone()
			ahead := scene{was, picture(r.s)}
			l, said := r.s.Do(line), r.w.answer(line)
			if !r.s.File().Off() {
				// Without room the file answers ErrFull, and nothing is done.
				if slices.Equal(l, []string{"error 14"}) && !slices.Equal(l, said) {
					*r.w = *was
				} else if !slices.Equal(l, said) {
					t.Fatalf("%q: %q; want %q", line, l, said)
				}
				continue
			}
			went++
			says(t, r.s, "up", "ok")
			says(t, r.s, "up", "ok")
			if ahead.is(r.s) {
				*r.w = *was
			}
			r.probe()
		}
		r.do("up")
		r.probe()
	}
	if went < 200 {
		t.Error("the power goes seldom", went)
	}
}

// P5: to compact changes no answer.
func TestCompact(t *testing.T) {
	for name, cat := range cats() {
		r := opened(t, 2000, cat)
		d := dice{rand.New(rand.NewSource(int64(len(name)))), r.w}
		for range 40 {
			for range 10 {
				r.do(d.line())
			}
			was := picture(r.s)
			r.do("compact")
			if !bytes.Equal(picture(r.s), was) {
				t.Fatal(name, "compact changes the cube")
			}
			r.do("up")
			if !bytes.Equal(picture(r.s), was) {
				t.Fatal(name, "up changes the cube")
			}
		}
		r.probe()
	}
}

// P31.1: stop's numbers, each as it is, or as the nearest that may be; stop of a file whose power is off; up.
func TestStop(t *testing.T) {
	for _, made := range []int{0, 1} {
		r := newRig(t, 100)
		if made == 1 {
			r.do(makes(small())...)
		}
		for _, line := range []string{"stop -1 0", "stop -2 5", "stop -9223372036854775808 5", "stop 0 -1", "stop 0 33", "stop 0 100000", "stop 0 100001", "stop 0 4294967296", "stop 0 9223372036854775807", "stop -1 33", "stop 5 -9223372036854775808", "stop -4294967296 0", "stop 0 4294967328"} {
			kept(t, r.s, line, "error 2")
		}
		for _, line := range []string{"stop 0 0", "stop 0 32", "stop 100000 0", "stop 100001 0", "stop 9223372036854775807 32", "stop 4294967296 1"} {
			r.do(line, "up")
			says(t, r.s, line, "ok")
		}
		if r.s.File().Off() {
			t.Error("off")
		}
	}
	// The last Stop counts.
	s := told(t)
	talks(t, s, "stop 0 0 > ok", "stop 100000 0 > ok", "set ann main m/all 7 > ok", "stop 0 0 > ok", "stop 2 0 > ok", "set ann main m/a 1 > ok", "set ann main m/a 2 > error 21", "stop 0 0 > error 21", "stop -1 0 > error 2", "stop x 0 > error 6 at 1", "get main m/q > error 10 at 2", "up > ok", "get main m/a > 1", "set ann main m/a 3 > ok", "stop 0 0 > ok", "up > ok", "set ann main m/a 4 > ok")
}

// P31.1: a stop that is beyond the nearest number that may be does not wait for longer: its write is the 100001st.
func TestStopAtMost(t *testing.T) {
	for _, line := range []string{"stop 100000 3", "stop 100001 3", "stop 9223372036854775807 3"} {
		s := newShell(t, 100)
		says(t, s, line, "ok")
		writes := 0
		for s.File().Write(0, nil) == api.OK {
			writes++
		}
		if writes != 100000 {
			t.Error(line, writes)
		}
	}
}

// P31.1: up ahead of open, with the power on and off: it is on, though no store can be opened.
func TestUpAheadOfOpen(t *testing.T) {
	r := newRig(t, 100)
	l := makes(small())
	r.do(l[:len(l)-1]...)
	r.do("up", "stop 0 0")
	says(t, r.s, "open", off)
	says(t, r.s, "up", "error 10")
	r.do("stop 50000 0", "open", "set ann main m/all 7", "up", "get main m/a")
}

// P31.3, P31.1: an up that finds no store, or one that can not be, leaves a store without power as it was.
func TestUpThatCanNot(t *testing.T) {
	s := told(t, "set ann main m/all 7", "stop 0 0")
	says(t, s, "set ann main m/all 9", off)
	was := s.Store()
	s.File().Up()
	head, _ := s.File().Read(1)
	s.File().Write(1, nil)
	for range 2 {
		kept(t, s, "up", "error 10")
		says(t, s, "get main m/a", off)
		says(t, s, "compact", off)
		says(t, s, "measure n", "error 22")
	}
	s.File().Write(1, head)
	cube, _ := s.File().Read(51)
	s.File().Write(51, []byte(strings.Repeat("x", 32)))
	kept(t, s, "up", "error 6")
	says(t, s, "get main m/a", off)
	if s.Store() != was {
		t.Error("another store")
	}
	s.File().Write(51, cube)
	says(t, s, "up", "ok")
	says(t, s, "get main m/a", "4")
}
