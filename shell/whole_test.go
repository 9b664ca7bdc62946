package shell_test

import (
	"bytes"
	"cmp"
	"math/rand"
	"slices"
	"strconv"
	"strings"
	"testing"

	"moiety/api"
	"moiety/shell"
)

// told is a shell of the catalogue of the ten examples, of leaves a and b below all, behind lines.
func told(t *testing.T, lines ...string) *shell.Shell {
	t.Helper()
	s := newShell(t, 100)
	for _, line := range append(makes(small()), lines...) {
		says(t, s, line, "ok")
	}
	return s
}

// talks does lines and holds their answers: what stands behind a > in each, line by line between semicolons.
func talks(t *testing.T, s *shell.Shell, l ...string) {
	t.Helper()
	for _, one := range l {
		line, want, _ := strings.Cut(one, " > ")
		says(t, s, line, strings.Split(want, "; ")...)
	}
}

// P1, P31.4: the ten examples of the whole, and the chapter's own, line by line.
func TestExamples(t *testing.T) {
	talks(t, newShell(t, 80), "dim x > ok", "node x all > ok", "node x a all > ok", "measure m > ok", "open > ok", "set ann main m/all 5 > ok", "get main m/a > 5")
	// 1
	talks(t, told(t), "set ann main m/all 7 > ok", "get main m/a > 4", "get main m/b > 3", "get main m/all > 7")
	// 2
	talks(t, told(t, "set ann main m/all 7", "hold main m/a"), "set ann main m/all 9 > ok", "get main m/b > 5", "get main m/a > 4", "set ann main m/a 1 > error 11", "get main m/a > 4")
	// 3
	talks(t, told(t, "lock bob main m/b"), "set ann main m/b 1 > error 12", "set bob main m/b 1 > ok", "hold main m/a > ok", "set ann main m/all 5 > error 13", "set bob main m/all 5 > ok", "get main m/b > 5")
	// 4
	talks(t, told(t, "set ann main m/a 3", "set ann main m/b 1"), "set ann main m/all 12 prop > ok", "get main m/a > 9", "get main m/b > 3")
	// 5
	s := told(t, "set ann main m/all 7", "branch main p", "set ann p m/a 9")
	talks(t, s, "get main m/a > 4", "get main m/all > 7", "diff main p > m/a 4 9; ok", "merge ann p main > ok", "get main m/a > 9", "get main m/all > 12")
	// 6
	s = told(t, "set ann main m/all 7", "branch main p", "set ann p m/a 9", "set ann main m/a 8")
	talks(t, s, "merge ann p main > clash m/a 4 8 9; error 20", "get main m/a > 8", "merge ann p main theirs > clash m/a 4 8 9; ok", "get main m/a > 9")
	// 7
	talks(t, told(t, "set ann main m/all 7", "set ann main m/all 9"), "undo main > ok", "get main m/all > 7", "redo main > ok", "get main m/all > 9", "undo main > ok", "set ann main m/a 1 > ok", "redo main > error 19", "get main m/all > 4")
	// 8
	s = told(t, "set ann main m/a 9223372036854775807")
	talks(t, s, "set ann main m/b 1 > error 8", "get main m/b > 0", "set ann main m/b -1 > ok", "get main m/all > 9223372036854775806", "set ann main m/all 9223372036854775807 > error 8", "get main m/all > 9223372036854775806")
	// 9
	s = told(t, "set ann main m/all 7", "stop 0 5")
	talks(t, s, "set ann main m/all 9 > error 21", "get main m/all > error 21", "up > ok", "get main m/all > 7", "get main m/a > 4")
	// 10
	s = told(t, "set ann main m/all 7", "stop 1 32")
	talks(t, s, "set abcdefghijkl main m/all 9000000000 > error 21", "up > ok", "get main m/all > 9000000000", "undo main > ok", "get main m/all > 7")
}

// P1, P31.4, P4: a script's answers are those of a cube that has nothing but lists.
func TestAnyScript(t *testing.T) {
	for name, cat := range cats() {
		for seed := range int64(6) {
			r := opened(t, 4096, cat)
			d := dice{rand.New(rand.NewSource(seed)), r.w}
			for i := range 400 {
				line := d.line()
				was := r.w.clone()
				r.do(line)
				if i%100 == 99 {
					r.probe()
				}
				if t.Failed() {
					t.Fatal(name, line, was.names())
				}
			}
			r.do("up")
			r.probe()
		}
	}
}

// P1: scripts from the first line on, with catalogues that are made by chance, and may never be opened.
func TestAnyScriptFromTheStart(t *testing.T) {
	begun := 0
	for seed := range int64(300) {
		r := newRig(t, 4096)
		d := dice{rand.New(rand.NewSource(seed)), r.w}
		r.do(d.pick("dim x", "dim x", "dim y", "open"))
		for range 150 {
			line := d.line()
			if !r.w.open && d.Intn(6) > 0 {
				one, other := num(d.Int63n(40)), num(d.Int63n(40))
				line = d.pick("node x n"+one, "node x n"+one+" n"+other, "measure m"+one, "open", "limit leaves 9", "limit scens 3")
			}
			r.do(line)
		}
		if r.w.open {
			r.probe()
			begun++
		}
	}
	if begun < 100 {
		t.Error("few catalogues can be", begun)
	}
}

// P1, P6: lines of any bytes, ahead of open and behind it.
func TestAnyBytes(t *testing.T) {
	rnd := rand.New(rand.NewSource(31))
	for _, r := range []*rig{newRig(t, 4096), opened(t, 4096, small())} {
		for range 20000 {
			var b []byte
			for range rnd.Intn(9) {
				switch rnd.Intn(4) {
				case 0:
					b = append(b, byte(rnd.Intn(256)))
				case 1:
					b = append(b, others()[rnd.Intn(len(others()))]...)
				default:
					words := strings.Fields(samples()[rnd.Intn(len(samples()))])
					b = append(b, words[rnd.Intn(len(words))]...)
				}
				if rnd.Intn(4) > 0 {
					b = append(b, ' ')
				}
			}
			r.do(string(b))
		}
	}
}

// P1: texts of any bytes.
func TestAnyText(t *testing.T) {
	rnd := rand.New(rand.NewSource(32))
	for range 300 {
		r := newRig(t, 200)
		if rnd.Intn(2) == 0 {
			r.do(makes(small())...)
		}
		b := make([]byte, rnd.Intn(2000))
		for i := range b {
			b[i] = " \n\nx5/#"[rnd.Intn(7)]
			if rnd.Intn(10) == 0 {
				b[i] = byte(rnd.Intn(256))
			}
		}
		want := ""
		lines := strings.Split(string(b), "\n")
		if last := len(lines) - 1; lines[last] == "" {
			lines = lines[:last]
		}
		for _, line := range lines {
			for _, answer := range r.w.answer(line) {
				want += answer + "\n"
			}
		}
		if x, why := r.s.Run(string(b)); x != want || why != api.OK {
			t.Fatalf("Run(%q) = %q, %d; want %q", b, x, why, want)
		}
	}
}

// P2: what a write leaves as it was, and what free leaves change by, asked through the shell alone.
func TestWrites(t *testing.T) {
	for name, cat := range cats() {
		rnd := rand.New(rand.NewSource(int64(len(name))))
		r := opened(t, 4096, cat)
		d := dice{rnd, r.w}
		cell := func() string { return r.w.show(r.w.cells[rnd.Intn(len(r.w.cells))]) }
		written := 0
		for range 300 {
			if rnd.Intn(3) == 0 {
				r.s.Do(d.pick("hold main ", "release main ", "lock ann main ", "lock bob main ", "unlock ann main ", "unlock bob main ") + cell())
			}
			if rnd.Intn(4) == 0 {
				r.s.Do("undo main")
			}
			if asksWrite(t, r, d, cell()) {
				written++
			}
		}
		if written < 50 {
			t.Error(name, "few writes", written)
		}
	}
}

// asksWrite writes a cell, and asks what P2 says, if it is answered by ok.
func asksWrite(t *testing.T, r *rig, d dice, cell string) bool {
	t.Helper()
	n, how := int64(d.Intn(2000)-500), d.pick("", " prop", " weight m")
	values := func() map[string]int64 {
		l := map[string]int64{}
		for _, c := range r.w.cells {
			l[r.w.show(c)] = number(t, r.s, "get main "+r.w.show(c))
		}
		return l
	}
	was, holds := values(), r.s.Do("holds main")
	free := map[string]bool{}
	for _, leaf := range r.w.leaves {
		c, _ := r.w.cell(cell)
		free[r.w.show(leaf)] = r.w.within(leaf, c) && number(t, r.s, "free ann main "+r.w.show(leaf)) == 1
	}
	line := "set ann main " + cell + " " + num(n) + how
	if l := r.s.Do(line); !slices.Equal(l, []string{"ok"}) {
		if now := values(); !same(was, now) {
			t.Fatalf("%q: %q, but something changes", line, l)
		}
		return false
	}
	now := values()
	if now[cell] != n {
		t.Fatalf("%q: the cell is %d", line, now[cell])
	}
	for _, h := range holds[:len(holds)-1] {
		if now[h] != was[h] {
			t.Fatalf("%q: %s is held, and changes", line, h)
		}
	}
	asksParts(t, r, line, how, was, now, free, n-was[cell])
	return true
}

// asksParts asks that leaves that are not free do not change, and those that are by less than 1 from their quotas, the units left to the largest fractions, then to the lowest leaves.
func asksParts(t *testing.T, r *rig, line, how string, was, now map[string]int64, free map[string]bool, whole int64) {
	t.Helper()
	if whole == 0 {
		return
	}
	far := func(n int64) int64 { return max(n, -n) }
	weight := func(leaf api.Cell) int64 {
		switch how {
		case " prop":
			return far(was[r.w.show(leaf)])
		case " weight m":
			leaf.Meas = 0
			return far(was[r.w.show(leaf)])
		}
		return 1
	}
	sum := int64(0)
	for _, leaf := range r.w.leaves {
		if free[r.w.show(leaf)] {
			sum += weight(leaf)
		}
	}
	type rest struct{ fraction, more int64 }
	var l []rest
	for _, leaf := range r.w.leaves {
		name := r.w.show(leaf)
		by := now[name] - was[name]
		if !free[name] {
			if by != 0 {
				t.Fatalf("%q: %s is not free, and changes by %d", line, name, by)
			}
			continue
		}
		floor, fraction := far(whole)*weight(leaf)/sum, far(whole)*weight(leaf)%sum
		more := far(by) - floor
		if more < 0 || more > 1 || more == 1 && fraction == 0 || by != 0 && (by < 0) != (whole < 0) {
			t.Fatalf("%q: %s changes by %d; its quota is %d and %d of %d", line, name, by, floor, fraction, sum)
		}
		l = append(l, rest{fraction, more})
	}
	slices.SortStableFunc(l, func(a, b rest) int { return cmp.Compare(b.fraction, a.fraction) })
	if !slices.IsSortedFunc(l, func(a, b rest) int { return cmp.Compare(b.more, a.more) }) {
		t.Fatalf("%q: units that are left do not go by the largest fraction, then by the lowest leaf: %v", line, l)
	}
}

func same(a, b map[string]int64) bool {
	for k := range a {
		if a[k] != b[k] {
			return false
		}
	}
	return len(a) == len(b)
}

// number is the answer of a line that is answered by a number.
func number(t *testing.T, s *shell.Shell, line string) int64 {
	t.Helper()
	l := s.Do(line)
	if len(l) != 1 {
		t.Fatalf("%q: %q", line, l)
	}
	n, err := strconv.ParseInt(l[0], 10, 64)
	if err != nil {
		t.Fatalf("%q: %q", line, l)
	}
	return n
}

// answers is all that lines are answered by.
func answers(s *shell.Shell, lines []string) string {
	all := ""
	for _, line := range lines {
		all += strings.Join(s.Do(line), "\n") + "\n"
	}
	return all
}

// P3: as many undos as commands that changed a scenario make all as it was, as many redos as it was behind them; no other scenario changes.
func TestUndo(t *testing.T) {
	for name, cat := range cats() {
		if cat.Scens < 3 {
			continue
		}
		r := opened(t, 4096, cat)
		d := dice{rand.New(rand.NewSource(int64(len(name)))), r.w}
		r.do("set ann main "+r.w.show(r.w.cells[0])+" 50", "branch main p", "branch main q", "set ann q "+r.w.show(r.w.cells[1])+" 9")
		lines := asks(r.w)
		for range 6 {
			many := 1 + d.Intn(api.MaxUndo)
			seen := []string{answers(r.s, lines)}
			for len(seen) <= many {
				line := d.pick("set ann p CELL N SPREAD", "hold p CELL", "release p CELL", "lock ann p CELL", "unlock ann p CELL", "merge ann main p theirs", "merge ann q p")
				var words []string
				for _, want := range strings.Fields(line) {
					words = append(words, d.word(want))
				}
				if l := r.s.Do(strings.Join(words, " ")); l[len(l)-1] == "ok" {
					seen = append(seen, answers(r.s, lines))
				}
			}
			for k := many - 1; k >= 0; k-- {
				says(t, r.s, "undo p", "ok")
				if answers(r.s, lines) != seen[k] {
					t.Fatal(name, "undone", many-k, "of", many)
				}
			}
			for k := 1; k <= many; k++ {
				says(t, r.s, "redo p", "ok")
				if answers(r.s, lines) != seen[k] {
					t.Fatal(name, "done again", k, "of", many)
				}
			}
			says(t, r.s, "redo p", "error 19")
		}
	}
}

// P3: MaxUndo at most.
func TestUndoAtMost(t *testing.T) {
	s := told(t)
	for n := range 20 {
		says(t, s, "set ann main m/all "+num(int64(n+1)), "ok")
	}
	for n := range 12 {
		says(t, s, "undo main", "ok")
		says(t, s, "get main m/all", num(int64(19-n)))
	}
	kept(t, s, "undo main", "error 19")
	for n := range 12 {
		says(t, s, "redo main", "ok")
		says(t, s, "get main m/all", num(int64(9+n)))
	}
	kept(t, s, "redo main", "error 19")
}

// P3: what is done to one scenario changes nothing of another one.
func TestScenariosApart(t *testing.T) {
	r := opened(t, 4096, cats()["place"])
	d := dice{rand.New(rand.NewSource(3)), r.w}
	r.do("set ann main m/all 50", "branch main p", "set ann main m/n 7", "hold main m/s", "lock bob main n/b", "branch p q")
	var of []string
	for _, line := range asks(r.w) {
		if strings.Contains(line, " main ") || strings.HasSuffix(line, "s main") {
			of = append(of, line)
		}
	}
	of = slices.DeleteFunc(of, func(line string) bool { return strings.HasPrefix(line, "diff") })
	was := answers(r.s, of)
	for range 500 {
		line := d.line()
		if strings.Contains(line, " main") && !strings.HasPrefix(line, "branch main ") {
			continue
		}
		r.do(line)
		if answers(r.s, of) != was {
			t.Fatalf("%q changes main", line)
		}
	}
}

// P1: a line that is answered by an error leaves all as it was, whatever it is.
func TestErrorsChangeNothing(t *testing.T) {
	for _, cat := range cats() {
		r := opened(t, 1000, cat)
		d := dice{rand.New(rand.NewSource(7)), r.w}
		for range 500 {
			line := d.line()
			was, file := picture(r.s), r.s.File().Copy()
			l := r.s.Do(line)
			if len(l) == 0 || !strings.HasPrefix(l[len(l)-1], "error") {
				continue
			}
			if !bytes.Equal(picture(r.s), was) || !r.s.File().Same(file) {
				t.Fatalf("%q: %q, but something changes", line, l)
			}
		}
	}
}

// P1: as many holds, locks, scenarios and leaves as there may be, and one more of each.
func TestFull(t *testing.T) {
	r := opened(t, 4096, cats()["four"])
	for i, c := range r.w.cells {
		r.do("hold main "+r.w.show(c), "lock ann main "+r.w.show(c), "hold main "+r.w.show(c))
		if i > 40 {
			r.do("release main "+r.w.show(r.w.cells[i-40]), "unlock ann main "+r.w.show(r.w.cells[i-40]), "lock bob main "+r.w.show(c))
		}
	}
	r.probe()
	for n := range 9 {
		r.do("branch main s" + num(int64(n)))
	}
	r.do("scens", "drop s3", "branch s1 s9", "branch s1 s10", "drop main", "scens")
	r = opened(t, 4096, cats()["four"])
	for n, leaf := range r.w.leaves {
		r.do("set ann main " + r.w.show(leaf) + " " + num(int64(n+1)))
	}
	r.do("set ann main m/set/year/a/all 500", "set ann main "+r.w.show(r.w.leaves[0])+" 0", "set ann main "+r.w.show(r.w.leaves[11])+" 5", "set ann main "+r.w.show(r.w.leaves[0])+" 1")
	r.probe()
	kept(t, r.s, "set ann main "+r.w.show(r.w.leaves[0])+" 1", "error 14")
}
