package lex_test

import (
	"math/rand"
	"slices"
	"strings"
	"testing"

	"moiety/api"
	"moiety/lex"
	"moiety/text"
)

const (
	least    = "-9223372036854775808"
	greatest = "9223372036854775807"
)

// whole tells whether all of two words is the same, their places, too.
func whole(a, b lex.Word) bool {
	return a.Kind == b.Kind && a.Text == b.Text && a.At == b.At && a.N == b.N && slices.Equal(a.Parts, b.Parts)
}

// words holds what Words tells of a line.
func words(t *testing.T, line string, want ...lex.Word) {
	t.Helper()
	if l := lex.Words(line); !slices.EqualFunc(l, want, whole) {
		t.Errorf("Words(%q) = %+v; want %+v", line, l, want)
	}
}

func name(at int, s string) lex.Word { return lex.Word{Kind: lex.Name, Text: s, At: at} }

func bad(at int, s string) lex.Word { return lex.Word{Kind: lex.Bad, Text: s, At: at} }

func num(at int, s string, n int64) lex.Word { return lex.Word{Kind: lex.Num, Text: s, At: at, N: n} }

func cell(at int, parts ...string) lex.Word {
	return lex.Word{Kind: lex.Cell, Text: strings.Join(parts, "/"), At: at, Parts: parts}
}

// P28.1: the kinds' numbers.
func TestKinds(t *testing.T) {
	if lex.Bad != 0 || lex.Name != 1 || lex.Num != 2 || lex.Cell != 3 {
		t.Error("kinds", lex.Bad, lex.Name, lex.Num, lex.Cell)
	}
}

// P28.1: the chapter's example.
func TestExample(t *testing.T) {
	words(t, "set  m/a -5", name(0, "set"), cell(5, "m", "a"), num(9, "-5", -5))
}

// P28.1: lines of no words, of one, and of several, with blanks anywhere, and each word's place.
func TestWords(t *testing.T) {
	words(t, "")
	words(t, " ")
	words(t, "      ")
	words(t, "a", name(0, "a"))
	words(t, "a ", name(0, "a"))
	words(t, "  a", name(2, "a"))
	words(t, "  a   ", name(2, "a"))
	words(t, "a b c", name(0, "a"), name(2, "b"), name(4, "c"))
	words(t, "   a  b    c  ", name(3, "a"), name(6, "b"), name(11, "c"))
	// One that another one ahead of it has within itself, and one that comes again.
	words(t, "ab b a ab  b", name(0, "ab"), name(3, "b"), name(5, "a"), name(7, "ab"), name(11, "b"))
	words(t, "11 1 1 11", num(0, "11", 11), num(3, "1", 1), num(5, "1", 1), num(7, "11", 11))
	words(t, "a/b a b/a/b b", cell(0, "a", "b"), name(4, "a"), cell(6, "b", "a", "b"), name(12, "b"))
	words(t, "# set", bad(0, "#"), name(2, "set"))
}

// P28.1, layer 3: a blank alone parts words: no other byte does.
func TestOtherBytes(t *testing.T) {
	for _, s := range []string{"\t", "\n", "\r", "\v", "\f", "\x00", "\x1f", "!", "\x7f", "\x80", "\x85", "\xa0", "\xff", "\u00a0", "\u2003", "\u3000", "é", ",", ";", "\"", "+"} {
		words(t, s, bad(0, s))
		words(t, "a"+s+"b", bad(0, "a"+s+"b"))
		words(t, " 1"+s+" 2", bad(1, "1"+s), num(3+len(s), "2", 2))
		words(t, "a/"+s+"b c", bad(0, "a/"+s+"b"), name(4+len(s), "c"))
	}
}

// P28.1: what is a Num, and what is almost one.
func TestNum(t *testing.T) {
	for s, n := range map[string]int64{
		"0": 0, "1": 1, "-1": -1, "9": 9, "10": 10, "-10": -10, "100": 100, "1234567890": 1234567890,
		greatest: 1<<63 - 1, least: -1 << 63, "9223372036854775806": 1<<63 - 2, "-9223372036854775807": -1<<63 + 1,
	} {
		words(t, s, num(0, s, n))
		words(t, "  "+s+" x", num(2, s, n), name(len(s)+3, "x"))
	}
	for _, s := range []string{
		"9223372036854775808", "-9223372036854775809", "18446744073709551616", "92233720368547758070", strings.Repeat("9", 100),
		"00", "01", "-01", "007", "-0", "-00", "+1", "+0", "-", "+", "--1", "-+1", "1-", "1.0", "1e3", "0x1", "1_0", "1a", "-a", "١",
	} {
		words(t, s, bad(0, s))
		words(t, s+" 3", bad(0, s), num(len(s)+1, "3", 3))
	}
}

// P28.1: what is a Name, and what is almost one.
func TestName(t *testing.T) {
	longest := strings.Repeat("n", api.MaxName)
	for _, s := range []string{"a", "z", "A", "Z", "a1", "a_", "A_9z", "set", longest, "a" + strings.Repeat("_", api.MaxName-1), "a" + strings.Repeat("0", api.MaxName-1)} {
		words(t, s, name(0, s))
		words(t, "1 "+s, num(0, "1", 1), name(2, s))
	}
	for _, s := range []string{longest + "n", longest + "/", strings.Repeat("n", 1000), "_", "_a", "1a", "a-b", "a.b", "a#", "#a", "é", "aé", "a\x00"} {
		words(t, s, bad(0, s))
	}
}

// P28.1: what is a Cell, and what is almost one.
func TestCell(t *testing.T) {
	longest := strings.Repeat("n", api.MaxName)
	for _, parts := range [][]string{
		{"a", "b"}, {"m", "all", "q1"}, {"a", "b", "c", "d", "e"}, {"a", "a"}, {longest, longest}, {longest, "a", longest},
		slices.Repeat([]string{"x"}, 100),
	} {
		words(t, strings.Join(parts, "/"), cell(0, parts...))
		words(t, "  "+strings.Join(parts, "/")+" ", cell(2, parts...))
	}
	words(t, "a", name(0, "a"))
	for _, s := range []string{
		"/", "//", "a/", "/a", "/a/b", "a/b/", "a//b", "a/b//", "/a/", "//a", "a///b",
		"a/1", "1/a", "1/2", "a/-1", "a/_b", "a/b/1c", "a/b#", "#a/b", "a\\b", "a/b\t", "a/é",
		longest + "n/a", "a/" + longest + "n", "a/b/" + longest + "n/c",
	} {
		words(t, s, bad(0, s))
	}
}

// P28.1: a word with more than one of the kinds' marks is of the first kind that it can be.
func TestOneKindEach(t *testing.T) {
	words(t, "5", num(0, "5", 5))
	words(t, "a", name(0, "a"))
	words(t, "e5 5e 5/5 e/5 e/e5", name(0, "e5"), bad(3, "5e"), bad(6, "5/5"), bad(10, "e/5"), cell(14, "e", "e5"))
	words(t, "inf nan 0 x0", name(0, "inf"), name(4, "nan"), num(8, "0", 0), name(10, "x0"))
}

// P28.1
func TestEmpty(t *testing.T) {
	for _, line := range []string{"", " ", "     ", "#", " #", "# set a 5", "#set", "   ##", "#/#", "#\t", "#\x00\xff"} {
		if !lex.Empty(line) {
			t.Errorf("Empty(%q) = false", line)
		}
	}
	for _, line := range []string{"set", " set", "set #", "set # a", "s#", "0 #", "/ #", "\t", "\t#", "\n# a", "\x00", "-#", "\u00a0#", "\uff03"} {
		if lex.Empty(line) {
			t.Errorf("Empty(%q) = true", line)
		}
	}
}

// P28.2: lists that part in just one thing are not the same, and places are no such thing.
func TestSame(t *testing.T) {
	some := func() []lex.Word {
		return []lex.Word{name(0, "set"), cell(4, "m", "a", "b"), num(10, "-5", -5), bad(13, "/")}
	}
	same := func(what string, a, b []lex.Word, want bool) {
		t.Helper()
		if lex.Same(a, b) != want || lex.Same(b, a) != want {
			t.Errorf("%s: Same is not %v", what, want)
		}
	}
	same("nothing", nil, nil, true)
	same("nothing, and an empty list", nil, []lex.Word{}, true)
	same("alike", some(), some(), true)
	same("one and none", some()[:1], nil, false)
	same("a zero word and none", []lex.Word{{}}, nil, false)
	for i := range some() {
		for what, change := range map[string]func(w *lex.Word){
			"Kind":   func(w *lex.Word) { w.Kind++ },
			"Kind 0": func(w *lex.Word) { w.Kind -= 4 },
			"Text":   func(w *lex.Word) { w.Text += "x" },
			"N":      func(w *lex.Word) { w.N++ },
			"great":  func(w *lex.Word) { w.N += 1 << 40 },
			"Parts":  func(w *lex.Word) { w.Parts = append(slices.Clone(w.Parts), "c") },
		} {
			l := some()
			change(&l[i])
			same(what, some(), l, false)
		}
		l := some()
		l[i].At += 7
		same("a place", some(), l, true)
		same("one less", some(), slices.Delete(some(), i, i+1), false)
		same("one twice", some(), slices.Insert(some(), i, some()[i]), false)
	}
	for what, parts := range map[string][]string{"another part": {"m", "a", "c"}, "another order": {"a", "m", "b"}, "one part less": {"m", "a"}, "none": nil} {
		l := some()
		l[1].Parts = parts
		same(what, some(), l, false)
	}
	l := some()
	l[0].Parts = []string{}
	same("empty parts", some(), l, true)
	l = some()
	l[0], l[2] = l[2], l[0]
	same("another order", some(), l, false)
}

// P28.2
func TestText(t *testing.T) {
	for _, row := range []struct {
		l    []lex.Word
		want string
	}{
		{nil, ""},
		{[]lex.Word{}, ""},
		{[]lex.Word{{}}, ""},
		{[]lex.Word{{}, {}}, " "},
		{[]lex.Word{name(9, "a")}, "a"},
		{[]lex.Word{name(9, "a"), name(3, "b")}, "a b"},
		{[]lex.Word{num(0, "-5", -5), cell(40, "m", "a"), bad(2, "#")}, "-5 m/a #"},
		// It is the Texts alone: nothing else of a word plays a part.
		{[]lex.Word{{Kind: lex.Num, Text: "x", N: 7}, {Kind: -1, Text: "a b", Parts: []string{"y"}}, {Text: "\xff"}}, "x a b \xff"},
	} {
		if s := lex.Text(row.l...); s != row.want {
			t.Errorf("Text(%+v) = %q; want %q", row.l, s, row.want)
		}
	}
	if s := lex.Text(); s != "" {
		t.Errorf("Text() = %q", s)
	}
}

// anyLine is a line of parts that are words, are almost words, or bytes of any kind.
func anyLine(r *rand.Rand) string {
	parts := []string{" ", " ", "  ", "a", "m/a", "x_1", "0", "-", "1", "17", greatest, least, "/", "#", "\t", "é", "_", "abcdefghijkl"}
	var line strings.Builder
	for range r.Intn(14) {
		if r.Intn(8) == 0 {
			line.WriteByte(byte(r.Intn(256)))
			continue
		}
		line.WriteString(parts[r.Intn(len(parts))])
	}
	return line.String()
}

// kindOf is what the chapter says of a word.
func kindOf(s string) (int, int64, []string) {
	if n, why := text.Read(s); why == api.OK {
		return lex.Num, n, nil
	}
	if text.Name(s) {
		return lex.Name, 0, nil
	}
	parts := strings.Split(s, "/")
	for _, part := range parts {
		if len(parts) < 2 || !text.Name(part) {
			return lex.Bad, 0, nil
		}
	}
	return lex.Cell, 0, parts
}

// P28.1, P28.3, P6: of any line each word is as the chapter says, and stands where it says; Words of Text of Words are the same.
func TestAnyLine(t *testing.T) {
	r := rand.New(rand.NewSource(28))
	for range 50000 {
		line := anyLine(r)
		l := lex.Words(line)
		texts, last := text.Words(line), 0
		if len(l) != len(texts) {
			t.Fatalf("Words(%q): %d; want %d", line, len(l), len(texts))
		}
		for i, w := range l {
			kind, n, parts := kindOf(texts[i])
			if !whole(w, lex.Word{Kind: kind, Text: texts[i], At: w.At, N: n, Parts: parts}) {
				t.Fatalf("Words(%q): %+v; want %d, %d, %q", line, w, kind, n, parts)
			}
			if w.At < last || !strings.HasPrefix(line[w.At:], w.Text) || strings.Trim(line[last:w.At], " ") != "" {
				t.Fatalf("Words(%q): %+v is not there", line, w)
			}
			last = w.At + len(w.Text)
		}
		if lex.Empty(line) != (len(texts) == 0 || texts[0][0] == '#') {
			t.Fatalf("Empty(%q) = %v", line, lex.Empty(line))
		}
		again := lex.Words(lex.Text(l...))
		if !lex.Same(again, l) || !lex.Same(l, again) || !lex.Same(l, l) {
			t.Fatalf("Words of Text of Words of %q: %+v; want %+v", line, again, l)
		}
		at := 0
		for _, w := range again {
			if w.At != at {
				t.Fatalf("Words of Text of Words of %q: at %d; want %d", line, w.At, at)
			}
			at += len(w.Text) + 1
		}
	}
}

// Rules 4 and 5: answers share nothing, and what is handed in is neither changed nor kept.
func TestListsOfOnesOwn(t *testing.T) {
	const line = "set m/a/b 5 m/a/b"
	l, other := lex.Words(line), lex.Words(line)
	l[1].Parts[0] = "x"
	_ = append(l[1].Parts[:1], "y", "z")
	l[0].Text = "get"
	if !lex.Same(other, lex.Words(line)) || other[0].Text != "set" || !slices.Equal(l[3].Parts, []string{"m", "a", "b"}) {
		t.Error("words are shared")
	}
	was := slices.Clone(other)
	lex.Text(other...)
	lex.Same(other, l)
	if !slices.EqualFunc(other, was, whole) {
		t.Error("words that were handed in are changed")
	}
}

// P6: of lines beyond MaxLine, too.
func TestLongLine(t *testing.T) {
	const many = 20000
	l := lex.Words(strings.Repeat("a/b 1 ", many))
	if len(l) != 2*many || !whole(l[2*many-1], num(6*many-2, "1", 1)) || !whole(l[2*many-2], cell(6*many-6, "a", "b")) {
		t.Error("Words", len(l))
	}
	words(t, strings.Repeat("a/", many), bad(0, strings.Repeat("a/", many)))
}
