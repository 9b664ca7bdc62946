package text_test

import (
	"math"
	"math/big"
	"slices"
	"strings"
	"testing"

	"moiety/api"
	"moiety/text"
)

const (
	low = math.MinInt64
	top = math.MaxInt64
)

// P3.1
func TestName(t *testing.T) {
	good := []string{"a", "z", "A", "Z", "a0", "a9", "a_", "x__", "Z_9", "sales2026", "aZ", "Az", "abcdefghijkl", "A23456789_12"}
	for _, s := range good {
		if !text.Name(s) {
			t.Errorf("Name(%q) = false", s)
		}
	}
	bad := []string{
		"", "abcdefghijklm", "A23456789_123", strings.Repeat("a", 5000),
		"_", "_a", "0", "9", "9a", "-a", " a", "a ", "a b", "a-b", "a.b", "a\n", "\n", "a\x00", "\x00", "é", "aé", "a\xff", "\xff",
	}
	for _, s := range bad {
		if text.Name(s) {
			t.Errorf("Name(%q) = true", s)
		}
	}
}

// P3.1: of each byte, alone and behind a letter.
func TestNameByteByByte(t *testing.T) {
	const letters = "ABCDEFGHIJKLMNOPQRSTUVWXYZabcdefghijklmnopqrstuvwxyz"
	for c := range 256 {
		s := string([]byte{byte(c)})
		first := strings.Contains(letters, s)
		later := strings.Contains(letters+"0123456789_", s)
		if text.Name(s) != first {
			t.Errorf("Name(%q) = %v", s, !first)
		}
		for _, whole := range []string{"a" + s, "a" + s + "b", "abcdefghijk" + s} {
			if text.Name(whole) != later {
				t.Errorf("Name(%q) = %v", whole, !later)
			}
		}
	}
}

// P3.1: just the lengths from 1 to MaxName.
func TestNameLengths(t *testing.T) {
	for n := range 3 * api.MaxName {
		if got := text.Name(strings.Repeat("x", n)); got != (1 <= n && n <= 12) {
			t.Errorf("Name of %d bytes = %v", n, got)
		}
	}
}

// numbers are those at which a digit more is needed, on both sides of 0, and the ends.
func numbers() []int64 {
	l := []int64{0, low, low + 1, top, top - 1, 42, -42, 1010, -90807}
	for n := int64(1); ; n *= 10 {
		l = append(l, n-1, n, n+1, -n+1, -n, -n-1, 7*(n/10), -7*(n/10))
		if n > top/10 {
			return l
		}
	}
}

// P3.1, P3.3
func TestNumAndRead(t *testing.T) {
	for _, n := range numbers() {
		want := big.NewInt(n).String()
		if got := text.Num(n); got != want {
			t.Errorf("Num(%d) = %q; want %q", n, got, want)
		}
		if got, why := text.Read(want); got != n || why != api.OK {
			t.Errorf("Read(%q) = %d, %d", want, got, why)
		}
	}
}

// P3.1: the edges written out.
func TestNumWrittenOut(t *testing.T) {
	rows := []struct {
		n    int64
		want string
	}{
		{0, "0"}, {7, "7"}, {-7, "-7"}, {10, "10"}, {-10, "-10"}, {100, "100"},
		{top, "9223372036854775807"}, {low, "-9223372036854775808"}, {low + 1, "-9223372036854775807"},
	}
	for _, r := range rows {
		if got := text.Num(r.n); got != r.want {
			t.Errorf("Num(%d) = %q; want %q", r.n, got, r.want)
		}
	}
}

// P3.1, P6: what is Num of no number.
func TestReadOfNoNumber(t *testing.T) {
	rows := []string{
		"", "-", "+", "--1", "+1", "+0", "-0", "00", "01", "-01", "-00", "0000000000000000000000001", "1-", "1 ", " 1", "1\n", "1x", "x1", "x", "1.0", "1e3", "1_000", "0x10", "0b1", "0_1",
		"9223372036854775808", "-9223372036854775809", "18446744073709551615", "18446744073709551616", "18446744073709551617", "10000000000000000000",
		strings.Repeat("9", 1000), "-" + strings.Repeat("9", 1000), "\x00", "1\x00", "\xff", "٣", "１",
	}
	for _, s := range rows {
		if n, why := text.Read(s); n != 0 || why != api.ErrForm {
			t.Errorf("Read(%q) = %d, %d; want 0, ErrForm", s, n, why)
		}
	}
}

// P3.1: of all texts of up to 4 of these bytes just those that are Num of what they tell.
func TestReadOfAllShortOnes(t *testing.T) {
	for _, s := range allOf("-+019 ", 4) {
		n, ok := new(big.Int).SetString(s, 10)
		want, err := int64(0), api.ErrForm
		if ok && n.String() == s {
			want, err = n.Int64(), api.OK
		}
		if got, why := text.Read(s); got != want || why != err {
			t.Errorf("Read(%q) = %d, %d; want %d, %d", s, got, why, want, err)
		}
	}
}

// allOf are all texts of at most n bytes, each one of from.
func allOf(from string, n int) []string {
	l := []string{""}
	for at := 0; len(l[at]) < n; at++ {
		for i := range len(from) {
			l = append(l, l[at]+from[i:i+1])
		}
	}
	return l
}

// P3.2
func TestWords(t *testing.T) {
	rows := []struct {
		line string
		want []string
	}{
		{"", nil},
		{" ", nil},
		{"     ", nil},
		{"a", []string{"a"}},
		{" a  b", []string{"a", "b"}},
		{"  set  a 5 ", []string{"set", "a", "5"}},
		{"a b c", []string{"a", "b", "c"}},
		{"same same", []string{"same", "same"}},
		{"b a", []string{"b", "a"}},
		{"a\tb\nc\rd\ve\ff g", []string{"a\tb\nc\rd\ve\ff", "g"}},
		{"a\u00a0b\u2003c\u0085d", []string{"a\u00a0b\u2003c\u0085d"}},
		{"\x00 \xff\xfe  \xe2\x80", []string{"\x00", "\xff\xfe", "\xe2\x80"}},
		{"é ü", []string{"é", "ü"}},
	}
	for _, r := range rows {
		if got := text.Words(r.line); !slices.Equal(got, r.want) {
			t.Errorf("Words(%q) = %q; want %q", r.line, got, r.want)
		}
	}
}

// P3.2: each byte but 32 is of a word.
func TestWordsByteByByte(t *testing.T) {
	for c := range 256 {
		s := "a" + string([]byte{byte(c)}) + "b"
		want := []string{s}
		if c == 32 {
			want = []string{"a", "b"}
		}
		if got := text.Words(s); !slices.Equal(got, want) {
			t.Errorf("Words(%q) = %q", s, got)
		}
	}
}

// P3.2
func TestLines(t *testing.T) {
	rows := []struct {
		s    string
		want []string
	}{
		{"", nil},
		{"\n", []string{""}},
		{"\n\n", []string{"", ""}},
		{"a", []string{"a"}},
		{"a\n", []string{"a"}},
		{"a\n\n", []string{"a", ""}},
		{"\na", []string{"", "a"}},
		{"x\n\ny", []string{"x", "", "y"}},
		{"a\n\nb\n", []string{"a", "", "b"}},
		{"a\r\nb\r\n", []string{"a\r", "b\r"}},
		{" a \n b", []string{" a ", " b"}},
		{"\xff\n\x00\n ", []string{"\xff", "\x00", " "}},
	}
	for _, r := range rows {
		if got := text.Lines(r.s); !slices.Equal(got, r.want) {
			t.Errorf("Lines(%q) = %q; want %q", r.s, got, r.want)
		}
	}
}

// P3.2: each byte but 10 is of a line.
func TestLinesByteByByte(t *testing.T) {
	for c := range 256 {
		s := "a" + string([]byte{byte(c)}) + "b"
		want := []string{s}
		if c == 10 {
			want = []string{"a", "b"}
		}
		if got := text.Lines(s); !slices.Equal(got, want) {
			t.Errorf("Lines(%q) = %q", s, got)
		}
	}
}

// P3.2
func TestJoin(t *testing.T) {
	rows := []struct {
		between string
		l       []string
		want    string
	}{
		{", ", nil, ""},
		{", ", []string{}, ""},
		{", ", []string{""}, ""},
		{", ", []string{"a"}, "a"},
		{", ", []string{"a", "b"}, "a, b"},
		{", ", []string{"b", "a", "b"}, "b, a, b"},
		{"", []string{"a", "b", "c"}, "abc"},
		{" ", []string{"", "", ""}, "  "},
		{"\xff", []string{"\x00", "é"}, "\x00\xffé"},
	}
	for _, r := range rows {
		if got := text.Join(r.between, r.l...); got != r.want {
			t.Errorf("Join(%q, %q) = %q; want %q", r.between, r.l, got, r.want)
		}
	}
}

// lists are all lists of at most 4 of these parts.
func lists(parts ...string) [][]string {
	l := [][]string{nil}
	for at := 0; len(l[at]) < 4; at++ {
		for _, p := range parts {
			l = append(l, append(slices.Clone(l[at]), p))
		}
	}
	return l
}

// P3.4
func TestWordsThatAreJoined(t *testing.T) {
	for _, l := range lists("a", "set", "-5", "\n", "\t\xff") {
		for _, between := range []string{" ", "   "} {
			if got := text.Words(text.Join(between, l...)); !slices.Equal(got, l) {
				t.Errorf("Words of %q joined by %q = %q", l, between, got)
			}
		}
	}
}

// P3.4
func TestLinesThatAreJoined(t *testing.T) {
	for _, l := range lists("", "a", " x ", "\r", "\xff") {
		s := text.Join("\n", l...)
		if len(l) > 0 {
			s += "\n"
		}
		if got := text.Lines(s); !slices.Equal(got, l) {
			t.Errorf("Lines(%q) = %q; want %q", s, got, l)
		}
	}
}

// P3.1, P3.5
func TestLess(t *testing.T) {
	inOrder := []string{"", "\x00", "\x00\x00", "\x00a", " ", "-", "0", "10", "2", "A", "AA", "B", "Z", "_", "a", "a\x00", "aZ", "aa", "ab", "abc", "ac", "b", "z", "é", "ü", "\xff", "\xff\x00", "\xff\xff"}
	for i, a := range inOrder {
		for k, b := range inOrder {
			if got := text.Less(a, b); got != (i < k) {
				t.Errorf("Less(%q, %q) = %v", a, b, got)
			}
		}
	}
}

// P3.5: of all short texts.
func TestJustOneIsAhead(t *testing.T) {
	all := allOf("\x00aB\xff", 3)
	for _, a := range all {
		for _, b := range all {
			ways := 0
			for _, holds := range []bool{text.Less(a, b), text.Less(b, a), a == b} {
				if holds {
					ways++
				}
			}
			if ways != 1 {
				t.Errorf("%q and %q: %d of ahead, behind and one", a, b, ways)
			}
		}
	}
}

// Rule 4: neither is a list that is handed in changed, nor does an answer share memory with a later one.
func TestTextListsAreOnesOwn(t *testing.T) {
	l := []string{"a", "b", "c"}
	text.Join(" ", l...)
	if !slices.Equal(l, []string{"a", "b", "c"}) {
		t.Errorf("Join changed %q", l)
	}
	words := text.Words("a b c")
	words[1] = "x"
	_ = append(words[:1], "y", "z")
	if got := text.Words("a b c"); !slices.Equal(got, []string{"a", "b", "c"}) {
		t.Errorf("Words = %q", got)
	}
	lines := text.Lines("a\nb\n")
	lines[1] = "x"
	_ = append(lines, "y")
	if got := text.Lines("a\nb\n"); !slices.Equal(got, []string{"a", "b"}) {
		t.Errorf("Lines = %q", got)
	}
}
