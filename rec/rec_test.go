package rec_test

import (
	"bytes"
	"hash/crc32"
	"math"
	"math/bits"
	"math/rand"
	"slices"
	"testing"

	"moiety/api"
	"moiety/rec"
	"moiety/wire"
)

// counting is n bytes, no two of them in a row the same, noughts among them.
func counting(n int) []byte {
	b := make([]byte, n)
	for i := range b {
		b[i] = byte(i*7 + n)
	}
	return b
}

// record is the bytes that the document says of a record, whose number, Sum and Mark may be wrong ones.
func record(number int64, own []byte, sum uint32, mark byte) []byte {
	b := append(wire.All(number), own...)
	return append(b, byte(sum), byte(sum>>8), byte(sum>>16), byte(sum>>24), mark)
}

// right is a record's bytes.
func right(own []byte) []byte {
	return record(int64(len(own))+1, own, crc32.ChecksumIEEE(own), rec.Mark)
}

// got holds what Get tells of b.
func got(t *testing.T, what string, b, own []byte, size int, why api.Errno) {
	t.Helper()
	if o, n, w := rec.Get(b); !bytes.Equal(o, own) || n != size || w != why {
		t.Errorf("%s: Get(%x) = %x, %d, %d; want %x, %d, %d", what, b, o, n, w, own, size, why)
	}
}

// refused holds Get of b to an error, and nothing beside it.
func refused(t *testing.T, what string, b []byte, why api.Errno) {
	t.Helper()
	got(t, what, b, nil, 0, why)
}

// slow is the Sum as the document's words say it: with the bits of each byte, and of the end, turned, and the polynomial as it is.
func slow(b []byte) uint32 {
	sum := uint32(math.MaxUint32)
	for _, c := range b {
		sum ^= uint32(bits.Reverse8(c)) << 24
		for range 8 {
			high := sum >> 31
			sum <<= 1
			if high == 1 {
				sum ^= 0x04c11db7
			}
		}
	}
	return ^bits.Reverse32(sum)
}

// P24.1
func TestSum(t *testing.T) {
	rows := []struct {
		b    string
		want uint32
	}{
		{"", 0},
		{"123456789", 0xcbf43926},
		{"a", 0xe8b7be43},
		{"\x00", 0xd202ef8d},
		{"\xff", 0xff000000},
		{"\x00\x00\x00\x00", 0x2144df1c},
		{"\xff\xff\xff\xff", 0xffffffff},
		{"The quick brown fox jumps over the lazy dog", 0x414fa339},
	}
	for _, x := range rows {
		if s := rec.Sum([]byte(x.b)); s != x.want {
			t.Errorf("Sum(%q) = %#x; want %#x", x.b, s, x.want)
		}
	}
	if s := rec.Sum(nil); s != 0 {
		t.Errorf("Sum of nil = %#x", s)
	}
}

// P24.1
func TestSumOfAll(t *testing.T) {
	var all []byte
	for c := range 256 {
		one := []byte{byte(c)}
		if s := rec.Sum(one); s != slow(one) || s != crc32.ChecksumIEEE(one) {
			t.Errorf("Sum(%x) = %#x; want %#x", one, s, slow(one))
		}
		all = append(all, byte(c))
	}
	if s := rec.Sum(all); s != slow(all) || s != 0x29058c73 {
		t.Errorf("Sum of all bytes = %#x", s)
	}
	r := rand.New(rand.NewSource(1))
	for range 300 {
		b := make([]byte, r.Intn(600))
		r.Read(b)
		kept := slices.Clone(b)
		if s := rec.Sum(b); s != slow(b) || s != crc32.ChecksumIEEE(b) {
			t.Errorf("Sum(%x) = %#x; want %#x", b, s, slow(b))
		}
		if !bytes.Equal(b, kept) {
			t.Error("Sum changed what it was given")
		}
	}
}

// P24.1: the first example.
func TestExample(t *testing.T) {
	b, why := rec.Put([]byte("a"))
	if string(b) != "\x04a\x43\xbe\xb7\xe8\xa5" || why != api.OK {
		t.Errorf("Put(a) = %x, %d", b, why)
	}
	got(t, "the example", b, []byte("a"), 7, api.OK)
}

// P24.1, P24.4
func TestPutOfEachSize(t *testing.T) {
	for n := 1; n <= api.MaxRec; n++ {
		own := counting(n)
		b, why := rec.Put(own)
		if !bytes.Equal(b, right(own)) || why != api.OK {
			t.Fatalf("Put of %d bytes = %x, %d; want %x", n, b, why, right(own))
		}
		if b[0] == 0 || b[len(b)-1] != rec.Mark {
			t.Errorf("Put of %d bytes: %x first, %x last", n, b[0], b[len(b)-1])
		}
		size := 1 + n + 5
		if n+1 >= 64 {
			size++
		}
		if len(b) != size {
			t.Errorf("Put of %d bytes has %d; want %d", n, len(b), size)
		}
		got(t, "Put", b, own, size, api.OK)
	}
}

// P24.1
func TestPutThatCanNotBe(t *testing.T) {
	for _, own := range [][]byte{nil, {}, make([]byte, api.MaxRec+1), counting(api.MaxRec + 2), make([]byte, 100000)} {
		if b, why := rec.Put(own); len(b) != 0 || why != api.ErrSize {
			t.Errorf("Put of %d bytes = %x, %d; want none, %d", len(own), b, why, api.ErrSize)
		}
	}
	if _, why := rec.Put(make([]byte, api.MaxRec)); why != api.OK {
		t.Errorf("Put of MaxRec bytes: %d", why)
	}
}

// P24.1, rules 4 and 5: what Put is given is neither changed nor kept, nor is the room behind it.
func TestPutIsAlone(t *testing.T) {
	room := counting(300)
	kept := slices.Clone(room)
	b, _ := rec.Put(room[10:30])
	if !bytes.Equal(room, kept) {
		t.Error("Put changed what it was given")
	}
	want := right(kept[10:30])
	for i := range room {
		room[i] = 'x'
	}
	if !bytes.Equal(b, want) {
		t.Errorf("Put kept what it was given: %x", b)
	}
	for i := range b {
		b[i] = 'y'
	}
	_ = append(b, "more"...)
	if room[10] != 'x' {
		t.Error("what Put tells shares memory with what it was given")
	}
	if again, _ := rec.Put(kept[10:30]); !bytes.Equal(again, want) {
		t.Errorf("a later Put = %x", again)
	}
}

// P24.2
func TestGetOfNone(t *testing.T) {
	refused(t, "nil", nil, api.ErrNone)
	refused(t, "empty", []byte{}, api.ErrNone)
	for _, b := range []string{"\x00", "\x00\x00", "\x00\x04a\x43\xbe\xb7\xe8\xa5", "\x00\xff\xff", "\x00\x80"} {
		refused(t, "a first byte 0", []byte(b), api.ErrNone)
	}
	refused(t, "noughts", make([]byte, 10000), api.ErrNone)
}

// P24.2: as a reader tells of the number, however many bytes there are.
func TestGetOfNoNumber(t *testing.T) {
	turn := func(n int) []byte { return bytes.Repeat([]byte{0x80}, n) }
	full := func(n int) []byte { return bytes.Repeat([]byte{0xff}, n) }
	rows := []struct {
		what string
		b    []byte
		why  api.Errno
	}{
		{"no end", turn(1), api.ErrShort},
		{"no end", full(1), api.ErrShort},
		{"no end", turn(2), api.ErrShort},
		{"no end", full(9), api.ErrShort},
		{"no end, as many as a number has", turn(10), api.ErrShort},
		{"no end, more than a number has", full(11), api.ErrShort},
		{"no end, very many", turn(5000), api.ErrShort},
		{"noughts at its end", append(turn(1), 0), api.ErrForm},
		{"noughts at its end", []byte("\x84\x00a\x43\xbe\xb7\xe8\xa5"), api.ErrForm},
		{"noughts at its end", append(turn(2), 0), api.ErrForm},
		{"noughts at its end", append([]byte{0x84}, append(turn(8), 0)...), api.ErrForm},
		{"too long", append(full(9), 2), api.ErrForm},
		{"too long", append(turn(10), 1), api.ErrForm},
		{"too long", append(full(10), 1), api.ErrForm},
		{"too long, the end far away", append(turn(5000), 1), api.ErrForm},
		{"too long, the end far away", append(full(400), 0), api.ErrForm},
	}
	for _, x := range rows {
		r := wire.New(x.b)
		r.Num()
		if r.Why() != x.why {
			t.Fatalf("%s: a reader tells %d", x.what, r.Why())
		}
		refused(t, x.what, x.b, x.why)
		if x.why == api.ErrForm {
			refused(t, x.what, append(slices.Clone(x.b), right([]byte("a"))...), x.why)
		}
	}
}

// P24.2: a number that is no record's, with all bytes that it asks for and without any.
func TestGetOfAWrongNumber(t *testing.T) {
	own := counting(400)
	for _, n := range []int64{-1, -2, -64, -65, -252, math.MinInt64, 1, api.MaxRec + 2, api.MaxRec + 3, 300, 8192, 1 << 20, 1 << 40, math.MaxInt64 - 1, math.MaxInt64} {
		refused(t, "a number alone", wire.All(n), api.ErrForm)
		for _, many := range []int64{0, 1, n - 1, n, -n} {
			some := own[:min(max(many, 0), int64(len(own)))]
			refused(t, "a wrong number", record(n, some, crc32.ChecksumIEEE(some), rec.Mark), api.ErrForm)
		}
	}
	// The number 0 is the byte 0: that is asked for ahead of it.
	refused(t, "the number 0", record(0, nil, 0, rec.Mark), api.ErrNone)
	refused(t, "the number 1, of a record of nothing", record(1, nil, 0, rec.Mark), api.ErrForm)
}

// P24.2: the least and the greatest number that is a record's.
func TestGetOfEdgeNumbers(t *testing.T) {
	for _, n := range []int{1, 2, 62, 63, 64, api.MaxRec - 1, api.MaxRec} {
		own := counting(n)
		b := record(int64(n)+1, own, crc32.ChecksumIEEE(own), rec.Mark)
		got(t, "an edge", b, own, len(b), api.OK)
		refused(t, "its number alone", wire.All(int64(n)+1), api.ErrShort)
	}
}

// P24.2: bytes that are wanting at each place; what is torn there has no Mark, whatever its Sum.
func TestGetOfTooFew(t *testing.T) {
	for _, n := range []int{1, 2, 30, 62, 63, 64, 127, api.MaxRec} {
		b := right(counting(n))
		for short := range len(b) {
			why := api.ErrShort
			if short == 0 {
				why = api.ErrNone
			}
			refused(t, "wanting", b[:short], why)
			// Those behind the length of the list are none of it.
			refused(t, "wanting", b[:short:short], why)
		}
	}
}

// P24.5: ahead of noughts there is no record but a whole one, however many noughts there are.
func TestGetOfATornOne(t *testing.T) {
	for _, n := range []int{1, 2, 30, 62, 63, 64, 127, api.MaxRec} {
		for _, fill := range []byte{0, 1, rec.Mark, 0xff} {
			b := right(bytes.Repeat([]byte{fill}, n))
			for written := range len(b) {
				for _, behind := range []int{1, len(b) - written, len(b), 1000} {
					torn := append(slices.Clone(b[:written]), make([]byte, behind)...)
					why := api.ErrShort
					if written == 0 {
						why = api.ErrNone
					} else if written == 1 && b[0] >= 128 {
						why = api.ErrForm
					}
					refused(t, "torn", torn, why)
				}
			}
		}
	}
}

// P24.5: also a record whose Sum is 0, or has noughts at its end, and whose last bytes are noughts.
func TestGetOfATornOneWithNoughts(t *testing.T) {
	zero := zeroSum(t)
	for _, own := range [][]byte{zero, make([]byte, 50), append(zero, 0, 0)} {
		b := right(own)
		got(t, "whole", b, own, len(b), api.OK)
		for written := range len(b) {
			torn := append(slices.Clone(b[:written]), make([]byte, len(b)-written)...)
			why := api.ErrShort
			if written == 0 {
				why = api.ErrNone
			}
			refused(t, "torn", torn, why)
		}
	}
}

// zeroSum is bytes that are not all 0, and whose Sum is 0.
func zeroSum(t *testing.T) []byte {
	t.Helper()
	// The Sum is 0 where the sum as it goes has all bits set at the end: four bytes as this are such.
	b := []byte{0x9d, 0x0a, 0xd9, 0x6d}
	if s := rec.Sum(b); s != 0 {
		t.Fatalf("Sum(%x) = %#x", b, s)
	}
	return b
}

// P24.2: what stands in place of Mark, with a Sum that is right and with one that is not.
func TestGetOfAnotherMark(t *testing.T) {
	for _, own := range [][]byte{{'a'}, {0}, counting(100), counting(api.MaxRec)} {
		sum := crc32.ChecksumIEEE(own)
		for mark := range 256 {
			for _, s := range []uint32{sum, sum + 1, sum ^ 1<<31, ^sum} {
				b := record(int64(len(own))+1, own, s, byte(mark))
				switch {
				case mark == 0:
					refused(t, "Mark 0", b, api.ErrShort)
				case mark == rec.Mark && s == sum:
					got(t, "right", b, own, len(b), api.OK)
				default:
					refused(t, "another Mark, or Sum", b, api.ErrForm)
				}
			}
		}
	}
}

// P24.2: each byte of a record changed into each other one is told, or makes the record another one only by its number.
func TestGetOfAChangedByte(t *testing.T) {
	for _, n := range []int{1, 5, 63, api.MaxRec} {
		b := right(counting(n))
		lead := len(b) - n - 5
		for at := range b {
			for c := range 256 {
				if byte(c) == b[at] {
					continue
				}
				changed := slices.Clone(b)
				changed[at] = byte(c)
				own, size, why := rec.Get(changed)
				if why == api.OK || len(own) != 0 || size != 0 {
					t.Fatalf("Get with the byte %d as %x = %x, %d, %d", at, c, own, size, why)
				}
				want := api.ErrForm
				if at == len(b)-1 && c == 0 {
					want = api.ErrShort
				}
				if at >= lead && why != want {
					t.Errorf("Get with the byte %d as %x: %d; want %d", at, c, why, want)
				}
			}
		}
	}
}

// P24.4
func TestGetWithAnythingBehind(t *testing.T) {
	behinds := [][]byte{nil, {0}, {0xff}, {rec.Mark}, {0x80}, make([]byte, 1000), bytes.Repeat([]byte{0x80}, 1000), right([]byte("b")), right(counting(api.MaxRec))}
	for _, n := range []int{1, 2, 62, 63, 64, 200, api.MaxRec} {
		own := counting(n)
		b, _ := rec.Put(own)
		for _, behind := range behinds {
			got(t, "behind", append(slices.Clone(b), behind...), own, len(b), api.OK)
		}
	}
}

// P24.2, rules 4 and 5: what Get tells is one's own, and what it is given is as it was.
func TestGetIsOnesOwn(t *testing.T) {
	b := append(right([]byte("hello")), right([]byte("other"))...)
	kept := slices.Clone(b)
	own, _, _ := rec.Get(b)
	again, _, _ := rec.Get(b)
	for i := range own {
		own[i] = 'x'
	}
	_ = append(own, "more than there was"...)
	if !bytes.Equal(b, kept) || string(again) != "hello" {
		t.Errorf("what Get told is shared: %x, %q", b, again)
	}
	for i := range b {
		b[i] = 0xff
	}
	if string(again) != "hello" {
		t.Errorf("Get keeps what it is given: %q", again)
	}
	for _, wrong := range [][]byte{kept[:3], append(slices.Clone(kept[:10]), 7), {0x80, 0x80, 0x00}} {
		was := slices.Clone(wrong)
		rec.Get(wrong)
		if !bytes.Equal(wrong, was) {
			t.Errorf("Get changed %x", was)
		}
	}
}
