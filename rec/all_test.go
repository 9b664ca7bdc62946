package rec_test

import (
	"bytes"
	"hash/crc32"
	"math/rand"
	"slices"
	"testing"

	"moiety/api"
	"moiety/rec"
	"moiety/wire"
)

// allOf holds what All tells of b.
func allOf(t *testing.T, what string, b []byte, want [][]byte, size int) {
	t.Helper()
	l, n := rec.All(b)
	if !slices.EqualFunc(l, want, bytes.Equal) || n != size {
		t.Errorf("%s: All = %d records, %d bytes: %q; want %d, %d: %q", what, len(l), n, l, len(want), size, want)
	}
}

// joined is the bytes of all records.
func joined(records [][]byte) []byte {
	var b []byte
	for _, own := range records {
		b = append(b, right(own)...)
	}
	return b
}

// P24.3
func TestAllOfNothing(t *testing.T) {
	allOf(t, "nil", nil, nil, 0)
	allOf(t, "empty", []byte{}, nil, 0)
	allOf(t, "a nought", []byte{0}, nil, 0)
	allOf(t, "noughts", make([]byte, 100000), nil, 0)
	allOf(t, "noughts ahead of a record", append([]byte{0}, right([]byte("a"))...), nil, 0)
	allOf(t, "a number's fault", []byte{0x80, 0}, nil, 0)
	allOf(t, "no end", bytes.Repeat([]byte{0xff}, 1000), nil, 0)
}

// P24.3: up to the first place where Get has an error, of each kind; a record behind that is none of them.
func TestAllOfSeveral(t *testing.T) {
	some := []byte("some")
	sum := crc32.ChecksumIEEE(some)
	faults := map[string][]byte{
		"nothing":                nil,
		"a nought":               {0},
		"noughts":                make([]byte, 500),
		"a torn one":             right(some)[:6],
		"torn, ahead of noughts": append(right(some)[:6:6], make([]byte, 60)...),
		"another Mark":           record(5, some, sum, rec.Mark+1),
		"no Mark":                record(5, some, sum, 0),
		"another Sum":            record(5, some, sum+1, rec.Mark),
		"a wrong number":         record(1, nil, 0, rec.Mark),
		"a negative number":      wire.All(-5),
		"a number too great":     wire.All(api.MaxRec + 2),
		"noughts at its end":     {0x8a, 0},
		"no end":                 {0x80, 0x80, 0x80},
	}
	lists := [][][]byte{
		nil,
		{[]byte("a")},
		{[]byte("a"), []byte("a")},
		{{0}, {rec.Mark}, {0, 0, 0}},
		{counting(1), counting(62), counting(63), counting(64), counting(api.MaxRec), counting(2)},
	}
	for _, list := range lists {
		b := joined(list)
		for what, fault := range faults {
			all := append(slices.Clone(b), fault...)
			allOf(t, what, all, list, len(b))
			if what != "nothing" && what != "a torn one" && what != "no end" {
				allOf(t, what+" and a record", append(all, right(some)...), list, len(b))
			}
		}
	}
}

// P24.3, P24.5: cut off at each place, and with noughts behind that, just the records that are whole are there.
func TestAllOfCutOff(t *testing.T) {
	list := [][]byte{counting(3), counting(70), {0, 0}, counting(40)}
	b := joined(list)
	for cut := range len(b) + 1 {
		many, size := 0, 0
		for many < len(list) && size+len(right(list[many])) <= cut {
			size += len(right(list[many]))
			many++
		}
		allOf(t, "cut off", b[:cut], list[:many], size)
		for _, behind := range []int{1, 3, 300} {
			allOf(t, "ahead of noughts", append(slices.Clone(b[:cut]), make([]byte, behind)...), list[:many], size)
		}
	}
}

// P24.3, rules 4 and 5
func TestAllIsOnesOwn(t *testing.T) {
	list := [][]byte{[]byte("one"), []byte("two"), []byte("three")}
	b := joined(list)
	kept := slices.Clone(b)
	l, _ := rec.All(b)
	again, _ := rec.All(b)
	for i := range l[1] {
		l[1][i] = 'x'
	}
	_ = append(l[0], "more than there was"...)
	_ = append(l[:1], []byte("none"))
	if !bytes.Equal(b, kept) {
		t.Error("what All tells shares memory with what it was given")
	}
	if string(l[2]) != "three" || string(l[1]) == "two" {
		t.Errorf("records share memory: %q", l)
	}
	for i := range b {
		b[i] = 0xff
	}
	if !slices.EqualFunc(again, list, bytes.Equal) {
		t.Errorf("All keeps what it is given: %q", again)
	}
}

// P24.3: as many records as a file has room for, in a time that grows as they do.
func TestAllOfVeryMany(t *testing.T) {
	const most = api.MaxBlocks * api.BlockSize
	one := right([]byte("a"))
	b := bytes.Repeat(one, most*16/len(one))
	l, n := rec.All(b)
	if len(l) != len(b)/len(one) || n != len(b) {
		t.Errorf("All = %d, %d", len(l), n)
	}
}

// P24.2 to P24.4, P6: any bytes end, and All is Get again and again; what Get tells can be put again as it was.
func TestAnyBytes(t *testing.T) {
	r := rand.New(rand.NewSource(24))
	for range 20000 {
		b := joined([][]byte{counting(1 + r.Intn(9)), counting(1 + r.Intn(90)), counting(1 + r.Intn(9))})
		for range r.Intn(4) {
			b[r.Intn(len(b))] = byte(r.Intn(256))
		}
		b = b[:r.Intn(len(b)+1)]
		var want [][]byte
		size := 0
		for {
			own, n, why := rec.Get(b[size:])
			if why != api.OK {
				if len(own) != 0 || n != 0 {
					t.Fatalf("Get(%x) = %x, %d, %d", b[size:], own, n, why)
				}
				break
			}
			if again, why := rec.Put(own); !bytes.Equal(again, b[size:size+n]) || why != api.OK {
				t.Fatalf("Put(%x) = %x, %d; want %x", own, again, why, b[size:size+n])
			}
			want = append(want, own)
			size += n
		}
		allOf(t, "any bytes", b, want, size)
	}
}
