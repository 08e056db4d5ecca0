package ints_test

import (
	"bytes"
	"math"
	"math/rand"
	"slices"
	"testing"

	"stackyard/api"
	"stackyard/ints"
	"stackyard/pack"
	"stackyard/wire"
)

// slow lays a list in a format, straight from the table of formats.
func slow(form int, l []int64) []byte {
	b := []byte{byte(form)}
	var base int64
	var d []uint64
	switch form {
	case 0:
		for _, n := range l {
			b = wire.Signed(b, n)
		}
		return b
	case 1:
		for i := 0; i < len(l); {
			j := i
			for j < len(l) && l[j] == l[i] {
				j++
			}
			b = wire.Signed(wire.Number(b, uint64(j-i)), l[i])
			i = j
		}
		return b
	case 2:
		for i, n := range l {
			if i == 0 {
				base = n
				continue
			}
			step := n - l[i-1]
			if step < 0 {
				d = append(d, uint64(-(step+1))*2+1)
			} else {
				d = append(d, uint64(step)*2)
			}
		}
	case 3:
		if len(l) > 0 {
			base = slices.Min(l)
		}
		for _, n := range l {
			d = append(d, uint64(n)-uint64(base))
		}
	}
	if len(l) == 0 {
		return b
	}
	w := pack.Width(d...)
	packed, _ := pack.Pack(w, d...)
	return append(append(wire.Signed(b, base), byte(w)), packed...)
}

func lists() [][]int64 {
	r := rand.New(rand.NewSource(1))
	out := [][]int64{
		nil, {0}, {1, -1}, {7, 7, 7}, {5, 6, 7}, {5, 6, 8}, {math.MinInt64}, {math.MaxInt64}, {math.MinInt64, math.MaxInt64}, {math.MaxInt64, math.MinInt64},
		{math.MinInt64, 0, math.MaxInt64, -1}, {-5, -5, 3, 3, 3, -5}, {1, 2}, {0, 0}, {300, 300, 301}, {-1, -1, -1, -1}, {0, math.MinInt64, 0},
		make([]int64, 4096), slices.Repeat([]int64{9, 8}, 2048),
	}
	for n := range 300 {
		l := make([]int64, r.Intn(40))
		for i := range l {
			l[i] = int64(r.Uint64()) >> r.Intn(64)
			if i > 0 && n%3 == 0 && r.Intn(2) == 0 {
				l[i] = l[i-1]
			}
			if i > 0 && n%5 == 0 {
				l[i] = l[i-1] + int64(r.Intn(5)) - 2
			}
		}
		out = append(out, l)
	}
	full := make([]int64, 4096)
	for i := range full {
		full[i] = int64(r.Uint64())
	}
	return append(out, full)
}

func TestEncodeExamples(t *testing.T) {
	for _, c := range []struct {
		form int
		l    []int64
		want string
	}{
		{0, []int64{1, -1}, "\x00\x02\x01"}, {1, []int64{7, 7, 7}, "\x01\x03\x0e"}, {2, []int64{5, 6, 7}, "\x02\x0a\x02\x0a"}, {3, []int64{5, 6, 8}, "\x03\x0a\x02\x34"},
		{0, nil, "\x00"}, {1, nil, "\x01"}, {2, nil, "\x02"}, {3, nil, "\x03"}, {2, []int64{5}, "\x02\x0a\x00"}, {3, []int64{5}, "\x03\x0a\x00"},
		{2, []int64{5, 5}, "\x02\x0a\x00"}, {3, []int64{5, 5}, "\x03\x0a\x00"}, {2, []int64{7, 6, 5}, "\x02\x0e\x01\x03"}, {3, []int64{7, 5}, "\x03\x0a\x02\x02"},
		{2, []int64{math.MinInt64, math.MaxInt64}, "\x02\xff\xff\xff\xff\xff\xff\xff\xff\xff\x01\x01\x01"},
		{3, []int64{math.MaxInt64, math.MinInt64}, "\x03\xff\xff\xff\xff\xff\xff\xff\xff\xff\x01\x40\xff\xff\xff\xff\xff\xff\xff\xff\x00\x00\x00\x00\x00\x00\x00\x00"},
		{1, []int64{1, 1, 2, 1}, "\x01\x02\x02\x01\x04\x01\x02"},
	} {
		if b, e := ints.Encode(c.form, c.l...); string(b) != c.want || e != 0 {
			t.Errorf("%d %v: %x %d", c.form, c.l, b, e)
		}
		if l, e := ints.Decode([]byte(c.want), len(c.l)); !slices.Equal(l, c.l) || e != 0 {
			t.Errorf("%d %v: %v %d", c.form, c.l, l, e)
		}
	}
}

func TestBothWays(t *testing.T) {
	for i, l := range lists() {
		kept := slices.Clone(l)
		for form := range 4 {
			b, e := ints.Encode(form, l...)
			if e != 0 || !bytes.Equal(b, slow(form, l)) {
				t.Fatal(i, form, e)
			}
			same := bytes.Clone(b)
			if back, e := ints.Decode(b, len(l)); e != 0 || !slices.Equal(back, l) {
				t.Fatal(i, form, e)
			}
			for _, n := range []int{len(l) - 1, len(l) + 1} {
				if n < 0 || n > 4096 {
					continue
				}
				back, e := ints.Decode(b, n)
				if e != 0 && (len(back) != 0 || e != api.ErrIntsByte) || e == 0 && !bytes.Equal(slow(form, back), b) {
					t.Fatal(i, form, n, back, e)
				}
			}
			if !bytes.Equal(b, same) {
				t.Fatal("the bytes were changed")
			}
		}
		if !slices.Equal(l, kept) {
			t.Fatal("the list was changed")
		}
	}
}

func TestRejects(t *testing.T) {
	for _, form := range []int{-1, 4, 256, math.MinInt, math.MaxInt} {
		if b, e := ints.Encode(form, 1); len(b) != 0 || e != api.ErrArg {
			t.Error(form, b, e)
		}
	}
	for form := range 4 {
		if b, e := ints.Encode(form, make([]int64, 4097)...); len(b) != 0 || e != api.ErrArg {
			t.Error(form, b, e)
		}
	}
	for _, n := range []int{-1, 4097, math.MinInt, math.MaxInt} {
		for _, b := range []string{"", "\x00", "\x01\x81\x20\x0e"} {
			if l, e := ints.Decode([]byte(b), n); len(l) != 0 || e != api.ErrArg {
				t.Error(n, l, e)
			}
		}
	}
	if n, e := ints.Best(make([]int64, 4097)...); n != 0 || e != api.ErrArg {
		t.Error(n, e)
	}
}

func TestDecodeRejects(t *testing.T) {
	for _, c := range []struct {
		b string
		n int
	}{
		{"", 0}, {"", 1}, {"\x04", 0}, {"\x04\x02", 1}, {"\xff", 0},
		{"\x00\x02", 2}, {"\x00\x02\x02", 1}, {"\x00\x82\x00", 1}, {"\x00\x80", 1}, {"\x00\x00", 0}, {"\x00", 1},
		{"\x01\x02\x0e\x01\x0e", 3}, {"\x01\x03\x0e", 2}, {"\x01\x03\x0e", 4}, {"\x01\x00\x0e", 0}, {"\x01\x03\x0e\x00\x02", 3}, {"\x01\x83\x00\x0e", 3}, {"\x01\x03", 3}, {"\x01", 1},
		{"\x01\xff\xff\xff\xff\xff\xff\xff\xff\xff\x01\x0e", 3}, {"\x01\x03\x0e\x03", 3}, {"\x01\x00\x02\x03\x0e", 3}, {"\x01\xff\xff\xff\xff\xff\xff\xff\xff\xff\x01\x02\x04\x0e", 3},
		{"\x02\x0a", 0}, {"\x02\x0a", 1}, {"\x02\x0a\x01", 1}, {"\x02\x0a\x00\x00", 1}, {"\x02\x0a\x03\x12", 3}, {"\x02\x0a\x02\x1a", 3}, {"\x02\x0a\x02", 3}, {"\x02\x0a\x01\x00", 2}, {"\x02", 1}, {"\x02\x8a\x00\x00", 1},
		{"\x02\x0a\x41", 1}, {"\x02\x0a\xff", 1}, {"\x02\x0a\x00\x00", 0},
		{"\x03\x0a", 0}, {"\x03\x0a", 1}, {"\x03\x0a\x01\x01", 1}, {"\x03\x0a\x01\x03", 2}, {"\x03\x0a\x01\x00", 2}, {"\x03\x0a\x02\x74", 3}, {"\x03\x0a\x03\x00\x00", 3}, {"\x03", 1}, {"\x03\x0a\x41", 1},
		{"\x03\xfe\xff\xff\xff\xff\xff\xff\xff\xff\x01\x01\x02", 2},
	} {
		if l, e := ints.Decode([]byte(c.b), c.n); len(l) != 0 || e != api.ErrIntsByte {
			t.Errorf("%x %d: %v %d", c.b, c.n, l, e)
		}
	}
}

// Bytes that were changed anywhere are rejected, or are the encoding of another list.
func TestOneEncodingAList(t *testing.T) {
	r := rand.New(rand.NewSource(2))
	for _, l := range lists() {
		if len(l) > 100 {
			continue
		}
		for form := range 4 {
			b, _ := ints.Encode(form, l...)
			for range 40 {
				x := bytes.Clone(b)
				x[r.Intn(len(x))] = byte(r.Intn(256)) >> r.Intn(8)
				switch r.Intn(4) {
				case 0:
					x = append(x, byte(r.Intn(3)))
				case 1:
					x = x[:len(x)-1]
				}
				back, e := ints.Decode(x, len(l))
				if e != 0 {
					if len(back) != 0 || e != api.ErrIntsByte {
						t.Fatal(back, e)
					}
					continue
				}
				if !bytes.Equal(slow(int(x[0]), back), x) {
					t.Fatalf("%x: %v", x, back)
				}
			}
		}
	}
}

func TestBest(t *testing.T) {
	for _, c := range []struct {
		l    []int64
		want int
	}{
		{nil, 0}, {[]int64{7, 7, 7}, 1}, {[]int64{7}, 0}, {[]int64{7, 7}, 0}, {[]int64{1, 2, 3, 4, 5, 6, 7, 8}, 2}, {[]int64{1000, 1003, 1000, 1003, 1000, 1003, 1000, 1003}, 3},
	} {
		if form, e := ints.Best(c.l...); form != c.want || e != 0 {
			t.Error(c.l, form, e)
		}
	}
	for i, l := range lists() {
		want := 0
		for form := range 4 {
			if len(slow(form, l)) < len(slow(want, l)) {
				want = form
			}
		}
		if form, e := ints.Best(l...); form != want || e != 0 {
			t.Error(i, form, want, e)
		}
	}
}
