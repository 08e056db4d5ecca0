package pack_test

import (
	"bytes"
	"math"
	"math/rand"
	"slices"
	"testing"

	"stackyard/api"
	"stackyard/pack"
)

// slowPack lays the numbers one bit after the other.
func slowPack(w int, l []uint64) []byte {
	var b []byte
	at := 0
	for _, n := range l {
		for i := range w {
			if at%8 == 0 {
				b = append(b, 0)
			}
			if n>>i&1 == 1 {
				b[at/8] |= 1 << (at % 8)
			}
			at++
		}
	}
	return b
}

func randomList(r *rand.Rand, n, w int) []uint64 {
	l := make([]uint64, n)
	for i := range l {
		if w > 0 {
			l[i] = r.Uint64() >> (64 - w)
		}
	}
	return l
}

func TestWidth(t *testing.T) {
	for i, c := range []struct {
		l    []uint64
		want int
	}{
		{nil, 0}, {[]uint64{0}, 0}, {[]uint64{0, 0}, 0}, {[]uint64{1}, 1}, {[]uint64{5, 2}, 3}, {[]uint64{2, 5}, 3},
		{[]uint64{7}, 3}, {[]uint64{8}, 4}, {[]uint64{1 << 63}, 64}, {[]uint64{1<<63 - 1}, 63}, {[]uint64{math.MaxUint64, 0}, 64},
		{[]uint64{4, 3, 3}, 3}, {make([]uint64, 5000), 0},
	} {
		if w := pack.Width(c.l...); w != c.want {
			t.Error(i, w, c.want)
		}
	}
	for w := 1; w <= 64; w++ {
		if got := pack.Width(1<<(w-1), 0); got != w {
			t.Error(w, got)
		}
	}
}

func TestSize(t *testing.T) {
	for _, c := range []struct {
		n, w, want int
		e          api.Errno
	}{
		{3, 3, 2, 0}, {0, 0, 0, 0}, {0, 64, 0, 0}, {7, 0, 0, 0}, {8, 1, 1, 0}, {9, 1, 2, 0}, {1, 8, 1, 0}, {1, 9, 2, 0},
		{4096, 64, 32768, 0}, {4096, 0, 0, 0}, {4096, 1, 512, 0},
		{4097, 1, 0, api.ErrArg}, {4097, 0, 0, api.ErrArg}, {-1, 1, 0, api.ErrArg}, {1, -1, 0, api.ErrArg}, {1, 65, 0, api.ErrArg},
		{math.MaxInt, 64, 0, api.ErrArg}, {math.MinInt, 64, 0, api.ErrArg}, {1, math.MaxInt, 0, api.ErrArg}, {1, math.MinInt, 0, api.ErrArg},
	} {
		if n, e := pack.Size(c.n, c.w); n != c.want || e != c.e {
			t.Error(c, n, e)
		}
	}
}

func TestPackExamples(t *testing.T) {
	if b, e := pack.Pack(3, 5, 2, 7); !bytes.Equal(b, []byte{0xd5, 1}) || e != 0 {
		t.Errorf("%x %d", b, e)
	}
	if b, e := pack.Pack(64, 1<<63+1); !bytes.Equal(b, []byte{1, 0, 0, 0, 0, 0, 0, 0x80}) || e != 0 {
		t.Errorf("%x %d", b, e)
	}
	if b, e := pack.Pack(0); len(b) != 0 || e != 0 {
		t.Errorf("%x %d", b, e)
	}
	if b, e := pack.Pack(0, 0, 0, 0); len(b) != 0 || e != 0 {
		t.Errorf("%x %d", b, e)
	}
	if b, e := pack.Pack(12, 0xabc, 0x123); !bytes.Equal(b, []byte{0xbc, 0x3a, 0x12}) || e != 0 {
		t.Errorf("%x %d", b, e)
	}
}

func TestPackRejects(t *testing.T) {
	for i, c := range []struct {
		w int
		l []uint64
	}{
		{2, []uint64{4}}, {0, []uint64{1}}, {63, []uint64{1 << 63}}, {-1, nil}, {65, nil}, {65, []uint64{1}}, {math.MinInt, nil}, {math.MaxInt, nil},
		{1, make([]uint64, 4097)}, {0, make([]uint64, 4097)}, {2, []uint64{1, 2, 3, 4}}, {2, []uint64{9, 1}},
	} {
		if b, e := pack.Pack(c.w, c.l...); len(b) != 0 || e != api.ErrArg {
			t.Errorf("%d: %x %d", i, b, e)
		}
	}
}

func TestUnpackRejects(t *testing.T) {
	for i, c := range []struct {
		b    []byte
		n, w int
		e    api.Errno
	}{
		{[]byte{0xd5, 3}, 3, 3, api.ErrPackByte}, {[]byte{0xd5}, 3, 3, api.ErrPackByte}, {[]byte{0xd5, 1, 0}, 3, 3, api.ErrPackByte},
		{[]byte{0xd5, 0x81}, 3, 3, api.ErrPackByte}, {nil, 3, 3, api.ErrPackByte}, {[]byte{0}, 0, 3, api.ErrPackByte}, {[]byte{0}, 3, 0, api.ErrPackByte},
		{[]byte{1}, 3, 0, api.ErrPackByte},
		{nil, -1, 3, api.ErrArg}, {nil, 4097, 0, api.ErrArg}, {nil, 1, 65, api.ErrArg}, {nil, 1, -1, api.ErrArg}, {[]byte{0xd5, 3}, 3, 65, api.ErrArg},
		{make([]byte, 513), 4097, 1, api.ErrArg}, {nil, math.MaxInt, math.MaxInt, api.ErrArg},
	} {
		if l, e := pack.Unpack(c.b, c.n, c.w); len(l) != 0 || e != c.e {
			t.Error(i, l, e)
		}
	}
	if l, e := pack.Unpack(nil, 7, 0); !slices.Equal(l, make([]uint64, 7)) || e != 0 {
		t.Error(l, e)
	}
	if l, e := pack.Unpack(nil, 0, 5); len(l) != 0 || e != 0 {
		t.Error(l, e)
	}
}

// Every bit behind the last number makes the bytes no packing.
func TestUnpackPadding(t *testing.T) {
	for w := 1; w <= 64; w++ {
		for n := 1; n <= 9; n++ {
			b, _ := pack.Pack(w, make([]uint64, n)...)
			for at := n * w; at < len(b)*8; at++ {
				x := bytes.Clone(b)
				x[at/8] |= 1 << (at % 8)
				if l, e := pack.Unpack(x, n, w); len(l) != 0 || e != api.ErrPackByte {
					t.Fatal(w, n, at, l, e)
				}
			}
		}
	}
}

func TestPackBothWays(t *testing.T) {
	r := rand.New(rand.NewSource(1))
	for w := range 65 {
		for _, n := range []int{0, 1, 2, 3, 7, 8, 9, 64, 65, 4096} {
			l := randomList(r, n, w)
			kept := slices.Clone(l)
			b, e := pack.Pack(w, l...)
			if e != 0 || !bytes.Equal(b, slowPack(w, l)) {
				t.Fatal(w, n, e)
			}
			if !slices.Equal(l, kept) {
				t.Fatal("the list was changed", w, n)
			}
			same := bytes.Clone(b)
			back, e := pack.Unpack(b, n, w)
			if e != 0 || !slices.Equal(back, l) {
				t.Fatal(w, n, e)
			}
			if !bytes.Equal(b, same) {
				t.Fatal("the bytes were changed", w, n)
			}
			if size, e := pack.Size(n, w); size != len(b) || e != 0 {
				t.Fatal(w, n, size, e)
			}
		}
	}
}

// Any bytes are either rejected or the packing of what they are unpacked to.
func TestUnpackAnyBytes(t *testing.T) {
	for w := range 10 {
		for n := range 6 {
			size, _ := pack.Size(n, w)
			if size > 1 {
				continue
			}
			for c := range 256 {
				b := []byte{byte(c)}[:size]
				l, e := pack.Unpack(b, n, w)
				if e != 0 {
					continue
				}
				if x, _ := pack.Pack(w, l...); !bytes.Equal(x, b) {
					t.Fatal(w, n, c, l)
				}
			}
		}
	}
}

func TestPackConcatenation(t *testing.T) {
	r := rand.New(rand.NewSource(2))
	for w := range 65 {
		for n := range 17 {
			if n*w%8 != 0 {
				continue
			}
			a, b := randomList(r, n, w), randomList(r, 5, w)
			x, _ := pack.Pack(w, a...)
			y, _ := pack.Pack(w, b...)
			z, e := pack.Pack(w, append(slices.Clone(a), b...)...)
			if e != 0 || !bytes.Equal(z, append(x, y...)) {
				t.Fatal(w, n)
			}
		}
	}
}
