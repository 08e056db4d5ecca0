package dict_test

import (
	"bytes"
	"fmt"
	"math"
	"math/rand"
	"slices"
	"strings"
	"testing"

	"stackyard/api"
	"stackyard/dict"
	"stackyard/pack"
	"stackyard/wire"
)

// slow lays a list in a format, straight from the description of the formats.
func slow(form int, l []string) []byte {
	b := []byte{byte(form)}
	if form == 0 {
		for _, s := range l {
			b, _ = wire.Text(b, s)
		}
		return b
	}
	words := slices.Clone(l)
	slices.Sort(words)
	words = slices.Compact(words)
	b = wire.Number(b, uint64(len(words)))
	for _, s := range words {
		b, _ = wire.Text(b, s)
	}
	var d []uint64
	for _, s := range l {
		d = append(d, uint64(slices.Index(words, s)))
	}
	w := pack.Width(d...)
	packed, _ := pack.Pack(w, d...)
	return append(append(b, byte(w)), packed...)
}

func lists() [][]string {
	r := rand.New(rand.NewSource(1))
	out := [][]string{
		nil, {""}, {"a"}, {"b", "a"}, {"b", "a", "b"}, {"", "", ""}, {"abcdefgh", "abcdefgh", "abcdefgh"}, {"\xff", "\x00", "\xff"}, {"a", "ab", "abc", "b"},
		{strings.Repeat("x", 1024)}, {"ab", "b"}, {"aa", "aa"}, {"aaa", "aaa"}, slices.Repeat([]string{"p", "q"}, 2048),
	}
	for range 200 {
		l := make([]string, r.Intn(30))
		some := 1 + r.Intn(12)
		for i := range l {
			l[i] = strings.Repeat("xy"[:1+r.Intn(2)], r.Intn(some))
		}
		out = append(out, l)
	}
	return out
}

func TestExamples(t *testing.T) {
	for _, c := range []struct {
		form int
		l    []string
		want string
	}{
		{0, []string{"b", "a"}, "\x00\x01b\x01a"}, {1, []string{"b", "a", "b"}, "\x01\x02\x01a\x01b\x01\x05"}, {0, nil, "\x00"}, {1, nil, "\x01\x00\x00"},
		{1, []string{"", ""}, "\x01\x01\x00\x00"}, {0, []string{"", ""}, "\x00\x00\x00"}, {1, []string{"c", "a", "b"}, "\x01\x03\x01a\x01b\x01c\x02\x12"},
	} {
		if b, e := dict.Encode(c.form, c.l...); string(b) != c.want || e != 0 {
			t.Errorf("%d %q: %x %d", c.form, c.l, b, e)
		}
		if l, e := dict.Decode([]byte(c.want), len(c.l)); !slices.Equal(l, c.l) || e != 0 {
			t.Errorf("%d %q: %q %d", c.form, c.l, l, e)
		}
	}
}

func TestBothWays(t *testing.T) {
	for i, l := range lists() {
		kept := slices.Clone(l)
		for form := range 2 {
			b, e := dict.Encode(form, l...)
			if e != 0 || !bytes.Equal(b, slow(form, l)) {
				t.Fatal(i, form, e)
			}
			if back, e := dict.Decode(b, len(l)); e != 0 || !slices.Equal(back, l) {
				t.Fatal(i, form, e)
			}
			for _, n := range []int{len(l) - 1, len(l) + 1} {
				if n < 0 || n > 4096 {
					continue
				}
				back, e := dict.Decode(b, n)
				if e != 0 && (len(back) != 0 || e != api.ErrDictByte) || e == 0 && !bytes.Equal(slow(form, back), b) {
					t.Fatal(i, form, n, back, e)
				}
			}
		}
		if !slices.Equal(l, kept) {
			t.Fatal("the list was changed")
		}
	}
}

func TestRejects(t *testing.T) {
	for _, form := range []int{-1, 2, 256, math.MinInt, math.MaxInt} {
		if b, e := dict.Encode(form, "a"); len(b) != 0 || e != api.ErrArg {
			t.Error(form, b, e)
		}
	}
	for i, l := range [][]string{make([]string, 4097), {"a", strings.Repeat("x", 1025)}} {
		for form := range 2 {
			if b, e := dict.Encode(form, l...); len(b) != 0 || e != api.ErrArg {
				t.Error(i, b, e)
			}
		}
		if n, e := dict.Best(l...); n != 0 || e != api.ErrArg {
			t.Error(i, n, e)
		}
	}
	for _, n := range []int{-1, 4097, math.MinInt, math.MaxInt} {
		for _, b := range []string{"", "\x00", "\x01\x00\x00"} {
			if l, e := dict.Decode([]byte(b), n); len(l) != 0 || e != api.ErrArg {
				t.Error(n, l, e)
			}
		}
	}
}

func TestDecodeRejects(t *testing.T) {
	long := strings.Repeat("x", 1025)
	for _, c := range []struct {
		b string
		n int
	}{
		{"", 0}, {"", 1}, {"\x02", 0}, {"\x02\x01a", 1}, {"\xff", 0},
		{"\x00\x01a", 2}, {"\x00\x01a", 0}, {"\x00\x01a\x01", 1}, {"\x00\x81\x00a", 1}, {"\x00\x02a", 1}, {"\x00\x81\x08" + long, 1}, {"\x00", 1},
		{"\x01\x02\x01b\x01a\x01\x05", 3}, {"\x01\x02\x01a\x01a\x01\x05", 3}, {"\x01\x02\x01a\x01b\x01\x00", 3}, {"\x01\x02\x01a\x01b\x01\x07", 3}, {"\x01\x02\x01a\x01b\x02\x11", 3},
		{"\x01\x03\x01a\x01b\x01c\x01\x05", 3}, {"\x01\x02\x01a\x01b\x01\x0d", 3}, {"\x01\x02\x01a\x01b\x01\x05\x00", 3}, {"\x01\x02\x01a\x01b\x01", 3}, {"\x01\x02\x01a\x01b", 3},
		{"\x01\x02\x01a", 3}, {"\x01\x01\x01a\x01\x02", 2}, {"\x01\x02\x01a\x01b\x02\x38", 3}, {"\x01", 0}, {"\x01\x00", 0}, {"\x01\x00\x00", 1}, {"\x01\x00\x01\x00", 1}, {"\x01\x00\x00\x00", 0},
		{"\x01\x01\x01a\x00", 0}, {"\x01\x81\x00\x01a\x00", 1}, {"\x01\x01\x01a\x41", 1}, {"\x01\x01\x81\x08" + long + "\x00", 1}, {"\x01\xff\xff\xff\xff\xff\xff\xff\xff\xff\x01", 3},
	} {
		if l, e := dict.Decode([]byte(c.b), c.n); len(l) != 0 || e != api.ErrDictByte {
			t.Errorf("%x %d: %q %d", c.b, c.n, l, e)
		}
	}
}

// Bytes that were changed anywhere are rejected, or are the encoding of another list.
func TestOneEncodingAList(t *testing.T) {
	r := rand.New(rand.NewSource(2))
	for _, l := range lists() {
		if len(l) > 100 {
			continue
		}
		for form := range 2 {
			b, _ := dict.Encode(form, l...)
			for range 60 {
				x := bytes.Clone(b)
				x[r.Intn(len(x))] = byte(r.Intn(256)) >> r.Intn(8)
				switch r.Intn(4) {
				case 0:
					x = append(x, byte(r.Intn(3)))
				case 1:
					x = x[:len(x)-1]
				}
				back, e := dict.Decode(x, len(l))
				if e != 0 {
					if len(back) != 0 || e != api.ErrDictByte {
						t.Fatal(back, e)
					}
					continue
				}
				if !bytes.Equal(slow(int(x[0]), back), x) {
					t.Fatalf("%x: %q", x, back)
				}
			}
		}
	}
}

func TestBest(t *testing.T) {
	for _, c := range []struct {
		l    []string
		want int
	}{
		{nil, 0}, {[]string{"a"}, 0}, {[]string{"abcdefgh", "abcdefgh", "abcdefgh"}, 1}, {[]string{"ab", "ab"}, 1}, {[]string{"a", "a"}, 0}, {[]string{"", "", ""}, 0}, {[]string{"", "", "", ""}, 1},
	} {
		if form, e := dict.Best(c.l...); form != c.want || e != 0 {
			t.Error(c.l, form, e)
		}
	}
	for i, l := range lists() {
		want := 0
		if len(slow(1, l)) < len(slow(0, l)) {
			want = 1
		}
		if form, e := dict.Best(l...); form != want || e != 0 {
			t.Error(i, form, want, e)
		}
	}
}

func TestMany(t *testing.T) {
	var l []string
	for i := range 4096 {
		l = append(l, fmt.Sprintf("%04d", i*7%4096))
	}
	for form := range 2 {
		b, e := dict.Encode(form, l...)
		if e != 0 || !bytes.Equal(b, slow(form, l)) {
			t.Fatal(form, e)
		}
		if back, e := dict.Decode(b, 4096); !slices.Equal(back, l) || e != 0 {
			t.Error(form, e)
		}
	}
}
