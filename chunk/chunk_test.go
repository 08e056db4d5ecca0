package chunk_test

import (
	"bytes"
	"math"
	"math/rand"
	"slices"
	"strings"
	"testing"

	"stackyard/api"
	"stackyard/chunk"
	"stackyard/dict"
	"stackyard/ints"
	"stackyard/pack"
	"stackyard/value"
	"stackyard/wire"
)

var null = api.Value{}

func num(n int64) api.Value   { return api.Value{Kind: api.KInt, N: n} }
func truth(n int64) api.Value { return api.Value{Kind: api.KBool, N: n} }
func text(s string) api.Value { return api.Value{Kind: api.KText, S: s} }

// slow lays a chunk, straight from its description.
func slow(kind int, l []api.Value) []byte {
	var mask []uint64
	var numbers []int64
	var texts []string
	for _, v := range l {
		if v == null {
			mask = append(mask, 1)
			continue
		}
		mask = append(mask, 0)
		numbers = append(numbers, v.N)
		texts = append(texts, v.S)
	}
	b := wire.Number(wire.Number([]byte{byte(kind)}, uint64(len(l))), uint64(len(l)-len(numbers)))
	if len(numbers) > 0 && len(numbers) < len(l) {
		x, _ := pack.Pack(1, mask...)
		b = append(b, x...)
	}
	if len(numbers) > 0 {
		var x []byte
		if kind == api.KText {
			form, _ := dict.Best(texts...)
			x, _ = dict.Encode(form, texts...)
		} else {
			form, _ := ints.Best(numbers...)
			x, _ = ints.Encode(form, numbers...)
		}
		b = append(b, x...)
	}
	return sealed(b)
}

// sealed lays the sum behind bytes.
func sealed(b []byte) []byte {
	sum := wire.Sum(b)
	return append(slices.Clone(b), byte(sum), byte(sum>>8), byte(sum>>16), byte(sum>>24))
}

type column struct {
	kind int
	l    []api.Value
}

func columns() []column {
	r := rand.New(rand.NewSource(1))
	out := []column{
		{1, nil}, {2, nil}, {3, nil}, {1, []api.Value{null}}, {2, []api.Value{null, null}}, {3, []api.Value{null, null, null}}, {2, []api.Value{truth(1), null}},
		{1, []api.Value{num(3), null, num(1)}}, {1, []api.Value{num(math.MinInt64), num(math.MaxInt64)}}, {3, []api.Value{text(""), null, text(strings.Repeat("x", 1024))}},
		{1, make([]api.Value, 1024)}, {2, slices.Repeat([]api.Value{truth(0)}, 1024)}, {3, slices.Repeat([]api.Value{text("p"), null}, 512)}, {2, []api.Value{truth(0), truth(1), truth(1)}},
	}
	for n := range 300 {
		c := column{kind: 1 + n%3}
		some := 1 + r.Intn(300)
		for range r.Intn(40) {
			v := []api.Value{null, num(int64(r.Intn(some))), truth(r.Int63n(2)), text(strings.Repeat("ab"[:1+r.Intn(2)], r.Intn(1+some/30)))}[c.kind]
			if n%2 == 0 && r.Intn(3) == 0 {
				v = null
			}
			c.l = append(c.l, v)
		}
		out = append(out, c)
	}
	return out
}

func TestEncodeAndDecode(t *testing.T) {
	b, e := chunk.Encode(api.KBool, []api.Value{truth(1), null})
	if e != 0 || len(b) != 10 || string(b[:6]) != "\x02\x02\x01\x02\x00\x02" || !bytes.Equal(b, sealed(b[:6])) {
		t.Errorf("%x %d", b, e)
	}
	if b, e := chunk.Encode(api.KInt, nil); !bytes.Equal(b, sealed([]byte{1, 0, 0})) || e != 0 {
		t.Errorf("%x %d", b, e)
	}
	if b, e := chunk.Encode(api.KText, make([]api.Value, 3)); !bytes.Equal(b, sealed([]byte{3, 3, 3})) || e != 0 {
		t.Errorf("%x %d", b, e)
	}
	for i, c := range columns() {
		kept := slices.Clone(c.l)
		b, e := chunk.Encode(c.kind, c.l)
		if e != 0 || !bytes.Equal(b, slow(c.kind, c.l)) {
			t.Fatal(i, e)
		}
		if !slices.Equal(kept, c.l) {
			t.Fatal("the values were changed")
		}
		same := bytes.Clone(b)
		kind, l, e := chunk.Decode(b)
		if kind != c.kind || !slices.Equal(l, c.l) || e != 0 || !bytes.Equal(b, same) {
			t.Fatal(i, kind, e)
		}
	}
}

func TestEncodeRejects(t *testing.T) {
	for i, c := range []column{
		{0, nil}, {4, nil}, {-1, nil}, {257, nil}, {math.MinInt, nil}, {0, []api.Value{null}}, {1, []api.Value{text("a")}}, {1, []api.Value{num(1), truth(1)}}, {2, []api.Value{num(1)}},
		{3, []api.Value{text("a"), num(1)}}, {2, []api.Value{truth(2)}}, {3, []api.Value{text(strings.Repeat("x", 1025))}}, {1, []api.Value{{Kind: 1, S: "x"}}}, {1, []api.Value{{N: 1}}},
		{1, make([]api.Value, 1025)}, {9, []api.Value{{Kind: 9}}},
	} {
		if b, e := chunk.Encode(c.kind, c.l); len(b) != 0 || e != api.ErrArg {
			t.Error(i, b, e)
		}
	}
}

func TestDecodeRejects(t *testing.T) {
	if kind, l, e := chunk.Decode(nil); kind != 0 || len(l) != 0 || e != api.ErrChunkByte {
		t.Error(kind, l, e)
	}
	for _, s := range []string{
		"", "\x01", "\x00\x00\x00", "\x04\x00\x00", "\x00\x01\x01", "\x01\x00", "\x01\x01\x02", "\x01\x00\x01", "\x01\x00\x00\x00", "\x01\x01\x01\x00", "\x01\x81\x00\x01", "\x01\x01\x81\x00",
		"\x01\x01\x00", "\x01\x01\x00\x00", "\x01\x01\x00\x00\x02\x02", "\x01\x01\x00\x01\x01\x02", "\x01\x03\x00\x00\x0e\x0e\x0e", "\x02\x01\x00\x00\x04", "\x02\x01\x00\x00\x01", "\x02\x01\x00\x00\x03",
		"\x02\x02\x01\x03\x00\x02", "\x02\x02\x01\x00\x00\x02", "\x02\x02\x01\x06\x00\x02", "\x02\x02\x01\x02\x00", "\x02\x02\x01\x02", "\x02\x02\x01", "\x02\x02\x00\x00\x00\x02\x02",
		"\x01\x02\x02\x03", "\x01\x02\x00\x00\x00\x02\x02", "\x03\x01\x00\x00\x02a", "\x03\x01\x00\x01\x01\x01a\x00", "\x03\x02\x00\x01\x02\x01b\x01a\x01\x01", "\x01\x81\x08\x81\x08",
		"\x01\xff\xff\xff\xff\xff\xff\xff\xff\xff\x01\xff\xff\xff\xff\xff\xff\xff\xff\xff\x01", "\x01\xff\xff\xff\xff\xff\xff\xff\xff\xff\x01\x00",
	} {
		if kind, l, e := chunk.Decode(sealed([]byte(s))); kind != 0 || len(l) != 0 || e != api.ErrChunkByte {
			t.Errorf("%x: %d %v %d", s, kind, l, e)
		}
		if kind, l, e := chunk.Decode([]byte(s)); kind != 0 || len(l) != 0 || e != api.ErrChunkByte {
			t.Errorf("%x: %d %v %d", s, kind, l, e)
		}
	}
}

// A chunk of which one byte was changed, or which was cut or drawn out, is none.
func TestChangedChunks(t *testing.T) {
	for _, c := range columns() {
		b, _ := chunk.Encode(c.kind, c.l)
		if len(b) > 60 {
			continue
		}
		for i := range b {
			for x := 1; x < 256; x += 7 {
				y := bytes.Clone(b)
				y[i] ^= byte(x)
				if kind, l, e := chunk.Decode(y); kind != 0 || len(l) != 0 || e != api.ErrChunkByte {
					t.Fatalf("%x", y)
				}
			}
			if kind, l, e := chunk.Decode(b[:i]); kind != 0 || len(l) != 0 || e != api.ErrChunkByte {
				t.Fatalf("%x", b[:i])
			}
		}
		if _, _, e := chunk.Decode(append(b, 0)); e != api.ErrChunkByte {
			t.Fatalf("%x", b)
		}
	}
}

// Bytes that were changed, and have a right sum again, are no chunk or that of other values.
func TestOneChunkAColumn(t *testing.T) {
	r := rand.New(rand.NewSource(3))
	for _, c := range columns() {
		b, _ := chunk.Encode(c.kind, c.l)
		if len(b) > 100 {
			continue
		}
		b = b[:len(b)-4]
		for range 60 {
			x := bytes.Clone(b)
			x[r.Intn(len(x))] = byte(r.Intn(256)) >> r.Intn(8)
			x = sealed(x)
			kind, l, e := chunk.Decode(x)
			if e == 0 && !bytes.Equal(slow(kind, l), x) || e != 0 && (e != api.ErrChunkByte || len(l) != 0 || kind != 0) {
				t.Fatalf("%x: %d %v", x, kind, l)
			}
		}
	}
}

func TestZone(t *testing.T) {
	for i, c := range []struct {
		l    []api.Value
		want api.Zone
	}{
		{[]api.Value{num(3), null, num(1)}, api.Zone{Nulls: 1, Min: num(1), Max: num(3)}}, {nil, api.Zone{}}, {[]api.Value{null, null}, api.Zone{Nulls: 2}},
		{[]api.Value{num(-5)}, api.Zone{Min: num(-5), Max: num(-5)}}, {[]api.Value{truth(1), truth(0)}, api.Zone{Min: truth(0), Max: truth(1)}},
		{[]api.Value{text("b"), text("ab"), null, text("")}, api.Zone{Nulls: 1, Min: text(""), Max: text("b")}},
		{[]api.Value{text("a"), num(1), truth(0), null}, api.Zone{Nulls: 1, Min: num(1), Max: text("a")}},
		{[]api.Value{num(math.MinInt64), num(math.MaxInt64)}, api.Zone{Min: num(math.MinInt64), Max: num(math.MaxInt64)}},
		{make([]api.Value, 1024), api.Zone{Nulls: 1024}},
	} {
		if z, e := chunk.Zone(c.l); z != c.want || e != 0 {
			t.Error(i, z, e)
		}
	}
	for i, l := range [][]api.Value{make([]api.Value, 1025), {num(1), {Kind: 7}}, {truth(2)}, {{N: 1}}, {null, text(strings.Repeat("x", 1025))}} {
		if z, e := chunk.Zone(l); z != (api.Zone{}) || e != api.ErrArg {
			t.Error(i, z, e)
		}
	}
	for i, c := range columns() {
		z, e := chunk.Zone(c.l)
		nulls := 0
		for _, v := range c.l {
			if v == null {
				nulls++
			} else if value.Compare(z.Min, v) > 0 || value.Compare(v, z.Max) > 0 {
				t.Error(i, v, z)
			}
		}
		if e != 0 || z.Nulls != nulls || nulls < len(c.l) && (!slices.Contains(c.l, z.Min) || !slices.Contains(c.l, z.Max)) {
			t.Error(i, z, e)
		}
	}
}
