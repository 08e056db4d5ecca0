package segment_test

import (
	"math"
	"math/rand"
	"reflect"
	"slices"
	"strings"
	"testing"

	"stackyard/api"
	"stackyard/chunk"
	"stackyard/hash"
	"stackyard/schema"
	"stackyard/segment"
	"stackyard/value"
	"stackyard/wire"
)

var null = api.Value{}

func num(n int64) api.Value   { return api.Value{Kind: api.KInt, N: n} }
func truth(n int64) api.Value { return api.Value{Kind: api.KBool, N: n} }
func text(s string) api.Value { return api.Value{Kind: api.KText, S: s} }

func col(name string, kind int, null bool) api.Column {
	return api.Column{Name: name, Kind: kind, Null: null}
}

var abc = []api.Column{col("a", api.KInt, false), col("b", api.KText, true), col("c", api.KBool, false)}

// piece is a segment that is made by hand: what may be changed in it.
type piece struct {
	cols   []api.Column
	rows   uint64
	chunks [][]byte
	zones  []api.Zone
	gap    string // between the chunks and the footer
	tail   string // behind the zones
	extra  int    // of the footer's length
	longer uint64 // the first chunk's length in the footer
}

func pieceOf(cols []api.Column, rows []api.Row) piece {
	p := piece{cols: cols, rows: uint64(len(rows))}
	for i, c := range cols {
		var l []api.Value
		for _, row := range rows {
			l = append(l, row[i])
		}
		b, _ := chunk.Encode(c.Kind, l)
		z, _ := chunk.Zone(l)
		p.chunks, p.zones = append(p.chunks, b), append(p.zones, z)
	}
	return p
}

func (p piece) bytes() string {
	b := []byte("SYD1")
	footer, _ := schema.Lay(nil, p.cols)
	footer = wire.Number(footer, p.rows)
	for i, c := range p.chunks {
		b = append(b, c...)
		length := uint64(len(c))
		if i == 0 {
			length += p.longer
		}
		footer = wire.Number(wire.Number(footer, length), uint64(p.zones[i].Nulls))
		footer, _ = value.Lay(footer, p.zones[i].Min)
		footer, _ = value.Lay(footer, p.zones[i].Max)
	}
	b = append(append(append(b, p.gap...), footer...), p.tail...)
	n := len(footer) + len(p.tail) + p.extra
	return hashed(string(append(b, byte(n), byte(n>>8), byte(n>>16), byte(n>>24))))
}

func hashed(s string) string {
	d := hash.Sum([]byte(s))
	return s + string(d[:])
}

func someRows(r *rand.Rand, n int) []api.Row {
	var rows []api.Row
	for range n {
		b := text(strings.Repeat("xyz"[:1+r.Intn(3)], r.Intn(5)))
		if r.Intn(3) == 0 {
			b = null
		}
		rows = append(rows, api.Row{num(r.Int63n(100)), b, truth(r.Int63n(2))})
	}
	return rows
}

func TestWriteAndOpen(t *testing.T) {
	r := rand.New(rand.NewSource(1))
	for _, n := range []int{0, 1, 2, 3, 10, 100, 1023, 1024} {
		rows := someRows(r, n)
		s, e := segment.Write(abc, rows)
		if e != 0 || s != pieceOf(abc, rows).bytes() {
			t.Fatal(n, e)
		}
		g, e := segment.Open(s)
		if e != 0 || g.Rows() != n || !slices.Equal(g.Cols(), abc) {
			t.Fatal(n, e)
		}
		for c := range abc {
			var want []api.Value
			for _, row := range rows {
				want = append(want, row[c])
			}
			zone, _ := chunk.Zone(want)
			if l, e := g.Column(c); e != 0 || !slices.Equal(l, want) {
				t.Error(n, c, e)
			}
			if z, e := g.Zone(c); e != 0 || z != zone {
				t.Error(n, c, z, e)
			}
		}
		again, e := segment.Write(g.Cols(), rows)
		if again != s || e != 0 {
			t.Error(n, e)
		}
	}
}

// The footer's length has more than one byte.
func TestLongFooter(t *testing.T) {
	var cols []api.Column
	var row api.Row
	for i := range 16 {
		cols = append(cols, col("c"+string(rune('a'+i)), api.KText, false))
		row = append(row, text(strings.Repeat("x", 64*(i+1))))
	}
	for n := 1; n <= 16; n++ {
		s, e := segment.Write(cols[:n], []api.Row{row[:n], row[:n]})
		if e != 0 || s != pieceOf(cols[:n], []api.Row{row[:n], row[:n]}).bytes() {
			t.Fatal(n, e)
		}
		g, e := segment.Open(s)
		if e != 0 {
			t.Fatal(n, e)
		}
		if l, e := g.Column(n - 1); !slices.Equal(l, []api.Value{row[n-1], row[n-1]}) || e != 0 {
			t.Error(n, e)
		}
	}
}

func TestExample(t *testing.T) {
	one := []api.Column{col("a", api.KInt, false)}
	s, e := segment.Write(one, []api.Row{{num(3)}, {num(1)}})
	if e != 0 {
		t.Fatal(e)
	}
	g, e := segment.Open(s)
	if e != 0 || g.Rows() != 2 {
		t.Fatal(e)
	}
	if z, e := g.Zone(0); z != (api.Zone{Min: num(1), Max: num(3)}) || e != 0 {
		t.Error(z, e)
	}
	// A result is new memory.
	g.Cols()[0].Name = "z"
	l, _ := g.Column(0)
	l[0] = num(99)
	if again, _ := g.Column(0); !slices.Equal(again, []api.Value{num(3), num(1)}) || g.Cols()[0].Name != "a" {
		t.Error(again, g.Cols())
	}
}

func TestName(t *testing.T) {
	for _, s := range []string{"", "abc", "SYD1", strings.Repeat("x", 5000)} {
		if n := segment.Name(s); n != hash.Hex(hash.Sum([]byte(s))) || len(n) != 64 {
			t.Error(n)
		}
	}
}

func TestWriteRejects(t *testing.T) {
	row := api.Row{num(1), null, truth(0)}
	for i, cols := range [][]api.Column{nil, {col("A", 1, false)}, {abc[0], abc[0]}, {col("a", 0, true)}, slices.Repeat(abc, 6)} {
		if s, e := segment.Write(cols, slices.Repeat([]api.Row{{null}}, 1025)); s != "" || e != api.ErrSchema {
			t.Error(i, s, e)
		}
	}
	if s, e := segment.Write(abc, slices.Repeat([]api.Row{row}, 1025)); s != "" || e != api.ErrRow {
		t.Error(len(s), e)
	}
	for i, bad := range []api.Row{nil, row[:2], {null, null, truth(0)}, {num(1), num(1), truth(0)}, {num(1), null, truth(2)}, append(slices.Clone(row), null)} {
		if s, e := segment.Write(abc, []api.Row{row, bad}); s != "" || e != api.ErrRow {
			t.Error(i, s, e)
		}
	}
}

func TestOpenRejectsSums(t *testing.T) {
	s := pieceOf(abc, []api.Row{{num(1), text("x"), truth(1)}}).bytes()
	for _, x := range []string{"", "x", s[:39], s[:len(s)-1], s + "\x00", s[1:], strings.Repeat("\x00", 40), hashed("SYD1\x00\x00\x00")} {
		if g, e := segment.Open(x); g != nil || e != api.ErrSegSum {
			t.Errorf("%x: %d", x, e)
		}
	}
	for i := range len(s) {
		for _, c := range []byte{1, 0x80, 0xff} {
			b := []byte(s)
			b[i] ^= c
			if g, e := segment.Open(string(b)); g != nil || e != api.ErrSegSum {
				t.Fatal(i, e)
			}
		}
	}
}

func TestOpenRejectsBytes(t *testing.T) {
	rows := []api.Row{{num(1), text("x"), truth(1)}, {num(5), null, truth(0)}}
	good := func() piece { return pieceOf(abc, rows) }
	if g, e := segment.Open(good().bytes()); g == nil || e != 0 {
		t.Fatal(e)
	}
	rechunk := func(kind int, l ...api.Value) []byte {
		b, _ := chunk.Encode(kind, l)
		return b
	}
	for i, change := range []func(p *piece){
		func(p *piece) { p.rows = 1 }, func(p *piece) { p.rows = 3 }, func(p *piece) { p.rows = 1025 }, func(p *piece) { p.rows = math.MaxUint64 },
		func(p *piece) { p.gap = "\x00" }, func(p *piece) { p.tail = "\x00" }, func(p *piece) { p.extra = 1 }, func(p *piece) { p.extra = -1 },
		func(p *piece) { p.longer = 1 }, func(p *piece) { p.longer = 1000 }, func(p *piece) { p.longer = math.MaxUint64 }, func(p *piece) { p.longer = 1 << 63 }, func(p *piece) { p.extra = math.MaxInt32 }, func(p *piece) { p.extra = 1 << 31 },
		func(p *piece) { p.zones[0].Min = num(0) }, func(p *piece) { p.zones[0].Max = num(6) }, func(p *piece) { p.zones[1].Nulls = 0 }, func(p *piece) { p.zones[2].Nulls = 1 },
		func(p *piece) { p.zones[1].Min = null }, func(p *piece) { p.zones[2].Max = num(1) },
		func(p *piece) { p.chunks = p.chunks[:2] }, func(p *piece) { p.chunks = p.chunks[1:] }, func(p *piece) { p.chunks[0] = p.chunks[2] },
		func(p *piece) { p.chunks[0] = rechunk(api.KInt, num(1)) }, func(p *piece) { p.chunks[0] = rechunk(api.KInt, num(1), num(5), num(5)) },
		func(p *piece) { p.chunks[0], p.zones[0].Nulls = rechunk(api.KInt, num(1), null), 1 },
		func(p *piece) { p.chunks[0] = p.chunks[0][:4] }, func(p *piece) { p.chunks[0] = append(p.chunks[0], 0) }, func(p *piece) { p.chunks[1] = nil },
		func(p *piece) { p.chunks[0] = rechunk(api.KText, text("a"), text("b")) },
	} {
		p := good()
		change(&p)
		if g, e := segment.Open(p.bytes()); g != nil || e != api.ErrSegByte {
			t.Error(i, e)
		}
	}
	whole := good().bytes()
	whole = whole[:len(whole)-32]
	for i, s := range []string{
		"SYD2" + whole[4:], "syd1" + whole[4:], whole[:len(whole)-1] + "\x01", "SYD1" + strings.Repeat("\x00", 4), "SYD1\x00\x00\x00\x00\x01\x00\x00\x00", "SYD1" + whole,
		"xxxx\x04\x00\x00\x00", "SYD1\xff\xff\xff\xff", "SYD1\x01\x00\x00\x00", "SYD1\x04\x00\x00\x00", "SYD1\x05\x00\x00\x00", "SYD1\x08\x00\x00\x00", "SYD1xxxx\x09\x00\x00\x00", strings.Repeat("\xff", 50),
	} {
		if g, e := segment.Open(hashed(s)); g != nil || e != api.ErrSegByte {
			t.Error(i, e)
		}
	}
}

// A segment whose values have another encoding than the best one is none.
func TestOpenRejectsOtherFormats(t *testing.T) {
	one := []api.Column{col("a", api.KInt, false)}
	p := pieceOf(one, []api.Row{{num(7)}, {num(7)}, {num(7)}})
	b := []byte{1, 3, 0, 0, 0x0e, 0x0e, 0x0e}
	sum := wire.Sum(b)
	p.chunks[0] = append(b, byte(sum), byte(sum>>8), byte(sum>>16), byte(sum>>24))
	if g, e := segment.Open(p.bytes()); g != nil || e != api.ErrSegByte {
		t.Error(e)
	}
}

func TestNilAndIndexes(t *testing.T) {
	var g *segment.Segment
	if len(g.Cols()) != 0 || g.Rows() != 0 {
		t.Error("there is something")
	}
	for _, c := range []int{0, -1} {
		if z, e := g.Zone(c); z != (api.Zone{}) || e != api.ErrNil {
			t.Error(z, e)
		}
		if l, e := g.Column(c); len(l) != 0 || e != api.ErrNil {
			t.Error(l, e)
		}
	}
	s, _ := segment.Write(abc, nil)
	g, _ = segment.Open(s)
	for _, c := range []int{-1, 3, math.MinInt, math.MaxInt} {
		if z, e := g.Zone(c); z != (api.Zone{}) || e != api.ErrArg {
			t.Error(z, e)
		}
		if l, e := g.Column(c); len(l) != 0 || e != api.ErrArg {
			t.Error(l, e)
		}
	}
	for c := range 3 {
		if l, e := g.Column(c); len(l) != 0 || e != 0 {
			t.Error(l, e)
		}
	}
}

func TestWriteKeepsItsArguments(t *testing.T) {
	cols, rows := slices.Clone(abc), someRows(rand.New(rand.NewSource(5)), 20)
	copied := make([]api.Row, len(rows))
	for i, row := range rows {
		copied[i] = slices.Clone(row)
	}
	s, _ := segment.Write(cols, rows)
	if !slices.Equal(cols, abc) || !reflect.DeepEqual(rows, copied) {
		t.Error("an argument was changed")
	}
	g, _ := segment.Open(s)
	cols[0].Name = "zz"
	if g.Cols()[0].Name != "a" {
		t.Error("an argument was kept")
	}
}
