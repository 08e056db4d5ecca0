package schema_test

import (
	"bytes"
	"math"
	"math/rand"
	"reflect"
	"slices"
	"strings"
	"testing"

	"stackyard/api"
	"stackyard/schema"
	"stackyard/value"
)

func col(name string, kind int, null bool) api.Column {
	return api.Column{Name: name, Kind: kind, Null: null}
}

func num(n int64) api.Value   { return api.Value{Kind: api.KInt, N: n} }
func truth(n int64) api.Value { return api.Value{Kind: api.KBool, N: n} }
func text(s string) api.Value { return api.Value{Kind: api.KText, S: s} }

var null = api.Value{}

// many are so many columns with different names.
func many(n int) []api.Column {
	var cols []api.Column
	for i := range n {
		cols = append(cols, col("c"+string(rune('a'+i)), 1+i%3, i%2 == 0))
	}
	return cols
}

var abc = []api.Column{col("a", api.KInt, false), col("b", api.KText, true), col("c_9", api.KBool, false)}

var rightOnes = []struct {
	cols          []api.Column
	code, written string
}{
	{[]api.Column{col("a", api.KInt, false)}, "\x01\x01a\x01\x00", "a int"},
	{[]api.Column{col("a", api.KInt, false), col("b", api.KText, true)}, "\x02\x01a\x01\x00\x01b\x03\x01", "a int, b text null"},
	{abc, "\x03\x01a\x01\x00\x01b\x03\x01\x03c_9\x02\x00", "a int, b text null, c_9 bool"},
	{[]api.Column{col("int", api.KBool, true), col("null", api.KText, false)}, "\x02\x03int\x02\x01\x04null\x03\x00", "int bool null, null text"},
	{[]api.Column{col(strings.Repeat("z", 24), api.KInt, true)}, "\x01\x18" + strings.Repeat("z", 24) + "\x01\x01", strings.Repeat("z", 24) + " int null"},
}

func wrongOnes() [][]api.Column {
	return [][]api.Column{
		nil, {}, many(17), {col("a", 0, false)}, {col("a", 4, false)}, {col("a", -1, false)}, {col("a", 257, false)}, {col("", 1, false)}, {col("A", 1, false)},
		{col("a", 1, false), col("a", 1, false)}, {col("a", 1, false), col("b", 2, false), col("a", 3, true)}, {col("a", 1, false), col("b", 0, true)},
		{col(strings.Repeat("z", 25), 1, false)}, {col("a b", 1, false)}, {col("1a", 1, false)},
	}
}

func TestIsName(t *testing.T) {
	for _, s := range []string{"a", "z", "a_1", "a0", "a9_", "zz", "select", strings.Repeat("a", 24)} {
		if !schema.IsName(s) {
			t.Error(s)
		}
	}
	for _, s := range []string{"", "_", "_a", "0", "9a", "A", "aB", "a-b", "a b", "a.", "a\x00", "a{", "a`", "{", "`", "a/", "a:", "\u00e4", "a\u00e4", strings.Repeat("a", 25)} {
		if schema.IsName(s) {
			t.Error(s)
		}
	}
}

func TestRight(t *testing.T) {
	for _, c := range rightOnes {
		if !schema.Right(c.cols) {
			t.Error(c.written)
		}
	}
	if !schema.Right(many(16)) {
		t.Error("16 columns")
	}
	for i, cols := range wrongOnes() {
		if schema.Right(cols) {
			t.Error(i)
		}
	}
}

func TestFits(t *testing.T) {
	for i, c := range []struct {
		row  api.Row
		want bool
	}{
		{api.Row{num(1), text("x"), truth(0)}, true}, {api.Row{num(1), null, truth(1)}, true}, {api.Row{num(math.MinInt64), text(strings.Repeat("x", 1024)), truth(1)}, true},
		{nil, false}, {api.Row{num(1), text("x")}, false}, {api.Row{num(1), text("x"), truth(0), null}, false}, {api.Row{null, text("x"), truth(0)}, false},
		{api.Row{num(1), text("x"), null}, false}, {api.Row{num(1), num(2), truth(0)}, false}, {api.Row{num(1), truth(1), truth(0)}, false},
		{api.Row{truth(1), text("x"), truth(0)}, false}, {api.Row{num(1), text("x"), num(0)}, false}, {api.Row{text(""), text("x"), truth(0)}, false},
		{api.Row{num(1), text(strings.Repeat("x", 1025)), truth(0)}, false}, {api.Row{num(1), text("x"), truth(2)}, false},
		{api.Row{{Kind: api.KInt, S: "x"}, text("x"), truth(0)}, false}, {api.Row{num(1), {N: 1}, truth(0)}, false}, {api.Row{num(1), {Kind: 9}, truth(0)}, false},
	} {
		if schema.Fits(abc, c.row) != c.want {
			t.Error(i)
		}
	}
	for i, cols := range wrongOnes() {
		row := make(api.Row, len(cols))
		for j, c := range cols {
			row[j] = api.Value{Kind: c.Kind}
		}
		if schema.Fits(cols, row) {
			t.Error(i)
		}
	}
}

func TestFind(t *testing.T) {
	cols := []api.Column{col("a", 1, false), col("b", 2, false), col("a", 3, true), col("", 1, false)}
	for name, want := range map[string]int{"a": 0, "b": 1, "c": -1, "": 3, "A": -1} {
		if i := schema.Find(cols, name); i != want {
			t.Error(name, i)
		}
	}
	if schema.Find(nil, "a") != -1 {
		t.Error("of nothing")
	}
}

func TestLayAndTake(t *testing.T) {
	for _, c := range rightOnes {
		room := []byte{7, 9, 0xee, 0xee, 0xee, 0xee, 0xee, 0xee, 0xee, 0xee}
		kept := slices.Clone(c.cols)
		b, e := schema.Lay(room[:2], c.cols)
		if string(b) != "\x07\x09"+c.code || e != 0 || !slices.Equal(kept, c.cols) {
			t.Errorf("%s: %x %d", c.written, b, e)
		}
		if b[0] = 1; !bytes.Equal(room, []byte{7, 9, 0xee, 0xee, 0xee, 0xee, 0xee, 0xee, 0xee, 0xee}) {
			t.Error("the argument was changed")
		}
		for _, tail := range []string{"", "\x00"} {
			if cols, at, e := schema.Take([]byte("xy"+c.code+tail), 2); !slices.Equal(cols, c.cols) || at != 2+len(c.code) || e != 0 {
				t.Error(c.written, cols, at, e)
			}
		}
		for i := range len(c.code) {
			if cols, at, e := schema.Take([]byte(c.code[:i]), 0); len(cols) != 0 || at != 0 || e != api.ErrRowByte {
				t.Error(c.written, i, cols, at, e)
			}
		}
	}
	b, e := schema.Lay(nil, many(16))
	if cols, at, e2 := schema.Take(b, 0); !slices.Equal(cols, many(16)) || at != len(b) || e != 0 || e2 != 0 {
		t.Error(cols, at, e, e2)
	}
	for i, cols := range wrongOnes() {
		if b, e := schema.Lay([]byte{1}, cols); len(b) != 0 || e != api.ErrSchema {
			t.Error(i, b, e)
		}
	}
}

func TestTakeRejects(t *testing.T) {
	seventeen := "\x11"
	for i := range 17 {
		seventeen += "\x01" + string(rune('a'+i)) + "\x01\x00"
	}
	for _, s := range []string{
		"\x00", "\x01\x01a\x00\x00", "\x01\x01a\x04\x00", "\x01\x01a\x01\x02", "\x01\x01a\xff\x00", "\x01\x00\x01\x00", "\x01\x01A\x01\x00",
		"\x02\x01a\x01\x00\x01a\x01\x00", "\x02\x01a\x01\x00\x01a\x02\x01", "\x01\x81\x00a\x01\x00", "\x81\x00\x01a\x01\x00", seventeen,
		"\x01\x19" + strings.Repeat("z", 25) + "\x01\x00", "\xff\xff\xff\xff\xff\xff\xff\xff\xff\x01\x01a\x01\x00",
	} {
		if cols, at, e := schema.Take([]byte(s), 0); len(cols) != 0 || at != 0 || e != api.ErrRowByte {
			t.Errorf("%x: %v %d %d", s, cols, at, e)
		}
	}
	for _, at := range []int{-1, 1, 5, 6, math.MinInt, math.MaxInt} {
		if cols, next, e := schema.Take([]byte("\x01\x01a\x01\x00"), at); len(cols) != 0 || next != 0 || e != api.ErrRowByte {
			t.Error(at, cols, next, e)
		}
	}
}

// Whatever schema is taken is encoded as the bytes it was taken from, also if a byte was changed.
func TestOneEncodingASchema(t *testing.T) {
	for _, c := range rightOnes {
		for i := range len(c.code) {
			for x := range 256 {
				b := []byte(c.code)
				b[i] = byte(x)
				cols, at, e := schema.Take(b, 0)
				if e != 0 {
					continue
				}
				if back, e := schema.Lay(nil, cols); e != 0 || !bytes.Equal(back, b[:at]) {
					t.Fatalf("%x", b)
				}
			}
		}
	}
}

func TestLayRowsAndTakeRows(t *testing.T) {
	one := []api.Column{col("a", api.KInt, false)}
	if b, e := schema.LayRows(nil, one, []api.Row{{num(5)}}); string(b) != "\x01\x01\x0a" || e != 0 {
		t.Error(b, e)
	}
	rows := []api.Row{{num(-3), text("ab"), truth(1)}, {num(300), null, truth(0)}}
	code := "\x02\x01\x05\x03\x02ab\x02\x01\x01\xd8\x04\x00\x02\x00"
	room := []byte{7, 0xee, 0xee, 0xee, 0xee}
	b, e := schema.LayRows(room[:1], abc, rows)
	if string(b) != "\x07"+code || e != 0 || !bytes.Equal(room, []byte{7, 0xee, 0xee, 0xee, 0xee}) {
		t.Errorf("%x %d", b, e)
	}
	for _, tail := range []string{"", "\x00\x01"} {
		if got, at, e := schema.TakeRows([]byte("xyz"+code+tail), 3, abc); !reflect.DeepEqual(got, rows) || at != 3+len(code) || e != 0 {
			t.Error(got, at, e)
		}
	}
	for i := range len(code) {
		if got, at, e := schema.TakeRows([]byte(code[:i]), 0, abc); len(got) != 0 || at != 0 || e != api.ErrRowByte {
			t.Error(i, got, at, e)
		}
	}
	if b, e := schema.LayRows(nil, abc, nil); string(b) != "\x00" || e != 0 {
		t.Error(b, e)
	}
	if got, at, e := schema.TakeRows([]byte("\x00"), 0, abc); len(got) != 0 || at != 1 || e != 0 {
		t.Error(got, at, e)
	}
}

func TestRowsOfOneResultShareNothing(t *testing.T) {
	b, _ := schema.LayRows(nil, abc, []api.Row{{num(1), null, truth(0)}, {num(2), null, truth(1)}})
	rows, _, _ := schema.TakeRows(b, 0, abc)
	_ = append(rows[0], num(9))
	if !slices.Equal(rows[1], api.Row{num(2), null, truth(1)}) {
		t.Error(rows)
	}
}

func TestManyRows(t *testing.T) {
	one := []api.Column{col("a", api.KBool, false)}
	rows := slices.Repeat([]api.Row{{truth(1)}}, 1024)
	b, e := schema.LayRows(nil, one, rows)
	if e != 0 || len(b) != 2+2048 {
		t.Fatal(len(b), e)
	}
	if got, at, e := schema.TakeRows(b, 0, one); !reflect.DeepEqual(got, rows) || at != len(b) || e != 0 {
		t.Error(len(got), at, e)
	}
	if b, e := schema.LayRows(nil, one, append(rows, api.Row{truth(1)})); len(b) != 0 || e != api.ErrRow {
		t.Error(len(b), e)
	}
	b = append([]byte{0x81, 0x08}, bytes.Repeat([]byte{2, 1}, 1025)...)
	if got, at, e := schema.TakeRows(b, 0, one); len(got) != 0 || at != 0 || e != api.ErrRowByte {
		t.Error(len(got), at, e)
	}
}

func TestRowsReject(t *testing.T) {
	for i, cols := range wrongOnes() {
		if b, e := schema.LayRows(nil, cols, make([]api.Row, 2000)); len(b) != 0 || e != api.ErrSchema {
			t.Error(i, b, e)
		}
		if rows, at, e := schema.TakeRows([]byte("\x00"), 0, cols); len(rows) != 0 || at != 0 || e != api.ErrSchema {
			t.Error(i, rows, at, e)
		}
	}
	for i, row := range []api.Row{nil, {num(1)}, {null, null, truth(0)}, {num(1), null, null}, {num(1), num(1), truth(0)}, {num(1), null, truth(2)}} {
		if b, e := schema.LayRows([]byte{1}, abc, []api.Row{{num(1), null, truth(0)}, row}); len(b) != 0 || e != api.ErrRow {
			t.Error(i, b, e)
		}
	}
	for _, s := range []string{
		"\x01\x00\x00\x02\x00", "\x01\x01\x02\x00\x00", "\x01\x02\x01\x00\x02\x00", "\x01\x01\x02\x01\x02\x02\x00", "\x01\x01\x02\x00\x02\x02", "\x81\x00\x01\x02\x00\x02\x00",
		"\x01\x04\x00\x02\x00", "\xff\xff\xff\xff\xff\xff\xff\xff\xff\x01",
	} {
		if rows, at, e := schema.TakeRows([]byte(s), 0, abc); len(rows) != 0 || at != 0 || e != api.ErrRowByte {
			t.Errorf("%x: %v %d %d", s, rows, at, e)
		}
	}
	for _, at := range []int{-1, 1, 2, math.MinInt, math.MaxInt} {
		if rows, next, e := schema.TakeRows([]byte("\x00"), at, abc); len(rows) != 0 || next != 0 || e != api.ErrRowByte {
			t.Error(at, rows, next, e)
		}
	}
}

func TestShowAndParse(t *testing.T) {
	for _, c := range rightOnes {
		if s, e := schema.Show(c.cols); s != c.written || e != 0 {
			t.Error(c.written, s, e)
		}
		if cols, e := schema.Parse(c.written); !slices.Equal(cols, c.cols) || e != 0 {
			t.Error(c.written, cols, e)
		}
	}
	s, _ := schema.Show(many(16))
	if cols, e := schema.Parse(s); !slices.Equal(cols, many(16)) || e != 0 {
		t.Error(cols, e)
	}
	for i, cols := range wrongOnes() {
		if s, e := schema.Show(cols); s != "" || e != api.ErrSchema {
			t.Error(i, s, e)
		}
	}
}

func TestParseRejects(t *testing.T) {
	seventeen := "q int"
	for i := range 16 {
		seventeen += ", " + string(rune('a'+i)) + " int"
	}
	for _, s := range []string{
		"", " ", "a", "a ", "a int,b text", "a int , b text", "a int,  b text", "a  int", " a int", "a int ", "a int,", "a int, ", ", a int", "a int null null", "a int  null",
		"a null", "a null int", "a Int", "A int", "a integer", "a int, a int", "a int, b text, a bool", "a int\n", "1 int", " int", "a int not null", "a int, , b int",
		strings.Repeat("z", 25) + " int", seventeen, "a intnull", "a,b int", strings.Repeat(", ", 100000),
	} {
		if cols, e := schema.Parse(s); len(cols) != 0 || e != api.ErrSchema {
			t.Errorf("%q: %v %d", s, cols, e)
		}
	}
}

// Any text is rejected, or is the representation of what it is parsed to.
func TestOneRepresentationASchema(t *testing.T) {
	r := rand.New(rand.NewSource(1))
	words := []string{"a", "b", " ", ", ", "int", "text", "bool", "null", " int", " null", ","}
	for range 200000 {
		var s string
		for range r.Intn(7) {
			s += words[r.Intn(len(words))]
		}
		cols, e := schema.Parse(s)
		if e != 0 {
			continue
		}
		if back, e := schema.Show(cols); back != s || e != 0 {
			t.Fatalf("%q %v", s, cols)
		}
	}
}

// Rows that are laid are taken as they were, random ones with all kinds.
func TestRowsBothWays(t *testing.T) {
	r := rand.New(rand.NewSource(2))
	for n := range 200 {
		cols := many(1 + r.Intn(16))
		rows := make([]api.Row, r.Intn(20))
		for i := range rows {
			for _, c := range cols {
				v := []api.Value{null, num(int64(r.Uint64())), truth(r.Int63n(2)), text(strings.Repeat("x", r.Intn(4)))}[c.Kind]
				if c.Null && r.Intn(3) == 0 {
					v = null
				}
				rows[i] = append(rows[i], v)
			}
		}
		b, e := schema.LayRows(nil, cols, rows)
		if e != 0 {
			t.Fatal(n, e)
		}
		want := 1
		for _, row := range rows {
			for _, v := range row {
				x, _ := value.Lay(nil, v)
				want += len(x)
			}
		}
		got, at, e := schema.TakeRows(b, 0, cols)
		if e != 0 || at != len(b) || len(b) != want || len(got) != len(rows) || len(rows) > 0 && !reflect.DeepEqual(got, rows) {
			t.Fatal(n, at, e)
		}
	}
}
