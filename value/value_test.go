package value_test

import (
	"bytes"
	"math"
	"math/rand"
	"strings"
	"testing"

	"stackyard/api"
	"stackyard/value"
)

func num(n int64) api.Value   { return api.Value{Kind: api.KInt, N: n} }
func truth(n int64) api.Value { return api.Value{Kind: api.KBool, N: n} }
func text(s string) api.Value { return api.Value{Kind: api.KText, S: s} }

// ordered are valid values in their order, with their encodings and representations.
var ordered = []struct {
	v             api.Value
	code, written string
}{
	{api.Value{}, "\x00", "null"},
	{num(math.MinInt64), "\x01\xff\xff\xff\xff\xff\xff\xff\xff\xff\x01", "-9223372036854775808"},
	{num(-300), "\x01\xd7\x04", "-300"},
	{num(-3), "\x01\x05", "-3"},
	{num(-1), "\x01\x01", "-1"},
	{num(0), "\x01\x00", "0"},
	{num(1), "\x01\x02", "1"},
	{num(10), "\x01\x14", "10"},
	{num(math.MaxInt64), "\x01\xfe\xff\xff\xff\xff\xff\xff\xff\xff\x01", "9223372036854775807"},
	{truth(0), "\x02\x00", "false"},
	{truth(1), "\x02\x01", "true"},
	{text(""), "\x03\x00", "''"},
	{text("\x00"), "\x03\x01\x00", "'\x00'"},
	{text("'"), "\x03\x01'", "''''"},
	{text("''"), "\x03\x02''", "''''''"},
	{text("B"), "\x03\x01B", "'B'"},
	{text("a"), "\x03\x01a", "'a'"},
	{text("ab"), "\x03\x02ab", "'ab'"},
	{text("b"), "\x03\x01b", "'b'"},
	{text("it's"), "\x03\x04it's", "'it''s'"},
	{text("null"), "\x03\x04null", "'null'"},
	{text(strings.Repeat("x", 1024)), "\x03\x80\x08" + strings.Repeat("x", 1024), "'" + strings.Repeat("x", 1024) + "'"},
	{text("\x80"), "\x03\x01\x80", "'\x80'"},
	{text("\xff\n"), "\x03\x02\xff\n", "'\xff\n'"},
}

var wrong = []api.Value{
	{Kind: -1}, {Kind: 4}, {Kind: math.MinInt}, {Kind: 256}, {Kind: api.KNull, N: 1}, {Kind: api.KNull, S: "x"},
	{Kind: api.KInt, N: 1, S: "x"}, {Kind: api.KBool, N: 2}, {Kind: api.KBool, N: -1}, {Kind: api.KBool, N: 1, S: "x"},
	{Kind: api.KText, N: 1, S: "x"}, {Kind: api.KText, N: -1}, {Kind: api.KText, S: strings.Repeat("x", 1025)},
}

func TestRight(t *testing.T) {
	for _, c := range ordered {
		if !value.Right(c.v) {
			t.Error(c.written)
		}
	}
	for i, v := range wrong {
		if value.Right(v) {
			t.Error(i)
		}
		value.Compare(v, wrong[0])
	}
}

func TestCompare(t *testing.T) {
	for i, a := range ordered {
		for j, b := range ordered {
			want := 0
			if i < j {
				want = -1
			} else if i > j {
				want = 1
			}
			if got := value.Compare(a.v, b.v); got != want {
				t.Error(a.written, b.written, got)
			}
		}
	}
}

func TestLayAndTake(t *testing.T) {
	for _, c := range ordered {
		room := append(make([]byte, 0, 64), 7, 9, 0xee, 0xee, 0xee, 0xee)
		b, e := value.Lay(room[:2], c.v)
		if e != 0 || string(b) != "\x07\x09"+c.code {
			t.Errorf("%s: %x %d", c.written, b, e)
		}
		if !bytes.Equal(room, []byte{7, 9, 0xee, 0xee, 0xee, 0xee}) {
			t.Error("the spare room was written to")
		}
		b[0] = 1
		if room[0] != 7 {
			t.Error("the result shares memory with the argument")
		}
		if b, e := value.Lay(nil, c.v); string(b) != c.code || e != 0 {
			t.Errorf("%s: %x %d", c.written, b, e)
		}
		if v, at, e := value.Take([]byte(c.code), 0); v != c.v || at != len(c.code) || e != 0 {
			t.Error(c.written, v, at, e)
		}
		for _, tail := range []string{"", "\x00", "\xff"} {
			if v, at, e := value.Take([]byte("abc"+c.code+tail), 3); v != c.v || at != 3+len(c.code) || e != 0 {
				t.Error(c.written, v, at, e)
			}
		}
		for i := range len(c.code) {
			if v, at, e := value.Take([]byte(c.code[:i]), 0); v != (api.Value{}) || at != 0 || e != api.ErrWireByte {
				t.Error(c.written, i, v, at, e)
			}
		}
	}
	for i, v := range wrong {
		if b, e := value.Lay([]byte{1}, v); len(b) != 0 || e != api.ErrArg {
			t.Error(i, b, e)
		}
	}
}

func TestTakeRejects(t *testing.T) {
	for _, s := range []string{
		"", "\x04", "\xff", "\x02\x02", "\x02\xff", "\x02", "\x01", "\x01\x80\x00", "\x01\x80", "\x03", "\x03\x02a", "\x03\x81\x00a",
		"\x03\x81\x08" + strings.Repeat("x", 1025),
	} {
		if v, at, e := value.Take([]byte(s), 0); v != (api.Value{}) || at != 0 || e != api.ErrWireByte {
			t.Errorf("%x: %v %d %d", s, v, at, e)
		}
	}
	for _, at := range []int{-1, 2, 3, math.MinInt, math.MaxInt} {
		if v, next, e := value.Take([]byte{0, 0}, at); v != (api.Value{}) || next != 0 || e != api.ErrWireByte {
			t.Error(at, v, next, e)
		}
	}
}

// All byte strings of up to three bytes: what is taken is encoded as those bytes.
func TestOneEncodingAValue(t *testing.T) {
	for x := range 1 << 18 {
		b := []byte{byte(x >> 16 & 7), byte(x), byte(x >> 8)}
		v, at, e := value.Take(b, 0)
		if e != 0 {
			continue
		}
		if !value.Right(v) {
			t.Fatalf("%x", b)
		}
		if back, e := value.Lay(nil, v); e != 0 || !bytes.Equal(back, b[:at]) {
			t.Fatalf("%x", b)
		}
	}
}

func TestShowAndParse(t *testing.T) {
	for _, c := range ordered {
		if s, e := value.Show(c.v); s != c.written || e != 0 {
			t.Error(c.written, s, e)
		}
		if v, e := value.Parse(c.written); v != c.v || e != 0 {
			t.Error(c.written, v, e)
		}
	}
	for i, v := range wrong {
		if s, e := value.Show(v); s != "" || e != api.ErrArg {
			t.Error(i, s, e)
		}
	}
}

func TestParseRejects(t *testing.T) {
	for _, s := range []string{
		"", " ", "-", "+1", "-0", "00", "01", "-01", "1 ", " 1", "1_0", "0x1", "1.0", "1e3", "9223372036854775808", "-9223372036854775809",
		"18446744073709551616", "Null", "NULL", "nul", "nulll", "True", "true ", "falsE", "t", "x", "'", "'''", "'a", "a'", "'a'b'", "'a''", "'a' ", " 'a'", "''a'", "'a'''b'",
		"\"a\"", "'" + strings.Repeat("x", 1025) + "'", "'" + strings.Repeat("'", 2050) + "'", "--1", "-a", "1-",
	} {
		if v, e := value.Parse(s); v != (api.Value{}) || e != api.ErrValueText {
			t.Errorf("%q: %v %d", s, v, e)
		}
	}
	if v, e := value.Parse("'" + strings.Repeat("'", 2048) + "'"); v != text(strings.Repeat("'", 1024)) || e != 0 {
		t.Error(len(v.S), e)
	}
}

// Any text is rejected, or is the representation of what it is parsed to.
func TestOneRepresentationAValue(t *testing.T) {
	r := rand.New(rand.NewSource(1))
	const letters = "'''ab01- tnrue"
	for range 200000 {
		b := make([]byte, r.Intn(7))
		for i := range b {
			b[i] = letters[r.Intn(len(letters))]
		}
		v, e := value.Parse(string(b))
		if e != 0 {
			continue
		}
		if s, e := value.Show(v); s != string(b) || e != 0 || !value.Right(v) {
			t.Fatalf("%q %v", b, v)
		}
	}
}
