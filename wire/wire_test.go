package wire_test

import (
	"bytes"
	"hash/crc32"
	"math"
	"math/rand"
	"strings"
	"testing"

	"stackyard/api"
	"stackyard/wire"
)

const longest = 1048576

// roomy has the bytes, and spare room behind them that must stay as it is.
func roomy(b ...byte) []byte {
	x := make([]byte, len(b)+32)
	copy(x, b)
	for i := len(b); i < len(x); i++ {
		x[i] = 0xee
	}
	return x[:len(b)]
}

func touched(b []byte) bool {
	for _, c := range b[len(b):cap(b)] {
		if c != 0xee {
			return true
		}
	}
	return false
}

var numbers = []struct {
	n    uint64
	want string
}{
	{0, "\x00"}, {1, "\x01"}, {127, "\x7f"}, {128, "\x80\x01"}, {300, "\xac\x02"}, {16383, "\xff\x7f"}, {16384, "\x80\x80\x01"},
	{1<<63 - 1, "\xff\xff\xff\xff\xff\xff\xff\xff\x7f"},
	{1 << 63, "\x80\x80\x80\x80\x80\x80\x80\x80\x80\x01"},
	{math.MaxUint64, "\xff\xff\xff\xff\xff\xff\xff\xff\xff\x01"},
}

func TestNumber(t *testing.T) {
	for _, c := range numbers {
		if b := wire.Number(nil, c.n); string(b) != c.want {
			t.Errorf("%d: %x", c.n, b)
		}
		b := roomy(9, 8)
		x := wire.Number(b, c.n)
		if string(x) != "\x09\x08"+c.want || touched(b) {
			t.Errorf("%d: %x", c.n, x)
		}
		x[0] = 1
		if b[0] != 9 {
			t.Error("the result shares memory with the argument")
		}
		for _, tail := range []string{"", "\x00", "\x07", "\x80", "\xff"} {
			n, at, e := wire.TakeNumber([]byte("ab"+c.want+tail), 2)
			if n != c.n || at != 2+len(c.want) || e != 0 {
				t.Errorf("%d: %d %d %d", c.n, n, at, e)
			}
		}
		for i := range len(c.want) {
			if n, at, e := wire.TakeNumber([]byte(c.want[:i]), 0); n != 0 || at != 0 || e != api.ErrWireByte {
				t.Errorf("%d: %d %d %d", c.n, n, at, e)
			}
		}
	}
}

func TestTakeNumberRejects(t *testing.T) {
	for _, s := range []string{
		"", "\x80", "\x80\x00", "\xff\x00", "\xac\x82\x00", "\x80\x80\x80\x80\x80\x80\x80\x80\x80\x00",
		"\x80\x80\x80\x80\x80\x80\x80\x80\x80\x02", "\xff\xff\xff\xff\xff\xff\xff\xff\xff\x03", "\xff\xff\xff\xff\xff\xff\xff\xff\xff\x7f",
		"\xff\xff\xff\xff\xff\xff\xff\xff\xff\x81\x00", "\x80\x80\x80\x80\x80\x80\x80\x80\x80\x81\x01", "\x80\x80\x80\x80\x80\x80\x80\x80\x80\x80\x01",
	} {
		if n, at, e := wire.TakeNumber([]byte(s), 0); n != 0 || at != 0 || e != api.ErrWireByte {
			t.Errorf("%x: %d %d %d", s, n, at, e)
		}
		if n, at, e := wire.TakeSigned([]byte(s), 0); n != 0 || at != 0 || e != api.ErrWireByte {
			t.Errorf("%x: %d %d %d", s, n, at, e)
		}
		if n, at, e := wire.TakeText([]byte(s), 0, longest); n != "" || at != 0 || e != api.ErrWireByte {
			t.Errorf("%x: %q %d %d", s, n, at, e)
		}
	}
	for _, at := range []int{-1, 3, 4, math.MinInt, math.MaxInt} {
		b := []byte{0, 0, 0}
		if n, next, e := wire.TakeNumber(b, at); n != 0 || next != 0 || e != api.ErrWireByte {
			t.Error(at, n, next, e)
		}
		if n, next, e := wire.TakeSigned(b, at); n != 0 || next != 0 || e != api.ErrWireByte {
			t.Error(at, n, next, e)
		}
		if s, next, e := wire.TakeText(b, at, 5); s != "" || next != 0 || e != api.ErrWireByte {
			t.Error(at, s, next, e)
		}
	}
	if n, at, e := wire.TakeNumber([]byte{0xac, 2, 7}, 0); n != 300 || at != 2 || e != 0 {
		t.Error(n, at, e)
	}
	if n, at, e := wire.TakeNumber([]byte{0xac, 2, 7}, 1); n != 2 || at != 2 || e != 0 {
		t.Error(n, at, e)
	}
}

// All short byte strings: what is taken is encoded as those bytes.
func TestOneEncodingANumber(t *testing.T) {
	for x := range 1 << 16 {
		b := []byte{byte(x), byte(x >> 8)}
		n, at, e := wire.TakeNumber(b, 0)
		if e == 0 && !bytes.Equal(wire.Number(nil, n), b[:at]) {
			t.Fatalf("%x", b)
		}
		if rejected := b[0] >= 0x80 && (b[1] == 0 || b[1] >= 0x80); rejected != (e == api.ErrWireByte) {
			t.Fatalf("%x", b)
		}
		s, at, e := wire.TakeSigned(b, 0)
		if e == 0 && !bytes.Equal(wire.Signed(nil, s), b[:at]) {
			t.Fatalf("%x", b)
		}
	}
}

func TestSigned(t *testing.T) {
	for _, c := range []struct {
		n    int64
		want string
	}{
		{0, "\x00"}, {-1, "\x01"}, {1, "\x02"}, {-2, "\x03"}, {-3, "\x05"}, {63, "\x7e"}, {-64, "\x7f"}, {64, "\x80\x01"}, {-65, "\x81\x01"},
		{math.MaxInt64, "\xfe\xff\xff\xff\xff\xff\xff\xff\xff\x01"}, {math.MinInt64, "\xff\xff\xff\xff\xff\xff\xff\xff\xff\x01"},
	} {
		b := roomy(3)
		if x := wire.Signed(b, c.n); string(x) != "\x03"+c.want || touched(b) {
			t.Errorf("%d: %x", c.n, x)
		}
		if n, at, e := wire.TakeSigned([]byte("a"+c.want+"\x00"), 1); n != c.n || at != 1+len(c.want) || e != 0 {
			t.Error(c.n, n, at, e)
		}
	}
	if _, _, e := wire.TakeSigned([]byte{5}, 1); e != api.ErrWireByte {
		t.Error(e)
	}
}

func TestText(t *testing.T) {
	for _, s := range []string{"", "a", "ab", "\x00\xff", strings.Repeat("x", 127), strings.Repeat("y", 128), strings.Repeat("z", longest)} {
		b := roomy(1, 2)
		x, e := wire.Text(b, s)
		want := append(wire.Number([]byte{1, 2}, uint64(len(s))), s...)
		if e != 0 || !bytes.Equal(x, want) || touched(b) {
			t.Error(len(s), e)
		}
		x[1] = 7
		if b[1] != 2 {
			t.Error("the result shares memory with the argument")
		}
		for _, most := range []int{len(s), len(s) + 1, math.MaxInt} {
			if got, at, e := wire.TakeText(append(want, 0), 2, most); got != s || at != len(want) || e != 0 {
				t.Error(len(s), at, e)
			}
			if got, at, e := wire.TakeText(want, 2, most); got != s || at != len(want) || e != 0 {
				t.Error(len(s), at, e)
			}
		}
		for _, most := range []int{len(s) - 1, -1, math.MinInt} {
			if got, at, e := wire.TakeText(want, 2, most); got != "" || at != 0 || e != api.ErrWireByte {
				t.Error(len(s), most, at, e)
			}
		}
		if len(s) > 0 {
			if got, at, e := wire.TakeText(want[:len(want)-1], 2, longest); got != "" || at != 0 || e != api.ErrWireByte {
				t.Error(len(s), at, e)
			}
		}
	}
	if b, e := wire.Text(roomy(1), strings.Repeat("z", longest+1)); len(b) != 0 || e != api.ErrArg {
		t.Error(len(b), e)
	}
	if b, e := wire.Text(nil, "ab"); string(b) != "\x02ab" || e != 0 {
		t.Error(b, e)
	}
	if _, _, e := wire.TakeText([]byte{2, 'a', 'b'}, 0, 1); e != api.ErrWireByte {
		t.Error(e)
	}
	if s, at, e := wire.TakeText([]byte{1, 2, 'a', 'b', 'c'}, 1, 2); s != "ab" || at != 4 || e != 0 {
		t.Error(s, at, e)
	}
}

func TestTakeTextTooLong(t *testing.T) {
	b := append(wire.Number(nil, longest+1), make([]byte, longest+1)...)
	if s, at, e := wire.TakeText(b, 0, math.MaxInt); s != "" || at != 0 || e != api.ErrWireByte {
		t.Error(len(s), at, e)
	}
	for _, n := range []uint64{1 << 31, 1 << 32, 1<<63 - 1, 1 << 63, math.MaxUint64} {
		if s, at, e := wire.TakeText(append(wire.Number(nil, n), 0, 0), 0, math.MaxInt); s != "" || at != 0 || e != api.ErrWireByte {
			t.Error(n, len(s), at, e)
		}
	}
}

func TestSum(t *testing.T) {
	if x := wire.Sum(); x != 0 {
		t.Error(x)
	}
	if x := wire.Sum([]byte("123456789")); x != 0xE3069283 {
		t.Errorf("%x", x)
	}
	if x := wire.Sum([]byte("1234"), nil, []byte("56789"), []byte{}); x != 0xE3069283 {
		t.Errorf("%x", x)
	}
	r := rand.New(rand.NewSource(1))
	castagnoli := crc32.MakeTable(crc32.Castagnoli)
	for n := range 300 {
		b := make([]byte, n)
		r.Read(b)
		want := crc32.Checksum(b, castagnoli)
		cut := r.Intn(n + 1)
		if wire.Sum(b) != want || wire.Sum(b[:cut], b[cut:]) != want {
			t.Fatal(n, cut)
		}
	}
}

// A sum tells every change of one byte.
func TestSumTellsOneByte(t *testing.T) {
	b := []byte("what was said\x00\xff")
	sum := wire.Sum(b)
	for i := range b {
		for c := range 256 {
			x := bytes.Clone(b)
			x[i] = byte(c)
			if (wire.Sum(x) == sum) != (x[i] == b[i]) {
				t.Fatal(i, c)
			}
		}
	}
}
