package net_test

import (
	"math"
	"math/rand"
	"slices"
	"strings"
	"testing"

	"stackyard/api"
	"stackyard/net"
	"stackyard/wire"
)

func msg(from, to int, data string) api.Msg { return api.Msg{From: from, To: to, Data: data} }

func fresh(t *testing.T, n int) *net.Net {
	t.Helper()
	x, e := net.New(n)
	if e != 0 {
		t.Fatal(e)
	}
	return x
}

func ok(t *testing.T, errors ...api.Errno) {
	t.Helper()
	for i, e := range errors {
		if e != 0 {
			t.Fatal(i, e)
		}
	}
}

func all(x *net.Net) (l []api.Msg) {
	for i := range x.Many() {
		m, _ := x.Look(i)
		l = append(l, m)
	}
	return l
}

func TestNew(t *testing.T) {
	for n := 1; n <= 7; n++ {
		if x := fresh(t, n); x.Many() != 0 || x.Lost() != 0 {
			t.Error(n)
		}
	}
	for _, n := range []int{0, 8, -1, math.MaxInt, math.MinInt} {
		if x, e := net.New(n); x != nil || e != api.ErrArg {
			t.Error(n, e)
		}
	}
}

func TestExamples(t *testing.T) {
	x := fresh(t, 2)
	a, b := msg(1, 2, "a"), msg(2, 1, "b")
	ok(t, x.Send(a), x.Send(b))
	if x.Many() != 2 {
		t.Error(x.Many())
	}
	if m, found := x.Take(0); m != a || !found {
		t.Error(m, found)
	}
	if m, found := x.Look(0); m != b || !found || x.Many() != 1 {
		t.Error(m, found)
	}
	ok(t, x.Cut(1, 2, true), x.Send(msg(1, 2, "c")))
	if x.Lost() != 1 || x.Many() != 1 || x.Send(msg(1, 1, "d")) != api.ErrArg {
		t.Error(x.Lost())
	}
	if s := net.Seal(""); s != "\x00\x00\x00\x00" {
		t.Errorf("%x", s)
	}
	if s, e := net.Unseal(""); s != "" || e != api.ErrNetForm {
		t.Error(s, e)
	}
}

func TestSend(t *testing.T) {
	x := fresh(t, 3)
	long := strings.Repeat("x", 600000)
	for i, m := range []api.Msg{msg(1, 1, ""), msg(0, 1, ""), msg(1, 0, ""), msg(4, 1, ""), msg(1, 4, ""), msg(-1, 2, ""), msg(2, -1, ""), msg(1, 2, long+"x"), msg(math.MaxInt, 1, ""), msg(1, math.MinInt, ""), {}} {
		if e := x.Send(m); e != api.ErrArg || x.Many() != 0 || x.Lost() != 0 {
			t.Error(i, e)
		}
	}
	ok(t, x.Send(msg(1, 2, long)), x.Send(msg(3, 1, "")))
	if l := all(x); !slices.Equal(l, []api.Msg{msg(1, 2, long), msg(3, 1, "")}) {
		t.Error(len(l))
	}
}

func TestManyMessages(t *testing.T) {
	x := fresh(t, 2)
	for range 1999 {
		ok(t, x.Send(msg(1, 2, "a")))
	}
	if !x.Copy(0) || x.Many() != 2000 || x.Copy(0) || x.Many() != 2000 || x.Lost() != 0 {
		t.Error(x.Many(), x.Lost())
	}
	ok(t, x.Send(msg(1, 2, "b")), x.Send(msg(2, 1, "b")))
	if x.Many() != 2000 || x.Lost() != 2 || x.Send(msg(1, 1, "")) != api.ErrArg || x.Lost() != 2 {
		t.Error(x.Many(), x.Lost())
	}
	ok(t, x.Cut(1, 2, true), x.Send(msg(1, 2, "")))
	if x.Lost() != 3 {
		t.Error(x.Lost())
	}
	x.Take(7)
	ok(t, x.Send(msg(2, 1, "c")))
	if m, found := x.Look(1999); m != msg(2, 1, "c") || !found || x.Lost() != 3 {
		t.Error(m, x.Lost())
	}
}

func TestCut(t *testing.T) {
	x := fresh(t, 3)
	ok(t, x.Send(msg(1, 2, "ahead")), x.Cut(1, 2, true), x.Cut(1, 2, true), x.Cut(3, 1, false), x.Send(msg(1, 2, "lost")), x.Send(msg(2, 1, "back")), x.Send(msg(1, 3, "other")), x.Cut(1, 2, false), x.Send(msg(1, 2, "again")))
	if l := all(x); !slices.Equal(l, []api.Msg{msg(1, 2, "ahead"), msg(2, 1, "back"), msg(1, 3, "other"), msg(1, 2, "again")}) || x.Lost() != 1 {
		t.Error(l, x.Lost())
	}
	for _, c := range [][2]int{{1, 1}, {0, 1}, {1, 0}, {4, 1}, {1, 4}, {-1, 2}, {math.MaxInt, 2}, {2, math.MinInt}} {
		if e := x.Cut(c[0], c[1], true); e != api.ErrArg {
			t.Error(c, e)
		}
	}
	// every link is one of its own
	for from := 1; from <= 7; from++ {
		for to := 1; to <= 7; to++ {
			if from == to {
				continue
			}
			x := fresh(t, 7)
			ok(t, x.Cut(from, to, true))
			for a := 1; a <= 7; a++ {
				for b := 1; b <= 7; b++ {
					if a != b {
						ok(t, x.Send(msg(a, b, "")))
					}
				}
			}
			if x.Lost() != 1 || x.Many() != 41 || slices.Contains(all(x), msg(from, to, "")) {
				t.Error(from, to, x.Lost())
			}
		}
	}
}

func TestTurnAndCopy(t *testing.T) {
	x := fresh(t, 2)
	ok(t, x.Send(msg(1, 2, "abc")), x.Send(msg(2, 1, "")), x.Cut(1, 2, true))
	if !x.Copy(0) || !x.Turn(0, 1, 'x') || !x.Turn(2, 2, 'y') || !x.Turn(0, 0, 'a') {
		t.Error("a change was not made")
	}
	want := []api.Msg{msg(1, 2, "axc"), msg(2, 1, ""), msg(1, 2, "aby")}
	for _, i := range []int{-1, 3, 4, math.MaxInt, math.MinInt} {
		m, found := x.Look(i)
		n, also := x.Take(i)
		if m != (api.Msg{}) || n != (api.Msg{}) || found || also || x.Copy(i) || x.Turn(i, 0, 'z') {
			t.Error(i, m, n)
		}
	}
	for _, at := range []int{-1, 3, math.MaxInt, math.MinInt} {
		if x.Turn(0, at, 'z') || x.Turn(1, at, 'z') {
			t.Error(at)
		}
	}
	if x.Turn(1, 0, 'z') || !slices.Equal(all(x), want) || x.Lost() != 0 {
		t.Error(all(x))
	}
}

func TestNil(t *testing.T) {
	var x *net.Net
	m, found := x.Look(0)
	n, also := x.Take(0)
	if x.Send(api.Msg{}) != api.ErrNil || x.Cut(0, 0, true) != api.ErrNil || x.Many() != 0 || x.Lost() != 0 || m != (api.Msg{}) || n != (api.Msg{}) || found || also || x.Copy(0) || x.Turn(0, 0, 0) {
		t.Error("there is something")
	}
}

// Messages keep their order, whichever are taken.
func TestOrder(t *testing.T) {
	r := rand.New(rand.NewSource(1))
	x := fresh(t, 4)
	var want []api.Msg
	for range 2500 {
		switch i := r.Intn(len(want) + 2); r.Intn(4) {
		case 0, 1:
			m := msg(1+r.Intn(2), 3+r.Intn(2), string(rune('a'+r.Intn(26))))
			ok(t, x.Send(m))
			want = append(want, m)
		case 2:
			m, found := x.Take(i)
			if found != (i < len(want)) || found && m != want[i] {
				t.Fatal(i, m, found)
			}
			if found {
				want = slices.Delete(want, i, i+1)
			}
		case 3:
			if x.Copy(i) != (i < len(want)) {
				t.Fatal(i)
			}
			if i < len(want) {
				want = append(want, want[i])
			}
		}
		if x.Many() != len(want) {
			t.Fatal(x.Many(), len(want))
		}
	}
	if !slices.Equal(all(x), want) {
		t.Error("the order is another one")
	}
}

func TestSeal(t *testing.T) {
	for _, s := range []string{"", "a", "abc", "\x00\x00\x00\x00", strings.Repeat("z", 5000), net.Seal("x")} {
		sum := wire.Sum([]byte(s))
		sealed := string([]byte{byte(sum), byte(sum >> 8), byte(sum >> 16), byte(sum >> 24)}) + s
		if net.Seal(s) != sealed {
			t.Errorf("%x", net.Seal(s))
		}
		if got, e := net.Unseal(sealed); got != s || e != 0 {
			t.Error(got, e)
		}
		for i := range min(len(sealed), 40) {
			for c := 1; c < 256; c++ {
				b := []byte(sealed)
				b[i] ^= byte(c)
				if got, e := net.Unseal(string(b)); got != "" || e != api.ErrNetForm {
					t.Fatal(i, c, e)
				}
			}
		}
	}
	for _, s := range []string{"", "\x00", "\x00\x00\x00", "abc", "abcd", net.Seal("abc") + "x", net.Seal("abc")[:6]} {
		if got, e := net.Unseal(s); got != "" || e != api.ErrNetForm {
			t.Errorf("%x: %q %d", s, got, e)
		}
	}
}
