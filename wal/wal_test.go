package wal_test

import (
	"fmt"
	"math"
	"math/rand"
	"slices"
	"strings"
	"testing"

	"stackyard/api"
	"stackyard/disk"
	"stackyard/wal"
	"stackyard/wire"
)

func fresh(t *testing.T, room int) *disk.Disk {
	t.Helper()
	d, e := disk.New(room)
	if e != 0 {
		t.Fatal(e)
	}
	return d
}

func open(t *testing.T, d *disk.Disk) *wal.Wal {
	t.Helper()
	w, e := wal.Open(d)
	if e != 0 || w == nil {
		t.Fatal(e)
	}
	return w
}

func ok(t *testing.T, errors ...api.Errno) {
	t.Helper()
	for i, e := range errors {
		if e != 0 {
			t.Fatal(i, e)
		}
	}
}

func entry(i, term int64, data string) api.Entry {
	return api.Entry{Index: i, Term: term, Data: data}
}

// told is all that a log tells.
func told(w *wal.Wal) string {
	short := func(s string) string { return fmt.Sprintf("%d%q", len(s), s[:min(9, len(s))]) }
	snap := w.Snap()
	s := fmt.Sprintf("%v %d %d %s %d", w.State(), snap.Index, snap.Term, short(snap.Data), w.Last())
	for n := range w.Last() - snap.Index {
		x, found := w.Entry(snap.Index + 1 + n)
		term, also := w.TermAt(snap.Index + 1 + n)
		if !found || !also || term != x.Term {
			s += " lost"
		}
		s += fmt.Sprintf(" %d:%d:%s", x.Index, x.Term, short(x.Data))
	}
	return s
}

func word(n uint32) string {
	return string([]byte{byte(n), byte(n >> 8), byte(n >> 16), byte(n >> 24)})
}

func record(payload string) string {
	head := word(uint32(len(payload)))
	return head + word(wire.Sum([]byte(head))) + payload + word(wire.Sum([]byte(payload)))
}

func numbers(kind byte, l ...uint64) string {
	b := []byte{kind}
	for _, n := range l {
		b = wire.Number(b, n)
	}
	return string(b)
}

func data(s string) string {
	b, _ := wire.Text(nil, s)
	return string(b)
}

func stateRecord(term, vote uint64) string        { return record(numbers(1, term, vote)) }
func entryRecord(i, term uint64, s string) string { return record(numbers(2, i, term) + data(s)) }
func cutRecord(i uint64) string                   { return record(numbers(3, i)) }
func snapRecord(i, term uint64, s string) string  { return record(numbers(4, i, term) + data(s)) }

// with is a disk with a file of these bytes.
func with(t *testing.T, s string) *disk.Disk {
	t.Helper()
	d := fresh(t, 4000000)
	ok(t, d.Create("wal"), d.Append("wal", s), d.Sync("wal"), d.Dir())
	return d
}

func TestExamples(t *testing.T) {
	d := fresh(t, 1000)
	w := open(t, d)
	if told(w) != `{0 0} 0 0 0"" 0` {
		t.Error(told(w))
	}
	ok(t, w.SetState(api.State{Term: 2, Vote: 1}), w.Append(entry(1, 1, "a"), entry(2, 2, "b")), w.Cut(2))
	d = d.Crash(0)
	w = open(t, d)
	if w.State() != (api.State{Term: 2, Vote: 1}) || w.Last() != 1 {
		t.Error(told(w))
	}
	for i, e := range []api.Errno{w.Append(entry(3, 2, "c")), w.SetState(api.State{Term: 1}), w.Cut(2)} {
		if e != api.ErrArg {
			t.Error(i, e)
		}
	}
	ok(t, w.SetSnap(api.Snap{Index: 5, Term: 2, Data: "x"}))
	if w.Last() != 5 || w.Snap() != (api.Snap{Index: 5, Term: 2, Data: "x"}) || w.State() != (api.State{Term: 2, Vote: 1}) {
		t.Error(told(w))
	}
	if term, found := w.TermAt(5); term != 2 || !found {
		t.Error(term, found)
	}
	for _, i := range []int64{4, 6, 1, 0, -1, math.MinInt64, math.MaxInt64} {
		if term, found := w.TermAt(i); term != 0 || found {
			t.Error(i, term, found)
		}
	}
	for _, i := range []int64{4, 5, 6, 1, 0, -1, math.MinInt64, math.MaxInt64} {
		if x, found := w.Entry(i); x != (api.Entry{}) || found {
			t.Error(i, x, found)
		}
	}
}

func TestNil(t *testing.T) {
	if w, e := wal.Open(nil); w != nil || e != api.ErrNil {
		t.Error(e)
	}
	var w *wal.Wal
	for i, e := range []api.Errno{w.SetState(api.State{Term: -1}), w.Append(entry(9, 9, "")), w.Cut(-1), w.SetSnap(api.Snap{Index: -1})} {
		if e != api.ErrNil {
			t.Error(i, e)
		}
	}
	x, found := w.Entry(0)
	term, also := w.TermAt(0)
	if w.State() != (api.State{}) || w.Snap() != (api.Snap{}) || w.Last() != 0 || x != (api.Entry{}) || found || term != 0 || also {
		t.Error("there is something")
	}
}

func TestSetState(t *testing.T) {
	for _, c := range []struct {
		old, next api.State
		e         api.Errno
	}{
		{api.State{}, api.State{}, 0}, {api.State{}, api.State{Vote: 3}, 0}, {api.State{Term: 2}, api.State{Term: 2, Vote: 7}, 0}, {api.State{Term: 2, Vote: 1}, api.State{Term: 2, Vote: 1}, 0}, {api.State{Term: 2, Vote: 1}, api.State{Term: 3}, 0}, {api.State{Term: 2, Vote: 1}, api.State{Term: 3, Vote: 2}, 0},
		{api.State{Term: 2, Vote: 1}, api.State{Term: math.MaxInt64, Vote: 7}, 0}, {api.State{Term: 2, Vote: 1}, api.State{Term: 2, Vote: 2}, api.ErrArg}, {api.State{Term: 2, Vote: 1}, api.State{Term: 2}, api.ErrArg}, {api.State{Term: 2, Vote: 1}, api.State{Term: 1, Vote: 1}, api.ErrArg}, {api.State{Term: 2}, api.State{Term: 1}, api.ErrArg},
		{api.State{}, api.State{Term: -1}, api.ErrArg}, {api.State{}, api.State{Term: 1, Vote: -1}, api.ErrArg}, {api.State{}, api.State{Term: 1, Vote: 8}, api.ErrArg}, {api.State{}, api.State{Term: math.MinInt64}, api.ErrArg}, {api.State{Term: 2}, api.State{Term: 2, Vote: 8}, api.ErrArg},
	} {
		d := fresh(t, 1000)
		w := open(t, d)
		ok(t, w.SetState(c.old))
		want := c.old
		if c.e == 0 {
			want = c.next
		}
		if e := w.SetState(c.next); e != c.e || w.State() != want {
			t.Error(c, e, w.State())
		}
		if again := open(t, d.Crash(0)); again.State() != want || told(again) != told(w) {
			t.Error(c, told(again))
		}
	}
}

func TestAppendAndCut(t *testing.T) {
	d := fresh(t, 2000000)
	w := open(t, d)
	big := strings.Repeat("x", 262144)
	for i, l := range [][]api.Entry{
		{entry(0, 1, "")}, {entry(2, 1, "")}, {entry(-1, 1, "")}, {entry(1, 0, "")}, {entry(1, -1, "")}, {entry(1, 1, big+"x")}, {entry(1, 1, ""), entry(1, 1, "")}, {entry(1, 1, ""), entry(3, 1, "")}, {entry(1, 2, ""), entry(2, 1, "")}, {entry(1, 1, ""), entry(2, 1, big+"x")}, {entry(math.MaxInt64, 1, "")}, {entry(math.MinInt64, 1, "")},
	} {
		if e := w.Append(l...); e != api.ErrArg || w.Last() != 0 {
			t.Error(i, e, told(w))
		}
	}
	ok(t, w.Append(), w.Append(entry(1, 1, ""), entry(2, 1, "b"), entry(3, 5, big)), w.Append(entry(4, math.MaxInt64, "d")))
	if e := w.Append(entry(5, 5, "")); e != api.ErrArg {
		t.Error(e)
	}
	if x, found := w.Entry(3); x != entry(3, 5, big) || !found {
		t.Error(found)
	}
	for i, want := range []int64{0, 1, 1, 5, math.MaxInt64} {
		if term, found := w.TermAt(int64(i)); term != want || !found {
			t.Error(i, term, found)
		}
	}
	if again := open(t, d.Crash(0)); told(again) != told(w) {
		t.Error(told(again))
	}
	for _, i := range []int64{0, 5, -1, math.MinInt64, math.MaxInt64} {
		if e := w.Cut(i); e != api.ErrArg || w.Last() != 4 {
			t.Error(i, e)
		}
	}
	ok(t, w.Cut(3))
	if w.Last() != 2 || w.Append(entry(4, 9, "")) != api.ErrArg {
		t.Error(told(w))
	}
	ok(t, w.Append(entry(3, 1, "new")), w.Cut(2), w.Append(entry(2, 2, "c")))
	if again := open(t, d.Crash(0)); told(again) != told(w) || w.Last() != 2 {
		t.Error(told(again), told(w))
	}
	ok(t, w.Cut(1))
	if w.Last() != 0 || w.Cut(1) != api.ErrArg || told(open(t, d.Crash(0))) != told(w) {
		t.Error(told(w))
	}
}

func TestSetSnap(t *testing.T) {
	build := func() (*disk.Disk, *wal.Wal) {
		d := fresh(t, 2000000)
		w := open(t, d)
		ok(t, w.SetState(api.State{Term: 7, Vote: 2}), w.SetSnap(api.Snap{Index: 2, Term: 3, Data: "old"}), w.Append(entry(3, 3, "c"), entry(4, 5, "d"), entry(5, 5, "e")))
		return d, w
	}
	for i, c := range []struct {
		s    api.Snap
		last int64
	}{
		{api.Snap{Index: 3, Term: 3, Data: "x"}, 5}, {api.Snap{Index: 4, Term: 5}, 5}, {api.Snap{Index: 5, Term: 5}, 5}, {api.Snap{Index: 3, Term: 4}, 3}, {api.Snap{Index: 4, Term: 3}, 4}, {api.Snap{Index: 4, Term: 6}, 4}, {api.Snap{Index: 6, Term: 5}, 6}, {api.Snap{Index: 100, Term: 3, Data: strings.Repeat("y", 262144)}, 100},
		{api.Snap{Index: math.MaxInt64, Term: math.MaxInt64}, math.MaxInt64},
	} {
		d, w := build()
		ok(t, w.SetSnap(c.s))
		if w.Snap() != c.s || w.Last() != c.last || w.State() != (api.State{Term: 7, Vote: 2}) {
			t.Error(i, told(w))
		}
		if x, found := w.Entry(5); found != (c.last == 5 && c.s.Index < 5) || found && x != entry(5, 5, "e") {
			t.Error(i, x, found)
		}
		if again := open(t, d.Crash(0)); told(again) != told(w) || again.Snap() != c.s {
			t.Error(i, told(again))
		}
		if c.last == math.MaxInt64 {
			if w.Append(entry(math.MinInt64, math.MaxInt64, "")) != api.ErrArg {
				t.Error("an entry behind the last index")
			}
			continue
		}
		term, _ := w.TermAt(c.last)
		ok(t, w.Append(entry(c.last+1, term, "next")))
		if again := open(t, d.Crash(0)); told(again) != told(w) {
			t.Error(i, told(again))
		}
	}
	d, w := build()
	before := told(w)
	for i, s := range []api.Snap{{Index: 2, Term: 3}, {Index: 1, Term: 3}, {Index: 3, Term: 2}, {Index: -1, Term: 9}, {Index: math.MinInt64, Term: 9}, {Index: 3, Term: -1}, {Index: 3, Term: 3, Data: strings.Repeat("y", 262145)}} {
		if e := w.SetSnap(s); e != api.ErrArg || told(w) != before || told(open(t, d.Crash(0))) != before {
			t.Error(i, e, told(w))
		}
	}
}

// The file is as the chapter says, record by record.
func TestFile(t *testing.T) {
	for i, c := range []struct {
		s, want string
	}{
		{snapRecord(0, 0, ""), `{0 0} 0 0 0"" 0`}, {snapRecord(5, 2, "xy") + stateRecord(3, 1) + entryRecord(6, 2, "a") + entryRecord(7, 9, ""), `{3 1} 5 2 2"xy" 7 6:2:1"a" 7:9:0""`}, {snapRecord(0, 0, "") + entryRecord(1, 1, "a") + entryRecord(2, 1, "b") + cutRecord(1) + entryRecord(1, 4, "z"), `{0 0} 0 0 0"" 1 1:4:1"z"`},
		{snapRecord(0, 0, "") + stateRecord(2, 1) + stateRecord(2, 3) + stateRecord(2, 0) + stateRecord(5, 7), `{5 7} 0 0 0"" 0`}, {snapRecord(4, 0, "") + entryRecord(5, 1, "") + entryRecord(6, 1, "") + cutRecord(6), `{0 0} 4 0 0"" 5 5:1:0""`}, {snapRecord(math.MaxInt64, math.MaxInt64, ""), `{0 0} 9223372036854775807 9223372036854775807 0"" 9223372036854775807`},
	} {
		for tail := range []string{"", "1234567"} {
			d := with(t, c.s+"1234567"[:tail*7])
			w := open(t, d)
			if told(w) != c.want {
				t.Error(i, told(w))
			}
			if s, _ := d.Read("wal"); !strings.HasPrefix(s, c.s) {
				t.Error(i, "the file was changed")
			}
			if again := open(t, d); told(again) != c.want {
				t.Error(i, told(again))
			}
		}
	}
	// what is written may be read again in another place
	d := fresh(t, 1000)
	w := open(t, d)
	ok(t, w.SetState(api.State{Term: 1, Vote: 3}), w.Append(entry(1, 1, "a"), entry(2, 1, "")), w.Cut(2))
	s, e := d.Read("wal")
	if again := open(t, with(t, s)); told(again) != told(w) || e != 0 || !strings.HasPrefix(s, snapRecord(0, 0, "")) {
		t.Errorf("%x", s)
	}
}

func TestOpenRejects(t *testing.T) {
	first := snapRecord(4, 3, "s")
	huge := word(1048577)
	for i, s := range []string{
		stateRecord(1, 1), entryRecord(1, 1, ""), first + first, first + stateRecord(2, 1) + stateRecord(1, 1), first + stateRecord(1, 8), first + entryRecord(6, 3, ""), first + entryRecord(4, 3, ""), first + entryRecord(5, 2, ""), snapRecord(0, 0, "") + entryRecord(1, 0, ""),
		first + entryRecord(5, 4, "") + entryRecord(6, 3, ""), first + cutRecord(4), first + cutRecord(5), first + entryRecord(5, 3, "") + cutRecord(6), first + entryRecord(5, 3, "") + cutRecord(4), first + cutRecord(0), first + record(""), first + record("\x05"), first + record("\x00"), first + record("\x01\x01"), first + record("\x01\x01\x01\x01"),
		first + record("\x01\x81\x00\x01"), first + record(numbers(1, 1<<63, 1)), first + record(numbers(1, math.MaxUint64, 1)), first + record(numbers(2, 5, 3)), first + record(numbers(2, 5, 3)+data("a")+"x"), first + record(numbers(2, 5, 3)+"\x05a"), first + record(numbers(2, 5, 1<<63)+data("")), first + record(numbers(3, 5)), first + record("\x03"),
		first + entryRecord(5, 3, strings.Repeat("x", 262145)), snapRecord(1, 1, strings.Repeat("x", 262145)), record(numbers(4, 1, 1)), record(numbers(4, 1, 1) + data("") + "\x00"), record(numbers(4, 1<<63, 1) + data("")), first + huge + word(wire.Sum([]byte(huge))), first + huge + word(wire.Sum([]byte(huge))) + strings.Repeat("x", 100),
		first + "12345678", first + "\x00\x00\x00\x00\x00\x00\x00\x00", first + "\x00\x00\x00\x00\x00\x00\x00\x00" + strings.Repeat("x", 100), first + stateRecord(1, 1)[:12] + "xxxxx",
	} {
		d := with(t, s)
		if w, e := wal.Open(d); w != nil || e != api.ErrWalForm {
			t.Error(i, e)
		}
		if left, _ := d.Read("wal"); left != s {
			t.Error(i, "the file was changed")
		}
	}
}

func someFile() string {
	return snapRecord(4, 3, "snap") + stateRecord(3, 1) + entryRecord(5, 3, "some data") + entryRecord(6, 3, "") + cutRecord(6) + stateRecord(4, 0)
}

// If one byte of the file was changed, it is rejected.
func TestChangedByte(t *testing.T) {
	s := someFile()
	for i := range len(s) {
		for x := 1; x < 256; x++ {
			b := []byte(s)
			b[i] ^= byte(x)
			if w, e := wal.Open(with(t, string(b))); w != nil || e != api.ErrWalForm {
				t.Fatal(i, x, e)
			}
		}
	}
}

// A record that announces the longest payload may be torn.
func TestLongestTail(t *testing.T) {
	head := word(1048576)
	for _, more := range []string{"", "x", strings.Repeat("x", 100000)} {
		w := open(t, with(t, someFile()+head+word(wire.Sum([]byte(head)))+more))
		if told(w) != told(open(t, with(t, someFile()))) {
			t.Error(len(more), told(w))
		}
	}
}

// Every piece of a file from the beginning has whole records, and a torn tail that is ignored, and removed later.
func TestTornTails(t *testing.T) {
	ends := map[int]string{}
	var starts []int
	s := ""
	for _, r := range []string{snapRecord(4, 3, "snap"), stateRecord(3, 1), entryRecord(5, 3, "some data"), entryRecord(6, 3, ""), cutRecord(6), stateRecord(4, 0)} {
		s += r
		ends[len(s)] = told(open(t, with(t, s)))
		starts = append(starts, len(s))
	}
	for n := starts[0]; n <= len(s); n++ {
		d := with(t, s[:n])
		w := open(t, d)
		end := starts[0]
		for _, at := range starts {
			if at <= n {
				end = at
			}
		}
		if told(w) != ends[end] {
			t.Fatal(n, told(w))
		}
		if told(open(t, d.Crash(0))) != told(w) {
			t.Fatal(n)
		}
		ok(t, w.Append(entry(w.Last()+1, 9, "new")), w.SetState(api.State{Term: 9}))
		next := d.Crash(0)
		if again := open(t, next); told(again) != told(w) || again.State().Term != 9 {
			t.Fatal(n, told(again))
		}
		if got, _ := next.Read("wal"); !strings.HasPrefix(got, s[:end]) {
			t.Fatal(n, "the records are other ones")
		}
	}
}

func TestNoSpace(t *testing.T) {
	d := fresh(t, 1000)
	w := open(t, d)
	ok(t, w.SetState(api.State{Term: 1, Vote: 1}), w.Append(entry(1, 1, "abcdefghij")))
	before, names, left := told(w), d.Names(), d.Left()
	for i, e := range []api.Errno{w.Append(entry(2, 1, strings.Repeat("x", 1000))), w.Append(entry(2, 1, ""), entry(3, 1, strings.Repeat("x", 1000))), w.SetSnap(api.Snap{Index: 1, Term: 1, Data: strings.Repeat("x", 950)}), w.SetSnap(api.Snap{Index: 9, Term: 9, Data: strings.Repeat("x", 1000)})} {
		if again := open(t, d.Crash(0)); e != api.ErrNoSpc || told(again) != before || told(w) != before || !slices.Equal(d.Names(), names) || d.Left() != left {
			t.Error(i, e, told(w), told(again), d.Names(), d.Left())
		}
	}
	ok(t, d.Create("other"), d.Append("other", strings.Repeat("x", d.Left())))
	for i, e := range []api.Errno{w.SetState(api.State{Term: 2}), w.Cut(1), w.Append(entry(2, 1, "")), w.SetSnap(api.Snap{Index: 2, Term: 1})} {
		if e != api.ErrNoSpc || told(w) != before || told(open(t, d.Crash(9, 999, 999))) != before {
			t.Error(i, e, told(w))
		}
	}
	ok(t, d.Remove("other"), w.SetSnap(api.Snap{Index: 1, Term: 1}))
	if again := open(t, d.Crash(0)); told(again) != `{1 1} 1 1 0"" 1` {
		t.Error(told(again))
	}
	if w, e := wal.Open(fresh(t, 5)); w != nil || e != api.ErrNoSpc {
		t.Error(e)
	}
}

func TestOff(t *testing.T) {
	d := fresh(t, 1000)
	w := open(t, d)
	ok(t, w.Append(entry(1, 1, "a")), d.Fuse(0))
	before := told(w)
	for i, call := range []func() api.Errno{func() api.Errno { return w.Append(entry(2, 1, "b")) }, func() api.Errno { return w.SetState(api.State{Term: 1}) }, func() api.Errno { return w.Cut(1) }, func() api.Errno { return w.SetSnap(api.Snap{Index: 1, Term: 1}) }} {
		if e := call(); e != api.ErrOff || told(w) != before {
			t.Error(i, e, told(w))
		}
	}
	if w, e := wal.Open(d); w != nil || e != api.ErrOff {
		t.Error(e)
	}
}

// step is a call.
type step struct {
	do func(w *wal.Wal) api.Errno
}

func someSteps(r *rand.Rand) []step {
	var l []step
	last, snap, term := int64(0), int64(0), int64(1)
	for range 1 + r.Intn(6) {
		switch r.Intn(4) {
		case 0:
			term++
			s := api.State{Term: term, Vote: r.Int63n(8)}
			l = append(l, step{func(w *wal.Wal) api.Errno { return w.SetState(s) }})
		case 1:
			var entries []api.Entry
			for range r.Intn(4) {
				last++
				entries = append(entries, entry(last, term, strings.Repeat("d", r.Intn(9))))
			}
			l = append(l, step{func(w *wal.Wal) api.Errno { return w.Append(entries...) }})
		case 2:
			if last > snap {
				i := snap + 1 + r.Int63n(last-snap)
				last = i - 1
				l = append(l, step{func(w *wal.Wal) api.Errno { return w.Cut(i) }})
			}
		case 3:
			snap += 1 + r.Int63n(3)
			s := api.Snap{Index: snap, Term: term, Data: strings.Repeat("s", r.Intn(9))}
			at := snap
			l = append(l, step{func(w *wal.Wal) api.Errno { return w.SetSnap(s) }})
			// whether entries are kept hangs on their terms: begin anew behind the snapshot
			if last >= at {
				l = append(l, step{func(w *wal.Wal) api.Errno {
					if w.Last() > at {
						return w.Cut(at + 1)
					}
					return 0
				}})
			}
			last = at
		}
	}
	return l
}

// after are the results that a crash in a call may leave: what was there, what the call makes of it, and for Append the first entries.
func after(t *testing.T, before, whole string, s step, rebuild func() *wal.Wal) []string {
	l := []string{before, whole}
	w := rebuild()
	first := w.Last()
	if s.do(w) == 0 && w.Last() > first {
		for i := w.Last(); i > first; i-- {
			if w.Cut(i) == 0 {
				l = append(l, told(w))
			}
		}
	}
	return l
}

// The power fails after every number of changes, and crashes keep whatever they like.
func TestCrashes(t *testing.T) {
	r := rand.New(rand.NewSource(1))
	for range 150 {
		steps := someSteps(r)
		for fuse := 0; ; fuse++ {
			d := fresh(t, 10000)
			w := open(t, d)
			ok(t, d.Fuse(fuse))
			done := 0
			for done < len(steps) {
				if e := steps[done].do(w); e != 0 {
					if e != api.ErrOff {
						t.Fatal(e)
					}
					break
				}
				done++
			}
			before := told(w)
			rebuild := func() *wal.Wal {
				w := open(t, fresh(t, 10000))
				for _, s := range steps[:done] {
					ok(t, s.do(w))
				}
				return w
			}
			may := []string{before}
			if done < len(steps) {
				whole := rebuild()
				ok(t, steps[done].do(whole))
				may = after(t, before, told(whole), steps[done], rebuild)
			}
			for range 12 {
				next := d.Crash(r.Intn(6)-1, r.Intn(60)-5, r.Intn(60)-5, r.Intn(60)-5)
				again := open(t, next)
				if !slices.Contains(may, told(again)) {
					t.Fatal(fuse, done, told(again), may)
				}
				ok(t, again.Append(entry(again.Last()+1, 1000, "more")))
				if third := open(t, next.Crash(0)); told(third) != told(again) {
					t.Fatal(told(third), told(again))
				}
			}
			if done == len(steps) {
				break
			}
		}
	}
}

// The power fails while the log is opened for the first time, or after a crash.
func TestCrashesInOpen(t *testing.T) {
	r := rand.New(rand.NewSource(2))
	for _, s := range []string{"", someFile(), someFile() + "torn", someFile() + stateRecord(9, 1)[:12]} {
		for fuse := 0; ; fuse++ {
			d, want := fresh(t, 10000), `{0 0} 0 0 0"" 0`
			if s != "" {
				d = with(t, s)
				want = told(open(t, with(t, someFile())))
			}
			ok(t, d.Fuse(fuse))
			w, e := wal.Open(d)
			if e != 0 && (w != nil || e != api.ErrOff) {
				t.Fatal(e)
			}
			for range 20 {
				if again := open(t, d.Crash(r.Intn(6)-1, r.Intn(60)-5, r.Intn(60)-5)); told(again) != want {
					t.Fatal(fuse, told(again))
				}
			}
			if e == 0 {
				break
			}
		}
	}
}
