package disk_test

import (
	"fmt"
	"maps"
	"math"
	"math/rand"
	"slices"
	"strings"
	"testing"

	"stackyard/api"
	"stackyard/disk"
)

func fresh(t *testing.T, room int) *disk.Disk {
	d, e := disk.New(room)
	if e != 0 {
		t.Fatal(e)
	}
	return d
}

// all tells what there is on a disk.
func all(d *disk.Disk) string {
	var l []string
	for _, name := range d.Names() {
		s, e := d.Read(name)
		l = append(l, fmt.Sprintf("%s=%s%s", name, s, strings.Repeat("!", int(e))))
	}
	return strings.Join(l, " ")
}

func ok(t *testing.T, errors ...api.Errno) {
	t.Helper()
	for i, e := range errors {
		if e != 0 {
			t.Fatal(i, e)
		}
	}
}

func TestNew(t *testing.T) {
	for _, room := range []int{-1, 16777217, math.MaxInt, math.MinInt} {
		if d, e := disk.New(room); d != nil || e != api.ErrArg {
			t.Error(room, e)
		}
	}
	for _, room := range []int{0, 1, 16777216} {
		if d := fresh(t, room); d.Left() != room || len(d.Names()) != 0 {
			t.Error(room)
		}
	}
}

func TestExamples(t *testing.T) {
	d := fresh(t, 10)
	ok(t, d.Create("a"), d.Append("a", "abc"), d.Sync("a"), d.Append("a", "de"))
	if s := all(d.Crash(0)); s != "" {
		t.Error(s)
	}
	ok(t, d.Dir())
	if s, e := d.Crash(0, 1).Read("a"); s != "abcd" || e != 0 {
		t.Error(s, e)
	}
	ok(t, d.Create("b"), d.Rename("b", "a"))
	if s := d.Crash(1).Names(); !slices.Equal(s, []string{"a", "b"}) {
		t.Error(s)
	}
	if s, e := d.Crash(2).Read("a"); s != "" || e != 0 {
		t.Error(s, e)
	}
	if e := d.Append("a", "12345678901"); e != api.ErrNoSpc {
		t.Error(e)
	}
	if s, e := d.Read("z"); s != "" || e != api.ErrNoFile {
		t.Error(s, e)
	}
	if e := d.Create("A"); e != api.ErrDiskName {
		t.Error(e)
	}
	ok(t, d.Fuse(1), d.Append("a", "x"))
	if e := d.Append("a", "x"); e != api.ErrOff {
		t.Error(e)
	}
}

func TestNames(t *testing.T) {
	d := fresh(t, 10)
	for _, name := range []string{"a", "0", ".", "_", "-", "wal", "s-0.9_z", strings.Repeat("x", 80)} {
		ok(t, d.Create(name), d.Append(name, ""), d.Sync(name), d.Remove(name))
	}
	ok(t, d.Create("a"))
	for _, name := range []string{"", "A", "a b", "a/b", "ä", "a\x00", "{", "`", ":", "/", ",", strings.Repeat("x", 81)} {
		_, e := d.Read(name)
		for i, e := range []api.Errno{e, d.Create(name), d.Append(name, strings.Repeat("x", 11)), d.Rename("a", name), d.Rename(name, "a"), d.Rename("zz", name), d.Remove(name), d.Sync(name), d.Turn(name, -1, 0)} {
			if e != api.ErrDiskName {
				t.Error(name, i, e)
			}
		}
	}
	_, e := d.Read("z")
	for i, e := range []api.Errno{e, d.Append("z", strings.Repeat("x", 11)), d.Rename("z", "a"), d.Rename("z", "z"), d.Remove("z"), d.Sync("z"), d.Turn("z", -1, 0)} {
		if e != api.ErrNoFile {
			t.Error(i, e)
		}
	}
	if all(d) != "a=" {
		t.Error(all(d))
	}
}

func TestNil(t *testing.T) {
	var d *disk.Disk
	_, e := d.Read("A")
	for i, e := range []api.Errno{e, d.Create("A"), d.Append("A", ""), d.Rename("A", "A"), d.Remove("A"), d.Sync("A"), d.Dir(), d.Turn("A", 0, 0), d.Fuse(-1)} {
		if e != api.ErrNil {
			t.Error(i, e)
		}
	}
	if d.Crash(1, 2) != nil || d.Left() != 0 || len(d.Names()) != 0 {
		t.Error("there is something")
	}
}

func TestRoom(t *testing.T) {
	d := fresh(t, 10)
	ok(t, d.Create("a"), d.Append("a", "1234"), d.Create("b"), d.Append("b", "12345"))
	if d.Left() != 1 || d.Append("a", "12") != api.ErrNoSpc || d.Left() != 1 {
		t.Error(d.Left())
	}
	ok(t, d.Append("a", "5"))
	if d.Left() != 0 || d.Append("b", "1") != api.ErrNoSpc {
		t.Error(d.Left())
	}
	ok(t, d.Append("b", ""), d.Rename("a", "b"))
	if d.Left() != 5 || all(d) != "b=12345" {
		t.Error(d.Left(), all(d))
	}
	ok(t, d.Create("b"))
	if d.Left() != 10 || all(d) != "b=" {
		t.Error(d.Left(), all(d))
	}
	ok(t, d.Append("b", "1234567890"), d.Remove("b"))
	if d.Left() != 10 || all(d) != "" {
		t.Error(d.Left(), all(d))
	}
}

// After a crash the files may have more bytes than there is room.
func TestMoreThanRoom(t *testing.T) {
	d := fresh(t, 10)
	ok(t, d.Create("a"), d.Append("a", "12345678"), d.Sync("a"), d.Dir(), d.Remove("a"), d.Create("b"), d.Append("b", "12345678"), d.Sync("b"), d.Dir(), d.Create("a"))
	e := d.Crash(0)
	if all(e) != "b=12345678" {
		t.Error(all(e))
	}
	d = fresh(t, 10)
	ok(t, d.Create("a"), d.Append("a", "12345678"), d.Sync("a"), d.Dir(), d.Create("b"), d.Rename("a", "c"), d.Remove("c"), d.Append("b", "123456"), d.Sync("b"))
	e = d.Crash(1)
	if all(e) != "a=12345678 b=123456" || e.Left() != -4 {
		t.Error(all(e), e.Left())
	}
	if e.Append("b", "") != api.ErrNoSpc || e.Append("b", "1") != api.ErrNoSpc {
		t.Error("there is room")
	}
	ok(t, e.Remove("a"), e.Append("b", "1"))
	if e.Left() != 3 {
		t.Error(e.Left())
	}
}

func TestRename(t *testing.T) {
	d := fresh(t, 100)
	ok(t, d.Create("a"), d.Append("a", "1"), d.Create("b"), d.Append("b", "2"), d.Rename("a", "a"))
	if all(d) != "a=1 b=2" {
		t.Error(all(d))
	}
	ok(t, d.Rename("a", "b"))
	if all(d) != "b=1" {
		t.Error(all(d))
	}
	ok(t, d.Rename("b", "c"), d.Append("c", "3"))
	if all(d) != "c=13" {
		t.Error(all(d))
	}
}

func TestTurn(t *testing.T) {
	d := fresh(t, 100)
	ok(t, d.Create("a"), d.Append("a", "abc"), d.Sync("a"), d.Append("a", "def"), d.Dir(), d.Fuse(0))
	for _, at := range []int{-1, 6, math.MaxInt, math.MinInt} {
		if e := d.Turn("a", at, 'x'); e != api.ErrArg {
			t.Error(at, e)
		}
	}
	ok(t, d.Turn("a", 0, 'x'), d.Turn("a", 5, 'y'))
	if all(d) != "a=xbcdey" || all(d.Crash(0)) != "a=xbc" || all(d.Crash(0, 9)) != "a=xbcdey" {
		t.Error(all(d), all(d.Crash(0)))
	}
	crashed := d.Crash(0, 9)
	ok(t, crashed.Turn("a", 1, 'z'))
	if all(d) != "a=xbcdey" || all(crashed) != "a=xzcdey" {
		t.Error(all(d), all(crashed))
	}
}

func TestFuse(t *testing.T) {
	changes := []func(d *disk.Disk) api.Errno{
		func(d *disk.Disk) api.Errno { return d.Create("b") }, func(d *disk.Disk) api.Errno { return d.Append("a", "x") }, func(d *disk.Disk) api.Errno { return d.Append("a", "") }, func(d *disk.Disk) api.Errno { return d.Rename("a", "b") },
		func(d *disk.Disk) api.Errno { return d.Rename("a", "a") }, func(d *disk.Disk) api.Errno { return d.Remove("a") }, func(d *disk.Disk) api.Errno { return d.Sync("a") }, func(d *disk.Disk) api.Errno { return d.Dir() },
	}
	for i, change := range changes {
		d := fresh(t, 10)
		ok(t, d.Create("a"), d.Append("a", "1"), d.Sync("a"), d.Dir(), d.Append("a", "2"))
		if e := d.Fuse(-1); e != api.ErrArg {
			t.Error(e)
		}
		ok(t, d.Fuse(0))
		// what is no change does not let the power fail
		_, e := d.Read("z")
		for j, e := range []api.Errno{e, d.Append("a", strings.Repeat("x", 11)), d.Create("A"), d.Remove("z"), d.Turn("a", 9, 0), d.Fuse(-1)} {
			if e == 0 || e == api.ErrOff {
				t.Error(i, j, e)
			}
		}
		ok(t, d.Turn("a", 1, '2'))
		if all(d) != "a=12" {
			t.Error(i, all(d))
		}
		if e := change(d); e != api.ErrOff {
			t.Error(i, e)
		}
		_, e = d.Read("A")
		for j, e := range []api.Errno{e, d.Create("A"), d.Append("A", ""), d.Rename("A", ""), d.Remove("A"), d.Sync("A"), d.Dir(), d.Turn("A", 0, 0), d.Fuse(-1), d.Fuse(5)} {
			if e != api.ErrOff {
				t.Error(i, j, e)
			}
		}
		if len(d.Names()) != 0 || d.Left() != 8 || all(d.Crash(9)) != "a=1" || all(d.Crash(9, 9)) != "a=12" {
			t.Error(i, d.Names(), d.Left(), all(d.Crash(9)))
		}
		next := d.Crash(0)
		ok(t, next.Append("a", "3"), next.Dir())
	}
	d := fresh(t, 10)
	ok(t, d.Create("a"), d.Fuse(3), d.Append("a", "1"), d.Fuse(2), d.Append("a", "1"), d.Append("a", "1"))
	if e := d.Append("a", "1"); e != api.ErrOff {
		t.Error(e)
	}
}

func TestKeep(t *testing.T) {
	d := fresh(t, 100)
	ok(t, d.Create("c"), d.Append("c", "123"), d.Create("a"), d.Append("a", "abc"), d.Sync("a"), d.Append("a", "def"), d.Create("b"), d.Append("b", "xyz"), d.Dir())
	for _, c := range []struct {
		keep []int
		want string
	}{
		{nil, "a=abc b= c="}, {[]int{1}, "a=abc b= c=1"}, {[]int{0, 2}, "a=abcde b= c="}, {[]int{-1, -5, 2}, "a=abc b=xy c="}, {[]int{9, 9, 9, 9}, "a=abcdef b=xyz c=123"}, {[]int{math.MaxInt, math.MinInt, math.MaxInt}, "a=abc b=xyz c=123"},
	} {
		if s := all(d.Crash(0, c.keep...)); s != c.want {
			t.Error(c.keep, s)
		}
	}
	// files keep their order, and those without a name count no more
	e := d.Crash(0, 9, 9, 9)
	ok(t, e.Append("c", "4"), e.Append("a", "g"), e.Remove("a"), e.Append("b", "w"), e.Dir(), e.Create("0"), e.Append("0", "z"))
	for _, c := range []struct {
		dir  int
		keep []int
		want string
	}{{0, []int{1}, "b=xyz c=1234"}, {0, []int{0, 1}, "b=xyzw c=123"}, {1, []int{0, 0, 1}, "0=z b=xyz c=123"}, {1, []int{0, 1}, "0= b=xyzw c=123"}, {math.MaxInt, []int{1, 1, 1}, "0=z b=xyzw c=1234"}, {-1, nil, "b=xyz c=123"}} {
		if s := all(e.Crash(c.dir, c.keep...)); s != c.want {
			t.Error(c.dir, c.keep, s)
		}
	}
}

// model is a disk that remembers every directory there was since the last Dir.
type model struct {
	files  []*entry
	dirs   []map[string]*entry // the durable one first, the present one last
	number int
}

type entry struct {
	number int
	data   string
	synced int
}

func (m *model) now() map[string]*entry { return m.dirs[len(m.dirs)-1] }

func (m *model) step(change func(names map[string]*entry)) {
	names := maps.Clone(m.now())
	change(names)
	m.dirs = append(m.dirs, names)
}

func (m *model) crash(dir int, keep []int) string {
	names := m.dirs[max(0, min(dir, len(m.dirs)-1))]
	l := slices.SortedFunc(maps.Keys(names), func(a, b string) int { return names[a].number - names[b].number })
	texts := map[string]string{}
	for i, name := range l {
		f := names[name]
		n := f.synced
		if i < len(keep) && keep[i] > 0 {
			n = min(len(f.data), n+keep[i])
		}
		texts[name] = f.data[:n]
	}
	var out []string
	for _, name := range slices.Sorted(maps.Keys(texts)) {
		out = append(out, name+"="+texts[name])
	}
	return strings.Join(out, " ")
}

// Random calls, and crashes after each.
func TestLikeModel(t *testing.T) {
	r := rand.New(rand.NewSource(1))
	for range 300 {
		d := fresh(t, 1000)
		m := &model{dirs: []map[string]*entry{{}}}
		for range 40 {
			a, b := string("abc"[r.Intn(3)]), string("abc"[r.Intn(3)])
			f := m.now()[a]
			want := api.OK
			if f == nil {
				want = api.ErrNoFile
			}
			var got api.Errno
			switch r.Intn(7) {
			case 0:
				got, want = d.Create(a), 0
				m.number++
				f := &entry{number: m.number}
				m.step(func(names map[string]*entry) { names[a] = f })
			case 1, 2:
				data := strings.Repeat(a, r.Intn(4))
				if got = d.Append(a, data); f != nil {
					f.data += data
				}
			case 3:
				if a == b {
					continue
				}
				if got = d.Rename(a, b); f != nil {
					m.step(func(names map[string]*entry) { delete(names, a); names[b] = f })
				}
			case 4:
				if got = d.Remove(a); f != nil {
					m.step(func(names map[string]*entry) { delete(names, a) })
				}
			case 5:
				if got = d.Sync(a); f != nil {
					f.synced = len(f.data)
				}
			case 6:
				got, want = d.Dir(), 0
				m.dirs = m.dirs[len(m.dirs)-1:]
			}
			if got != want {
				t.Fatal(got, want)
			}
			dir, keep := r.Intn(len(m.dirs)+2)-1, []int{r.Intn(5) - 1, r.Intn(5) - 1, r.Intn(5) - 1}[:r.Intn(4)]
			before := all(d)
			if s, want := all(d.Crash(dir, keep...)), m.crash(dir, keep); s != want {
				t.Fatal(dir, keep, s, want)
			}
			if s := all(d.Crash(math.MaxInt, 1000, 1000, 1000)); s != before || all(d) != before {
				t.Fatal("a crash that keeps all changes something")
			}
			if r.Intn(30) == 0 {
				crashAndGoOn(t, d, m, dir, keep)
				d = d.Crash(dir, keep...)
			}
		}
	}
}

// crashAndGoOn lets the model be what it is after the crash.
func crashAndGoOn(t *testing.T, d *disk.Disk, m *model, dir int, keep []int) {
	names := m.dirs[max(0, min(dir, len(m.dirs)-1))]
	l := slices.SortedFunc(maps.Keys(names), func(a, b string) int { return names[a].number - names[b].number })
	next := map[string]*entry{}
	crashed := d.Crash(dir, keep...)
	for i, name := range l {
		s, e := crashed.Read(name)
		ok(t, e)
		next[name] = &entry{number: i + 1, data: s, synced: len(s)}
	}
	m.number, m.dirs = len(l), []map[string]*entry{next}
}
