package catalog_test

import (
	"math"
	"math/rand"
	"slices"
	"strings"
	"testing"

	"stackyard/api"
	"stackyard/catalog"
	"stackyard/schema"
	"stackyard/segment"
	"stackyard/wire"
)

func num(n int64) api.Value { return api.Value{Kind: api.KInt, N: n} }

var one = []api.Column{{Name: "a", Kind: api.KInt}}

var two = []api.Column{{Name: "a", Kind: api.KInt}, {Name: "b", Kind: api.KText, Null: true}}

func rows(l ...int64) (out []api.Row) {
	for _, n := range l {
		out = append(out, api.Row{num(n)})
	}
	return out
}

func ok(t *testing.T, e api.Errno) {
	t.Helper()
	if e != 0 {
		t.Fatal(e)
	}
}

func create(t *testing.T, cols []api.Column) string {
	t.Helper()
	s, e := catalog.Create(cols)
	ok(t, e)
	return s
}

func ingest(t *testing.T, client, number int64, l ...int64) string {
	t.Helper()
	s, e := catalog.Ingest(client, number, one, rows(l...))
	ok(t, e)
	return s
}

func data(t *testing.T, l ...int64) string {
	t.Helper()
	s, e := segment.Write(one, rows(l...))
	ok(t, e)
	return s
}

func merge(t *testing.T, data string, names ...string) string {
	t.Helper()
	s, e := catalog.Merge(names, data)
	ok(t, e)
	return s
}

// apply executes a command that must come to this, with a file of this data or none.
func apply(t *testing.T, c *catalog.Catalog, cmd string, code api.Errno, n int64, file string) {
	t.Helper()
	done, files := c.Apply(cmd)
	if done != (api.Done{Code: code, N: n}) {
		t.Error(done)
	}
	var want []api.File
	if file != "" {
		want = []api.File{{Name: segment.Name(file), Data: file}}
	}
	if !slices.Equal(files, want) {
		t.Error(len(files), "files")
	}
}

func TestCommands(t *testing.T) {
	if s := create(t, one); s != "\x01\x01\x01a\x01\x00" {
		t.Errorf("%x", s)
	}
	if s := ingest(t, 7, 300, 5, -1); s != "\x02\x07\xac\x02\x01\x01a\x01\x00\x02\x01\x0a\x01\x01" {
		t.Errorf("%x", s)
	}
	name := strings.Repeat("n", 64)
	if s := merge(t, "data", name, name); s != "\x03\x02\x40"+name+"\x40"+name+"\x04data" {
		t.Errorf("%x", s)
	}
	ingest(t, 0, 1, 1)
	ingest(t, 1<<62, 1<<62, 1)
	for i, c := range []struct {
		client, number int64
		cols           []api.Column
		rows           []api.Row
		e              api.Errno
	}{
		{-1, 1, nil, nil, api.ErrArg}, {1<<62 + 1, 1, one, rows(1), api.ErrArg}, {1, 0, nil, rows(1), api.ErrArg}, {1, -1, one, rows(1), api.ErrArg}, {1, 1<<62 + 1, one, rows(1), api.ErrArg}, {1, 1, nil, nil, api.ErrArg}, {math.MinInt64, math.MaxInt64, one, rows(1), api.ErrArg},
		{1, 1, nil, rows(1), api.ErrSchema}, {1, 1, append(one[:1:1], one[0]), rows(1), api.ErrSchema}, {1, 1, two, rows(1), api.ErrRow}, {1, 1, one, make([]api.Row, 1), api.ErrRow}, {1, 1, one, slices.Repeat(rows(1), 1025), api.ErrRow}, {1, 1, one, slices.Repeat(rows(1), 1024), 0},
	} {
		if s, e := catalog.Ingest(c.client, c.number, c.cols, c.rows); e != c.e || e != 0 && s != "" {
			t.Error(i, e)
		}
	}
	for i, cols := range [][]api.Column{nil, {{Name: "A", Kind: 1}}, {one[0], one[0]}} {
		if s, e := catalog.Create(cols); s != "" || e != api.ErrSchema {
			t.Error(i, e)
		}
	}
	for i, c := range []struct {
		names []string
		data  string
		e     api.Errno
	}{
		{nil, "", api.ErrArg}, {[]string{name}, "", api.ErrArg}, {slices.Repeat([]string{name}, 257), "", api.ErrArg}, {slices.Repeat([]string{name}, 256), "", 0}, {[]string{name, name[1:]}, "", api.ErrArg}, {[]string{name + "n", name}, "", api.ErrArg}, {[]string{name, name}, strings.Repeat("x", 262145), api.ErrArg},
		{[]string{name, name}, strings.Repeat("x", 262144), api.ErrMany}, {[]string{"", ""}, strings.Repeat("x", 262144), api.ErrArg}, {[]string{name, name}, strings.Repeat("x", 262144-135), 0}, {[]string{name, name}, strings.Repeat("x", 262144-134), api.ErrMany}, {[]string{name, strings.Repeat("n", 2000000)}, "", api.ErrArg},
	} {
		if s, e := catalog.Merge(c.names, c.data); e != c.e || e != 0 && s != "" {
			t.Error(i, len(s), e)
		}
	}
}

func TestLongIngest(t *testing.T) {
	cols := []api.Column{{Name: "a", Kind: api.KText}}
	build := func(n, last int) []api.Row {
		l := slices.Repeat([]api.Row{{{Kind: api.KText, S: strings.Repeat("x", 1024)}}}, n)
		return append(l, api.Row{{Kind: api.KText, S: strings.Repeat("x", last)}})
	}
	// 10 bytes, and for each row 3 more than its text has
	s, e := catalog.Ingest(1, 1, cols, build(255, 262144-10-255*1027-3))
	if len(s) != 262144 || e != 0 {
		t.Fatal(len(s), e)
	}
	if s, e := catalog.Ingest(1, 1, cols, build(255, 262144-10-255*1027-2)); s != "" || e != api.ErrMany {
		t.Error(len(s), e)
	}
	c := catalog.New()
	apply(t, c, create(t, cols), 0, 0, "")
	if done, _ := c.Apply(s); done != (api.Done{N: 256}) {
		t.Error(done)
	}
}

func TestExample(t *testing.T) {
	c := catalog.New()
	if len(c.Cols()) != 0 || len(c.Parts()) != 0 || c.Snapshot() != "\x00\x00\x00" {
		t.Error("there is something")
	}
	apply(t, c, ingest(t, 9, 1, 5), api.ErrSchema, 0, "")
	apply(t, c, create(t, one), 0, 0, "")
	apply(t, c, create(t, one), api.ErrArg, 0, "")
	apply(t, c, create(t, two), api.ErrArg, 0, "")
	a, b := data(t, 5, 6), data(t, 8)
	apply(t, c, ingest(t, 7, 1, 5, 6), 0, 2, a)
	apply(t, c, ingest(t, 7, 1, 5, 6), 0, 2, "")
	apply(t, c, ingest(t, 7, 2, 8), 0, 3, b)
	apply(t, c, ingest(t, 7, 1, 9), api.ErrArg, 0, "")
	if n, done := c.Client(7); n != 2 || done != (api.Done{N: 3}) {
		t.Error(n, done)
	}
	if n, done := c.Client(9); n != 1 || done != (api.Done{Code: api.ErrSchema}) {
		t.Error(n, done)
	}
	for _, id := range []int64{0, 8, -1, math.MaxInt64} {
		if n, done := c.Client(id); n != 0 || done != (api.Done{}) {
			t.Error(id, n, done)
		}
	}
	parts := []api.Part{{Name: segment.Name(a), Rows: 2}, {Name: segment.Name(b), Rows: 1}}
	if !slices.Equal(c.Parts(), parts) || !slices.Equal(c.Cols(), one) {
		t.Error(c.Parts())
	}
	want := "\x01\x01\x01a\x01\x00\x02\x40" + parts[0].Name + "\x02\x40" + parts[1].Name + "\x01\x02\x07\x02\x00\x03\x09\x01\x32\x00"
	if c.Snapshot() != want {
		t.Errorf("%x", c.Snapshot())
	}
	apply(t, c, merge(t, data(t, 5, 6, 8), parts[0].Name, parts[1].Name), 0, 1, data(t, 5, 6, 8))
	apply(t, c, "", api.ErrCatForm, 0, "")
	if !slices.Equal(c.Parts(), []api.Part{{Name: segment.Name(data(t, 5, 6, 8)), Rows: 3}}) {
		t.Error(c.Parts())
	}
	// results are new memory
	c.Parts()[0].Rows = 99
	c.Cols()[0].Name = "z"
	if c.Parts()[0].Rows != 3 || c.Cols()[0].Name != "a" {
		t.Error("a result is shared")
	}
}

func TestIngestStoresErrors(t *testing.T) {
	c := catalog.New()
	apply(t, c, create(t, two), 0, 0, "")
	apply(t, c, ingest(t, 7, 5, 1), api.ErrSchema, 0, "")
	good, e := catalog.Ingest(7, 5, two, []api.Row{{num(1), {}}})
	ok(t, e)
	apply(t, c, good, api.ErrSchema, 0, "")
	if n, done := c.Client(7); n != 5 || done != (api.Done{Code: api.ErrSchema}) || len(c.Parts()) != 0 {
		t.Error(n, done)
	}
	good, _ = catalog.Ingest(7, 6, two, []api.Row{{num(1), {}}})
	if done, files := c.Apply(good); done != (api.Done{N: 1}) || len(files) != 1 {
		t.Error(done)
	}
	apply(t, c, ingest(t, 7, 5, 1), api.ErrArg, 0, "")
	null := slices.Clone(two)
	null[0].Null = true
	other, _ := catalog.Ingest(8, 1, null, []api.Row{{num(1), {}}})
	apply(t, c, other, api.ErrSchema, 0, "")
}

func TestManyClients(t *testing.T) {
	c := catalog.New()
	apply(t, c, create(t, one), 0, 0, "")
	for i := range int64(64) {
		apply(t, c, ingest(t, i*3, 1, 1), 0, i+1, data(t, 1))
	}
	before := c.Snapshot()
	apply(t, c, ingest(t, 1, 1, 1), api.ErrMany, 0, "")
	if n, done := c.Client(1); n != 0 || done != (api.Done{}) || c.Snapshot() != before {
		t.Error(n, done)
	}
	apply(t, c, ingest(t, 63, 2, 1), 0, 65, data(t, 1))
	apply(t, c, ingest(t, 0, 1, 9), 0, 1, "")
}

func TestManyParts(t *testing.T) {
	c := catalog.New()
	apply(t, c, create(t, one), 0, 0, "")
	for i := range int64(256) {
		apply(t, c, ingest(t, 1, i+1, i), 0, i+1, data(t, i))
	}
	apply(t, c, ingest(t, 1, 257, 5), api.ErrMany, 0, "")
	if n, done := c.Client(1); n != 257 || done != (api.Done{Code: api.ErrMany}) || len(c.Parts()) != 256 {
		t.Error(n, done)
	}
	apply(t, c, ingest(t, 1, 257, 5), api.ErrMany, 0, "")
	var names []string
	var all []int64
	for i, part := range c.Parts() {
		names, all = append(names, part.Name), append(all, int64(i))
	}
	apply(t, c, merge(t, data(t, all...), names...), 0, 1, data(t, all...))
	apply(t, c, ingest(t, 1, 258, 5), 0, 257, data(t, 5))
}

func TestMerge(t *testing.T) {
	build := func() (*catalog.Catalog, []string) {
		c := catalog.New()
		apply(t, c, create(t, one), 0, 0, "")
		var names []string
		for i, n := range []int64{1, 2, 1, 2, 3} {
			apply(t, c, ingest(t, 7, int64(i+1), n), 0, int64(i+1), data(t, n))
			names = append(names, segment.Name(data(t, n)))
		}
		return c, names
	}
	_, n := build()
	none := strings.Repeat("0", 64)
	other, _ := segment.Write(two, []api.Row{{num(1), {}}, {num(2), {}}})
	for i, cmd := range []string{
		merge(t, data(t, 1, 2), n[0], n[4]), merge(t, data(t, 1, 2), n[4], n[3]), merge(t, data(t, 1, 2), none, n[0]), merge(t, data(t, 1, 2), n[4], n[0]), merge(t, data(t, 1), n[0], n[1]), merge(t, data(t, 1, 2, 3), n[0], n[1]), merge(t, "", n[0], n[1]), merge(t, "abc", n[0], n[1]), merge(t, other, n[0], n[1]), merge(t, data(t), n[0], n[1]),
		merge(t, data(t, 1, 2, 1, 2, 3, 1), n[0], n[1], n[2], n[3], n[4], n[0]), merge(t, data(t, 1, 2)+"x", n[0], n[1]), merge(t, data(t, 1, 1), n[0], n[0]),
	} {
		c, _ := build()
		before := c.Snapshot()
		apply(t, c, cmd, api.ErrArg, 0, "")
		if c.Snapshot() != before {
			t.Error(i, "something has changed")
		}
	}
	// the first place counts; the content is not asked for
	c, _ := build()
	apply(t, c, merge(t, data(t, 8, 9), n[0], n[1]), 0, 4, data(t, 8, 9))
	if l := c.Parts(); l[0] != (api.Part{Name: segment.Name(data(t, 8, 9)), Rows: 2}) || l[1].Name != n[0] || l[3].Name != n[4] {
		t.Error(l)
	}
	apply(t, c, merge(t, data(t, 1, 2), n[0], n[1]), 0, 3, data(t, 1, 2))
	apply(t, c, merge(t, data(t, 1, 2, 3), segment.Name(data(t, 1, 2)), n[4]), 0, 2, data(t, 1, 2, 3))
	if _, done := c.Client(7); done.N != 5 {
		t.Error(done)
	}
	apply(t, catalog.New(), merge(t, data(t, 1, 2), n[0], n[1]), api.ErrArg, 0, "")
}

func TestApplyRejects(t *testing.T) {
	c := catalog.New()
	apply(t, c, create(t, one), 0, 0, "")
	before := c.Snapshot()
	cr, in, name := create(t, one), ingest(t, 7, 1, 5), strings.Repeat("n", 64)
	me := merge(t, "data", name, name)
	number := func(l ...uint64) string {
		var b []byte
		for _, n := range l {
			b = wire.Number(b, n)
		}
		return string(b)
	}
	schemaCode, _ := schema.Lay(nil, one)
	tail := string(schemaCode) + "\x01\x01\x0a"
	l := []string{
		"", "\x00", "\x04", "\xff", "\x01", "\x02", "\x03", "\x01\x00", cr + "\x00", in + "\x00", me + "\x00", "\x01" + in[1:], "\x02\x07\x00" + tail, "\x02\x07\x01" + string(schemaCode) + "\x00", "\x02" + number(1<<62+1, 1) + tail, "\x02" + number(1, 1<<62+1) + tail, "\x02" + number(math.MaxUint64, 1) + tail, "\x02\x87\x00\x01" + tail,
		"\x02\x07\x01" + string(schemaCode) + "\x01\x02\x01", "\x02\x07\x01\x00" + "\x01\x01\x0a", "\x03\x00\x00", "\x03\x01\x40" + name + "\x04data", "\x03\x02\x40" + name + "\x3f" + name[1:] + "\x04data", "\x03\x02\x40" + name + "\x41" + name + "n\x04data", "\x03\x02\x40" + name + "\x40" + name + "\x05data", "\x03" + number(257) + strings.Repeat("\x40"+name, 257) + "\x00",
		"\x03" + number(math.MaxUint64), me + strings.Repeat("x", 262144),
	}
	for _, s := range []string{cr, in, me} {
		for i := range len(s) {
			l = append(l, s[:i])
		}
	}
	for i, s := range l {
		apply(t, c, s, api.ErrCatForm, 0, "")
		if t.Failed() || c.Snapshot() != before {
			t.Fatal(i)
		}
	}
	apply(t, c, "\x02"+number(1<<62, 1<<62)+tail, 0, 1, data(t, 5))
}

func TestNil(t *testing.T) {
	var c *catalog.Catalog
	for _, cmd := range []string{"", create(t, one), ingest(t, 1, 1, 1)} {
		apply(t, c, cmd, api.ErrNil, 0, "")
	}
	n, done := c.Client(1)
	if len(c.Cols()) != 0 || len(c.Parts()) != 0 || n != 0 || done != (api.Done{}) || c.Snapshot() != "" {
		t.Error("there is something")
	}
}

func TestLoad(t *testing.T) {
	name := "\x40" + strings.Repeat("n", 64)
	col := "\x01\x01\x01a\x01\x00"
	big := string(wire.Number(nil, 1<<62))
	more := string(wire.Number(nil, 1<<62+1))
	var clients, parts string
	for i := range 65 {
		clients += string([]byte{byte(i), 1, 0, 0})
	}
	parts = strings.Repeat(name+"\x01", 257)
	for i, s := range []string{
		"\x00\x00\x00", col + "\x00\x00", col + "\x01" + name + "\x01\x00", col + "\x02" + name + "\x80\x08" + name + "\x01\x00", "\x00\x00\x01\x00\x01\x00\x00", col + "\x00\x02" + "\x00" + big + "\xe8\x07" + big + big + "\x01\x00\x00", "\x00\x00\x40" + clients[:256], col + "\x80\x02" + parts[:66*256] + "\x00",
	} {
		c, e := catalog.Load(s)
		if e != 0 || c.Snapshot() != s {
			t.Error(i, e)
		}
	}
	for i, s := range []string{
		"", "\x00", "\x00\x00", "\x00\x00\x00\x00", "\x02\x00\x00", "\x01\x00\x00", "\x01\x00\x00\x00", col, col + "\x00", "\x00\x01" + name + "\x01\x00", col + "\x01" + name + "\x00\x00", col + "\x01" + name + "\x81\x08\x00", col + "\x01\x3f" + name[2:] + "\x01\x00", col + "\x01\x41" + name[1:] + "n\x01\x00", col + "\x01" + name + "\x01",
		"\x00\x00\x01" + more + "\x01\x00\x00", "\x00\x00\x01\x00" + more + "\x00\x00", "\x00\x00\x01\x00\x00\x00\x00", "\x00\x00\x01\x00\x01\xe9\x07\x00", "\x00\x00\x01\x00\x01\x00" + more, "\x00\x00\x02\x01\x01\x00\x00\x00\x01\x00\x00", "\x00\x00\x02\x01\x01\x00\x00\x01\x01\x00\x00", "\x00\x00\x41" + clients, "\x00\x00\x01\x80\x00\x01\x00\x00",
		col + "\x81\x02" + parts + "\x00", "\x00\x00\xff\xff\xff\xff\xff\xff\xff\xff\xff\x01", "\x80\x00\x00\x00", col[:5] + "\x02\x00\x00", "\x00\x00\x01\x00\x01\x00",
	} {
		if c, e := catalog.Load(s); c != nil || e != api.ErrCatForm {
			t.Error(i, e)
		}
	}
}

// A loaded catalog behaves like the one whose snapshot it was, and commands that are applied twice are executed once.
func TestLikeLoaded(t *testing.T) {
	r := rand.New(rand.NewSource(1))
	for range 60 {
		c := catalog.New()
		commands := []string{create(t, one), create(t, two), "x"}
		for range 60 {
			parts := c.Parts()
			if len(parts) > 2 && r.Intn(3) == 0 {
				at, n := r.Intn(len(parts)-1), 0
				var names []string
				for _, part := range parts[at : at+2] {
					names, n = append(names, part.Name), n+part.Rows
				}
				if r.Intn(4) == 0 {
					n++
				}
				commands = append(commands, merge(t, data(t, make([]int64, min(n, 1024))...), names...))
			}
			commands = append(commands, ingest(t, r.Int63n(70), 1+r.Int63n(5), make([]int64, 1+r.Intn(3))...))
			cmd := commands[r.Intn(len(commands))]
			if r.Intn(2) == 0 {
				cmd = commands[len(commands)-1]
			}
			other, e := catalog.Load(c.Snapshot())
			ok(t, e)
			before := c.Parts()
			done, files := c.Apply(cmd)
			done2, files2 := other.Apply(cmd)
			if done != done2 || !slices.Equal(files, files2) || c.Snapshot() != other.Snapshot() {
				t.Fatal(done, done2)
			}
			if done.Code != 0 && (!slices.Equal(before, c.Parts()) || len(files) > 0) {
				t.Fatal("an error changes parts")
			}
			if cmd[0] == 2 {
				after := c.Snapshot()
				if again, files := c.Apply(cmd); again != done || len(files) > 0 || c.Snapshot() != after {
					t.Fatal("a command is executed twice")
				}
			}
		}
	}
}
