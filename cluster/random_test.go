package cluster_test

import (
	"fmt"
	"math/rand"
	"slices"
	"strings"
	"testing"

	"stackyard/api"
	"stackyard/catalog"
	"stackyard/cluster"
	"stackyard/net"
	"stackyard/segment"
)

// world is a cluster to which anything may happen, and what must hold of it.
type world struct {
	t         *testing.T
	r         *rand.Rand
	n         int
	c         *cluster.Cluster
	ingested  map[string][]api.Row // the rows of ingest commands
	committed map[int64]api.Entry
	most      int64 // the greatest commit index so far
	states    []state
	tickets   map[int64]string // a command, or a query
	least     int64            // the position of what was answered last
	said      int64
	answers   map[string]int
}

// state is what the commands up to a position come to.
type state struct {
	done    api.Done
	catalog string
	rows    []api.Row
}

const question = "select count(*) as n, sum(a) as s, min(a) as i, max(a) as j"

func newWorld(t *testing.T, seed int64) *world {
	r := rand.New(rand.NewSource(seed))
	n := 1 + r.Intn(4)
	w := &world{t: t, r: r, n: n, c: fresh(t, n, 200000), ingested: map[string][]api.Row{}, committed: map[int64]api.Entry{}, tickets: map[int64]string{}, answers: map[string]int{}}
	w.states = []state{{catalog: catalog.New().Snapshot()}}
	return w
}

// look checks that no log and no catalog is other than what was seen.
func (w *world) look() {
	for i := 1; i <= w.n; i++ {
		m := w.c.Node(i)
		for j := m.Wal().Snap().Index + 1; j <= m.Commit(); j++ {
			entry, _ := m.Wal().Entry(j)
			if seen, found := w.committed[j]; found && seen != entry {
				w.t.Fatal("two entries are committed at", j)
			}
			w.committed[j] = entry
		}
		w.most = max(w.most, m.Commit())
	}
	w.execute()
	for i := 1; i <= w.n; i++ {
		if w.c.Node(i).Dead() {
			continue
		}
		if at := w.c.Applied(i); w.c.Catalog(i) != w.states[at].catalog {
			w.t.Fatal("member", i, "has another catalog at", at)
		}
		if w.c.Applied(i) != w.c.Node(i).Commit() {
			w.t.Fatal("member", i, "has not applied what is committed")
		}
	}
}

// execute executes the commands that have been committed.
func (w *world) execute() {
	for int64(len(w.states)) <= w.most {
		last := w.states[len(w.states)-1]
		next := state{catalog: last.catalog, rows: last.rows}
		if cmd := w.committed[int64(len(w.states))].Data; cmd != "" {
			c, e := catalog.Load(last.catalog)
			ok(w.t, e)
			done, files := c.Apply(cmd)
			next.done, next.catalog = done, c.Snapshot()
			if len(files) > 0 {
				next.rows = append(slices.Clone(last.rows), w.ingested[cmd]...)
			}
		}
		w.states = append(w.states, next)
	}
}

// answer is the answer to the question at a position.
func (w *world) answer(at int64) string {
	s := w.states[at]
	if s.catalog[0] == 0 {
		return told(api.Answer{Code: api.ErrSchema})
	}
	if len(s.rows) == 0 {
		return "0 null null null"
	}
	sum, least, most := int64(0), s.rows[0][0].N, s.rows[0][0].N
	for _, row := range s.rows {
		sum, least, most = sum+row[0].N, min(least, row[0].N), max(most, row[0].N)
	}
	return fmt.Sprint(len(s.rows), sum, least, most)
}

// poll checks the answers.
func (w *world) poll() {
	for _, ticket := range slices.Sorted(slices.Values(keys(w.tickets))) {
		a, found := w.c.Poll(ticket)
		if !found {
			continue
		}
		text := w.tickets[ticket]
		delete(w.tickets, ticket)
		w.answers[fmt.Sprint(text == question, a.Code)]++
		if a.Code == api.ErrRetry || a.Code == api.ErrAway {
			continue
		}
		if text == question {
			w.checkAt(w.least, func(at int64) bool { return w.answer(at) == told(a) }, told(a))
		} else {
			w.checkAt(1, func(at int64) bool {
				return w.committed[at].Data == text && w.states[at].done == api.Done{Code: a.Code, N: a.N}
			}, "a command")
		}
	}
}

// checkAt looks for a position at which something holds.
func (w *world) checkAt(from int64, holds func(at int64) bool, what string) {
	for at := from; at <= w.most; at++ {
		if holds(at) {
			w.least = max(w.least, at)
			return
		}
	}
	w.t.Fatal("an answer of no position:", what, w.least, w.most)
}

func keys(m map[int64]string) (l []int64) {
	for k := range m {
		l = append(l, k)
	}
	return l
}

func (w *world) note(ticket int64, e api.Errno, text string) {
	if e != 0 {
		return
	}
	if _, found := w.tickets[ticket]; found || ticket < 1 {
		w.t.Fatal("a ticket is given twice")
	}
	w.tickets[ticket] = text
}

func (w *world) act() {
	r, c := w.r, w.c
	i := 1 + r.Intn(w.n)
	many := c.Net().Many()
	switch x := r.Intn(60); {
	case x < 3:
		c.Timeout(i)
	case x < 10:
		c.Beat(i)
	case x < 12:
		cmd, _ := catalog.Create(one)
		k, e := c.Create(i, one)
		w.note(k, e, cmd)
	case x < 18:
		w.ingest(i)
	case x < 22:
		k, e := c.Query(i, question)
		w.note(k, e, question)
	case x == 22:
		k, e := c.Merge(i)
		if e == 0 {
			entry, _ := c.Node(i).Wal().Entry(c.Node(i).Wal().Last())
			w.note(k, e, entry.Data)
		}
	case x == 23:
		c.Compact(i)
	case x == 24:
		c.Tidy(i)
	case x < 27:
		c.Fetch(i)
	case x == 27:
		c.Disk(i).Fuse(r.Intn(8))
	case x == 28:
		w.crash(i)
	case x == 29:
		w.rot(i)
	case x == 30 && many > 0:
		c.Net().Copy(r.Intn(many))
	case x == 31 && many > 0:
		c.Net().Take(r.Intn(many))
	case x == 32 && many > 0:
		k := r.Intn(many)
		m, _ := c.Net().Look(k)
		c.Net().Turn(k, r.Intn(len(m.Data)), byte(r.Intn(256)))
	case x == 33 && w.n > 1:
		c.Net().Cut(i, 1+i%w.n, r.Intn(2) == 0)
	case many > 0:
		c.Pass(r.Intn(min(3, many)))
	}
	if c.Node(i).Dead() && r.Intn(3) == 0 {
		w.crash(i)
	}
}

func (w *world) ingest(i int) {
	client, number := w.r.Int63n(3), 1+w.said/4
	w.said++
	l := rows(w.said)
	for range w.r.Intn(3) {
		l = append(l, rows(w.said*1000)...)
	}
	cmd, _ := catalog.Ingest(client, number, one, l)
	w.ingested[cmd] = l
	k, e := w.c.Ingest(i, client, number, one, l)
	w.note(k, e, cmd)
}

func (w *world) crash(i int) {
	// What was committed just before is not to be seen any more afterwards.
	w.look()
	ok(w.t, w.c.Crash(i, w.r.Intn(6)-1, w.r.Intn(200)-10, w.r.Intn(200)-10, w.r.Intn(200)-10))
}

func (w *world) rot(i int) {
	for _, name := range w.c.Disk(i).Names() {
		if s, e := w.c.Disk(i).Read(name); strings.HasPrefix(name, "s-") && e == 0 && len(s) > 0 && w.r.Intn(3) == 0 {
			w.c.Disk(i).Turn(name, w.r.Intn(len(s)), byte(w.r.Intn(256)))
		}
	}
}

// recover checks that the table is there again when all have crashed and go on.
func (w *world) recover() {
	for i := 1; i <= w.n; i++ {
		w.crash(i)
		for j := 1; j <= w.n; j++ {
			if i != j {
				ok(w.t, w.c.Net().Cut(i, j, false))
			}
		}
	}
	for w.c.Net().Many() > 0 {
		w.c.Net().Take(0)
	}
	best := 1
	for i := 2; i <= w.n; i++ {
		a, b := w.c.Node(i).Wal(), w.c.Node(best).Wal()
		at, _ := a.TermAt(a.Last())
		bt, _ := b.TermAt(b.Last())
		if at > bt || at == bt && a.Last() > b.Last() {
			best = i
		}
	}
	elect(w.t, w.c, best)
	for range 3 {
		for i := 1; i <= w.n; i++ {
			ok(w.t, w.c.Fetch(i))
		}
		ok(w.t, w.c.Beat(best))
		passAll(w.t, w.c)
	}
	w.look()
	whole := w.isWhole(best)
	k, e := w.c.Query(best, question)
	ok(w.t, e, w.c.Beat(best))
	passAll(w.t, w.c)
	a, found := w.c.Poll(k)
	if !found || a.Code == api.ErrRetry || (a.Code == api.ErrAway) == whole || whole && told(a) != w.answer(w.most) {
		w.t.Fatal("the table is not there:", found, a, whole)
	}
}

// isWhole tells whether of each part some member has the file.
func (w *world) isWhole(best int) bool {
	cat, e := catalog.Load(w.c.Catalog(best))
	ok(w.t, e)
	for _, part := range cat.Parts() {
		found := false
		for i := 1; i <= w.n; i++ {
			s, e := w.c.Disk(i).Read("s-" + part.Name)
			found = found || e == 0 && segment.Name(s) == part.Name
		}
		if !found {
			return false
		}
	}
	return true
}

func TestRandom(t *testing.T) {
	total := map[string]int{}
	for seed := range int64(250) {
		w := newWorld(t, seed)
		for range 500 {
			w.act()
			w.look()
			w.poll()
		}
		w.recover()
		for k, n := range w.answers {
			total[k] += n
		}
	}
	if total["false 0"] < 300 || total["true 0"] < 200 || total["true 230"] < 1 {
		t.Error("few answers:", total)
	}
	t.Log(total)
}

// Many files are fetched within three rounds, however many members lack them.
func TestFetchMany(t *testing.T) {
	c := fresh(t, 7, 1000000)
	elect(t, c, 1)
	did(t, c, 1, 0, 0)(c.Create(1, one))
	var k int64
	var e api.Errno
	for i := range int64(30) {
		if k, e = c.Ingest(1, 1, i+1, one, rows(i)); e != 0 {
			t.Fatal(e)
		}
	}
	beats(t, c, 1)
	if a, found := c.Poll(k); !found || a.N != 30 {
		t.Fatal(a, found)
	}
	for i := 1; i <= 7; i++ {
		ok(t, c.Compact(i), c.Tidy(i))
	}
	for i := 1; i <= 3; i++ {
		for _, name := range c.Disk(i).Names() {
			if strings.HasPrefix(name, "s-") {
				ok(t, c.Disk(i).Remove(name))
			}
		}
	}
	for i := 1; i <= 7; i++ {
		ok(t, c.Crash(i, 9))
	}
	elect(t, c, 1)
	for range 3 {
		for i := 1; i <= 7; i++ {
			ok(t, c.Fetch(i))
		}
		ok(t, c.Beat(1))
		passAll(t, c)
	}
	if s := asked(t, c, 1, "select count(*) as n, sum(a) as s"); s != "30 435" {
		t.Error(s)
	}
}

// Large files are fetched, too.
func TestFetchLarge(t *testing.T) {
	c := fresh(t, 2, 16000000)
	cols := []api.Column{{Name: "a", Kind: api.KText}}
	elect(t, c, 1)
	did(t, c, 1, 0, 0)(c.Create(1, cols))
	r := rand.New(rand.NewSource(1))
	for i := range int64(6) {
		var l []api.Row
		for range 240 {
			b := make([]byte, 1000)
			r.Read(b)
			l = append(l, api.Row{{Kind: api.KText, S: string(b)}})
		}
		did(t, c, 1, 0, 240*(i+1))(c.Ingest(1, 1, i+1, cols, l))
	}
	for _, name := range c.Disk(2).Names() {
		if strings.HasPrefix(name, "s-") {
			ok(t, c.Disk(2).Remove(name))
		}
	}
	ok(t, c.Fetch(2))
	for c.Net().Many() > 0 {
		if m, _ := c.Net().Look(0); len(m.Data) > api.MaxFrame || net.Seal("") == m.Data {
			t.Error(len(m.Data))
		}
		c.Pass(0)
	}
	if len(c.Lacks(2)) != 0 {
		t.Error(len(c.Lacks(2)))
	}
}
