package raft_test

import (
	"math"
	"math/rand"
	"slices"
	"strings"
	"testing"

	"stackyard/api"
	"stackyard/disk"
	"stackyard/net"
	"stackyard/raft"
	"stackyard/wal"
)

func ok(t *testing.T, errors ...api.Errno) {
	t.Helper()
	for i, e := range errors {
		if e != 0 {
			t.Fatal(i, e)
		}
	}
}

func freshDisk(t *testing.T, room int) *disk.Disk {
	t.Helper()
	d, e := disk.New(room)
	ok(t, e)
	return d
}

// party is a group with all its disks, and the messages on their way.
type party struct {
	t     *testing.T
	n     int
	disks []*disk.Disk
	nodes []*raft.Node
	net   *net.Net
}

func newParty(t *testing.T, n, room int) *party {
	t.Helper()
	p := &party{t: t, n: n, disks: make([]*disk.Disk, n+1), nodes: make([]*raft.Node, n+1)}
	p.net, _ = net.New(n)
	for i := 1; i <= n; i++ {
		p.disks[i] = freshDisk(t, room)
		p.begin(i)
	}
	return p
}

func (p *party) begin(i int) {
	p.t.Helper()
	m, e := raft.New(i, p.n, p.disks[i])
	if e != 0 || m == nil {
		p.t.Fatal(i, e)
	}
	p.nodes[i] = m
}

// crash begins a member anew; nothing that was not synced is kept.
func (p *party) crash(i, dir int, keep ...int) {
	p.t.Helper()
	p.disks[i] = p.disks[i].Crash(dir, keep...)
	p.begin(i)
}

// flush puts what a member sent on its way.
func (p *party) flush(i int) {
	for _, m := range p.nodes[i].Out() {
		if m.From != i || m.To == i || m.To < 1 || m.To > p.n {
			p.t.Fatal("a message from", m.From, "to", m.To)
		}
		if _, e := net.Unseal(m.Data); e != 0 || p.net.Send(m) != 0 {
			p.t.Fatal("a message is not sealed, or too long")
		}
	}
}

func (p *party) pass(k int) {
	m, found := p.net.Take(k)
	if !found {
		return
	}
	p.nodes[m.To].Handle(m)
	p.flush(m.To)
}

func (p *party) passAll() {
	p.t.Helper()
	for i := 1; i <= p.n; i++ {
		p.flush(i)
	}
	for steps := 0; p.net.Many() > 0; steps++ {
		if steps > 20000 {
			p.t.Fatal("messages have no end")
		}
		p.pass(0)
	}
}

// elect lets a member lead, which must take at most three tries.
func (p *party) elect(i int) {
	p.t.Helper()
	for try := 0; p.nodes[i].Role() != 2; try++ {
		if try == 3 {
			p.t.Fatal("member", i, "does not lead")
		}
		ok(p.t, p.nodes[i].Timeout())
		p.passAll()
	}
}

func (p *party) beat(i int) {
	p.t.Helper()
	ok(p.t, p.nodes[i].Beat())
	p.passAll()
}

// spread lets a leader's log reach all.
func (p *party) spread(i int) {
	p.t.Helper()
	for range 5 {
		p.beat(i)
	}
}

func TestNew(t *testing.T) {
	d := freshDisk(t, 1000)
	for _, c := range [][2]int{{0, 0}, {1, 0}, {0, 1}, {2, 1}, {1, 8}, {8, 8}, {-1, 3}, {1, -1}, {4, 3}, {math.MaxInt, math.MaxInt}} {
		for _, d := range []*disk.Disk{d, nil} {
			if m, e := raft.New(c[0], c[1], d); m != nil || e != api.ErrArg {
				t.Error(c, e)
			}
		}
	}
	if m, e := raft.New(1, 1, nil); m != nil || e != api.ErrNil {
		t.Error(e)
	}
	if m, e := raft.New(1, 1, freshDisk(t, 3)); m != nil || e != api.ErrNoSpc {
		t.Error(e)
	}
	bad := freshDisk(t, 100)
	ok(t, bad.Create("wal"), bad.Append("wal", "12345678"))
	if m, e := raft.New(1, 1, bad); m != nil || e != api.ErrWalForm {
		t.Error(e)
	}
	off := freshDisk(t, 100)
	ok(t, off.Fuse(0))
	off.Create("x")
	if m, e := raft.New(1, 1, off); m != nil || e != api.ErrOff {
		t.Error(e)
	}
	m, e := raft.New(7, 7, d)
	if e != 0 || m.Role() != 0 || m.Leader() != 0 || m.Commit() != 0 || m.Wal().Last() != 0 || m.Dead() || len(m.Out()) != 0 {
		t.Error(e)
	}
}

func TestNil(t *testing.T) {
	var m *raft.Node
	i, e1 := m.Propose("")
	k, e2 := m.Read()
	for j, e := range []api.Errno{m.Timeout(), m.Beat(), e1, e2, m.Handle(api.Msg{}), m.Compact(-1, "")} {
		if e != api.ErrNil {
			t.Error(j, e)
		}
	}
	r, ready := m.Ready(1)
	if i != 0 || k != 0 || r != 0 || ready || m.Waits(1) || m.Role() != 0 || m.Leader() != 0 || m.Commit() != 0 || m.Wal() != nil || !m.Dead() || len(m.Out()) != 0 {
		t.Error("there is something")
	}
}

func TestAlone(t *testing.T) {
	p := newParty(t, 1, 3000000)
	m := p.nodes[1]
	if i, e := m.Propose("a"); i != 0 || e != api.ErrNotLeader {
		t.Error(i, e)
	}
	if k, e := m.Read(); k != 0 || e != api.ErrNotLeader {
		t.Error(k, e)
	}
	ok(t, m.Beat(), m.Timeout())
	if m.Role() != 2 || m.Leader() != 1 || m.Commit() != 1 {
		t.Error(m.Role(), m.Leader(), m.Commit())
	}
	if x, found := m.Wal().Entry(1); x != (api.Entry{Index: 1, Term: 1}) || !found {
		t.Error(x)
	}
	if i, e := m.Propose("a"); i != 2 || e != 0 || m.Commit() != 2 {
		t.Error(i, e, m.Commit())
	}
	k, e := m.Read()
	if k != 1 || e != 0 || !m.Waits(k) || m.Waits(k+1) || m.Waits(0) || m.Waits(-1) {
		t.Error(k, e)
	}
	if i, ready := m.Ready(k); i != 2 || !ready {
		t.Error(i, ready)
	}
	if i, ready := m.Ready(k); i != 0 || ready || m.Waits(k) {
		t.Error(i, ready)
	}
	if k2, e := m.Read(); k2 != 2 || e != 0 {
		t.Error(k2, e)
	}
	for _, s := range []string{"", strings.Repeat("x", 262145)} {
		if i, e := m.Propose(s); i != 0 || e != api.ErrArg {
			t.Error(i, e)
		}
	}
	if i, e := m.Propose(strings.Repeat("x", 262144)); i != 3 || e != 0 {
		t.Error(i, e)
	}
	term := m.Wal().State().Term
	ok(t, m.Timeout(), m.Beat())
	if m.Wal().State().Term != term || m.Role() != 2 || len(m.Out()) != 0 {
		t.Error("a leader timed out")
	}
	p.crash(1, 0)
	m = p.nodes[1]
	if m.Role() != 0 || m.Leader() != 0 || m.Commit() != 0 || m.Wal().Last() != 3 || m.Wal().State() != (api.State{Term: 1, Vote: 1}) {
		t.Error(m.Role(), m.Commit())
	}
	for _, s := range []string{"", strings.Repeat("x", 262145)} {
		if _, e := m.Propose(s); e != api.ErrArg {
			t.Error(e)
		}
	}
}

func TestCompactAlone(t *testing.T) {
	p := newParty(t, 1, 1000000)
	m := p.nodes[1]
	if e := m.Compact(0, ""); e != api.ErrArg {
		t.Error(e)
	}
	ok(t, m.Timeout())
	for range 4 {
		m.Propose("a")
	}
	for _, i := range []int64{0, -1, 6, math.MaxInt64, math.MinInt64} {
		if e := m.Compact(i, "x"); e != api.ErrArg {
			t.Error(i, e)
		}
	}
	if e := m.Compact(3, strings.Repeat("x", 262145)); e != api.ErrArg {
		t.Error(e)
	}
	ok(t, m.Compact(3, "snap"))
	if s := m.Wal().Snap(); s != (api.Snap{Index: 3, Term: 1, Data: "snap"}) || m.Wal().Last() != 5 || m.Commit() != 5 {
		t.Error(s)
	}
	for _, i := range []int64{1, 2, 3} {
		if e := m.Compact(i, "x"); e != api.ErrArg {
			t.Error(i, e)
		}
	}
	p.crash(1, 0)
	if m = p.nodes[1]; m.Commit() != 3 || m.Compact(4, "") != api.ErrArg {
		t.Error(m.Commit())
	}
	ok(t, m.Timeout(), m.Compact(6, strings.Repeat("y", 262144)))
	if m.Commit() != 6 || m.Wal().Last() != 6 || m.Wal().Snap().Term != 2 {
		t.Error(m.Commit())
	}
	if k, e := m.Read(); k != 1 || e != 0 {
		t.Error(k, e)
	}
	if i, ready := m.Ready(1); i != 6 || !ready {
		t.Error(i, ready)
	}
}

func TestHandleRejects(t *testing.T) {
	p := newParty(t, 3, 100000)
	m := p.nodes[1]
	ok(t, m.Timeout())
	if m.Role() != 1 || m.Leader() != 0 || m.Wal().State() != (api.State{Term: 1, Vote: 1}) {
		t.Error(m.Role(), m.Wal().State())
	}
	sent := m.Out()
	if len(sent) < 2 || len(m.Out()) != 0 {
		t.Error(len(sent))
	}
	good := sent[0]
	to := p.nodes[good.To]
	for i, x := range []api.Msg{{From: 1, To: 1, Data: good.Data}, {From: good.To, To: good.To, Data: good.Data}, {From: 0, To: good.To, Data: good.Data}, {From: 4, To: good.To, Data: good.Data}, {From: 1, To: 0, Data: good.Data}, {From: 1, To: 4, Data: good.Data}, {From: 1, To: 5 - good.To, Data: good.Data}, {From: -1, To: good.To}, {}} {
		if e := to.Handle(x); e != api.ErrArg {
			t.Error(i, e)
		}
	}
	for i, s := range []string{"", "abc", "abcd", good.Data[1:], good.Data[:len(good.Data)-1], good.Data + "x", net.Seal(""), net.Seal("abc"), net.Seal("\x00"), net.Seal(good.Data), net.Seal(good.Data[4:] + "\x00"), net.Seal(good.Data[4 : len(good.Data)-1])} {
		if e := to.Handle(api.Msg{From: 1, To: good.To, Data: s}); e != api.ErrNetForm {
			t.Error(i, e)
		}
	}
	for i := range len(good.Data) {
		b := []byte(good.Data)
		b[i] ^= 0x41
		if e := to.Handle(api.Msg{From: 1, To: good.To, Data: string(b)}); e != api.ErrNetForm {
			t.Error(i, e)
		}
	}
	if to.Wal().State() != (api.State{}) || len(to.Out()) != 0 || to.Role() != 0 {
		t.Error("something has changed")
	}
	ok(t, to.Handle(good))
	if to.Wal().State() != (api.State{Term: 1, Vote: 1}) || len(to.Out()) == 0 {
		t.Error(to.Wal().State())
	}
}

func TestElection(t *testing.T) {
	for n := 1; n <= 7; n++ {
		p := newParty(t, n, 100000)
		for i := 1; i <= n; i++ {
			p.elect(i)
			p.spread(i)
			for j := 1; j <= n; j++ {
				role := 0
				if j == i {
					role = 2
				}
				if p.nodes[j].Role() != role || p.nodes[j].Leader() != i || p.nodes[j].Wal().State().Term != p.nodes[i].Wal().State().Term {
					t.Error(n, i, j, p.nodes[j].Role(), p.nodes[j].Leader())
				}
			}
		}
	}
}

// Without a majority there is no leader, and nothing is committed.
func TestNoMajority(t *testing.T) {
	for n := 2; n <= 7; n++ {
		p := newParty(t, n, 100000)
		p.elect(1)
		p.spread(1)
		few := n/2 - 1 // members besides the first one that are not enough
		for i := few + 2; i <= n; i++ {
			p.net.Cut(1, i, true)
			p.net.Cut(i, 1, true)
		}
		before := p.nodes[1].Commit()
		i, e := p.nodes[1].Propose("a")
		ok(t, e)
		p.spread(1)
		if p.nodes[1].Commit() != before || i <= before {
			t.Error(n, p.nodes[1].Commit(), before)
		}
		k, e := p.nodes[1].Read()
		ok(t, e)
		p.spread(1)
		if _, ready := p.nodes[1].Ready(k); ready || !p.nodes[1].Waits(k) {
			t.Error(n, "a read is ready")
		}
		p.net.Cut(1, few+2, false)
		p.net.Cut(few+2, 1, false)
		p.spread(1)
		if got, ready := p.nodes[1].Ready(k); !ready || got < before || p.nodes[1].Commit() != i {
			t.Error(n, got, ready, p.nodes[1].Commit())
		}
	}
}

func TestReplication(t *testing.T) {
	p := newParty(t, 3, 3000000)
	p.elect(2)
	for _, s := range []string{"a", "b", strings.Repeat("c", 262144), strings.Repeat("d", 262144), "e"} {
		_, e := p.nodes[2].Propose(s)
		ok(t, e)
	}
	if _, e := p.nodes[1].Propose("x"); e != api.ErrNotLeader {
		t.Error(e)
	}
	p.spread(2)
	for i := 1; i <= 3; i++ {
		if p.nodes[i].Commit() != 6 || p.nodes[i].Wal().Last() != 6 {
			t.Error(i, p.nodes[i].Commit())
		}
		for j := int64(1); j <= 6; j++ {
			a, _ := p.nodes[i].Wal().Entry(j)
			b, _ := p.nodes[2].Wal().Entry(j)
			if a != b {
				t.Error(i, j)
			}
		}
	}
}

// A member that lacks what its leader no longer has gets the snapshot.
func TestSnapshot(t *testing.T) {
	p := newParty(t, 3, 3000000)
	p.elect(1)
	p.net.Cut(1, 3, true)
	for range 50 {
		_, e := p.nodes[1].Propose("x")
		ok(t, e)
	}
	p.spread(1)
	ok(t, p.nodes[1].Compact(40, strings.Repeat("s", 262144)))
	p.net.Cut(1, 3, false)
	p.spread(1)
	if m := p.nodes[3]; m.Commit() != 51 || m.Wal().Last() != 51 || m.Wal().Snap().Index != 40 || len(m.Wal().Snap().Data) != 262144 {
		t.Error(m.Commit(), m.Wal().Snap().Index)
	}
	p.crash(3, 0)
	if m := p.nodes[3]; m.Commit() != 40 || m.Wal().Last() != 51 {
		t.Error(m.Commit(), m.Wal().Last())
	}
}

// A member with the longest log is not elected by members that have entries of a later term.
func TestLaterTerms(t *testing.T) {
	p := newParty(t, 3, 100000)
	fill := func(i int, state api.State, terms ...int64) {
		d := freshDisk(t, 100000)
		w, e := wal.Open(d)
		ok(t, e, w.SetState(state))
		for j, term := range terms {
			ok(t, w.Append(api.Entry{Index: int64(j + 1), Term: term, Data: "x"}))
		}
		p.disks[i] = d
		p.begin(i)
	}
	fill(1, api.State{Term: 2, Vote: 1}, 1, 1, 1, 1, 1, 2)
	fill(2, api.State{Term: 3}, 1, 3)
	fill(3, api.State{Term: 3, Vote: 2}, 1, 3)
	for range 5 {
		ok(t, p.nodes[1].Timeout())
		p.passAll()
		if p.nodes[1].Role() == 2 {
			t.Fatal("a member leads that lacks entries")
		}
	}
	p.elect(3)
	p.spread(3)
	for i := 1; i <= 3; i++ {
		if term, _ := p.nodes[i].Wal().TermAt(2); term != 3 || p.nodes[i].Commit() != 3 || p.nodes[i].Wal().Last() != 3 {
			t.Error(i, p.nodes[i].Commit(), p.nodes[i].Wal().Last())
		}
	}
	// of equal last terms the longer log wins
	fill(1, api.State{Term: 9}, 1, 3, 3)
	fill(2, api.State{Term: 2}, 1, 3)
	fill(3, api.State{Term: 50}, 1, 3)
	ok(t, p.nodes[2].Timeout())
	p.passAll()
	p.elect(1)
}

// An entry of an earlier term is not committed by the number of members that have it, since one with a later term may still take its place.
func TestEarlierTerms(t *testing.T) {
	p := newParty(t, 3, 4000000)
	fill := func(i int, terms ...int64) {
		p.disks[i] = freshDisk(t, 4000000)
		w, e := wal.Open(p.disks[i])
		ok(t, e, w.SetState(api.State{Term: 3}))
		for j, term := range terms {
			ok(t, w.Append(api.Entry{Index: int64(j + 1), Term: term, Data: strings.Repeat("x", 262144)}))
		}
		p.begin(i)
	}
	fill(1, 1, 2, 2)
	fill(2)
	fill(3, 1, 3)
	p.only(3)
	for range 3 {
		ok(t, p.nodes[1].Timeout(), p.nodes[1].Beat())
		p.flush(1)
		for p.net.Many() > 0 {
			p.pass(0)
			for i := 1; i <= 3; i++ {
				if c := p.nodes[i].Commit(); c == 2 || c == 3 {
					t.Fatal("an entry of an earlier term is committed")
				}
			}
		}
	}
	p.spread(1)
	if p.nodes[1].Commit() < 4 {
		t.Error(p.nodes[1].Commit())
	}
}

// A new leader may not read before an entry of its term is committed, and an old one learns that it does not lead any more.
func TestReads(t *testing.T) {
	p := newParty(t, 3, 100000)
	p.elect(1)
	p.spread(1)
	k, e := p.nodes[1].Read()
	ok(t, e)
	if i, ready := p.nodes[1].Ready(k); i != 0 || ready || !p.nodes[1].Waits(k) {
		t.Error(i, ready)
	}
	p.beat(1)
	if i, ready := p.nodes[1].Ready(k); i < 1 || !ready || p.nodes[1].Waits(k) {
		t.Error(i, ready)
	}
	cut := func(cut bool) {
		for i := 2; i <= 3; i++ {
			ok(t, p.net.Cut(1, i, cut), p.net.Cut(i, 1, cut))
		}
	}
	cut(true)
	old, e := p.nodes[1].Read()
	ok(t, e)
	p.elect(2)
	_, e = p.nodes[2].Propose("new")
	ok(t, e)
	p.spread(2)
	if p.nodes[2].Commit() <= p.nodes[1].Commit() {
		t.Error(p.nodes[2].Commit())
	}
	for range 3 {
		p.beat(1)
		if _, ready := p.nodes[1].Ready(old); ready {
			t.Error("an old leader reads")
		}
	}
	cut(false)
	p.spread(1)
	p.spread(2)
	if p.nodes[1].Role() == 2 || p.nodes[1].Waits(old) {
		t.Error("an old leader leads")
	}
	if i, ready := p.nodes[1].Ready(old); i != 0 || ready {
		t.Error(i, ready)
	}
	// a leader whose first entry is not committed
	for range 3 {
		ok(t, p.nodes[3].Timeout())
		p.flush(3)
		for p.nodes[3].Role() != 2 && p.net.Many() > 0 {
			p.pass(0)
		}
	}
	if k, e := p.nodes[3].Read(); k != 0 || e != api.ErrRetry {
		t.Error(k, e)
	}
}

func TestDead(t *testing.T) {
	for _, call := range []func(p *party) api.Errno{
		func(p *party) api.Errno { return p.nodes[1].Timeout() },
		func(p *party) api.Errno {
			ok(p.t, p.nodes[2].Timeout())
			for _, m := range p.nodes[2].Out() {
				if m.To == 1 {
					return p.nodes[1].Handle(m)
				}
			}
			return api.OK
		},
	} {
		p := newParty(t, 3, 100000)
		ok(t, p.disks[1].Fuse(0), p.nodes[1].Beat())
		if p.nodes[1].Dead() {
			t.Error("dead at once")
		}
		if e := call(p); e != api.ErrOff {
			t.Error(e)
		}
		m := p.nodes[1]
		_, e1 := m.Propose("")
		_, e2 := m.Read()
		for i, e := range []api.Errno{m.Timeout(), m.Beat(), e1, e2, m.Handle(api.Msg{}), m.Compact(0, "")} {
			if e != api.ErrOff {
				t.Error(i, e)
			}
		}
		if !m.Dead() || len(m.Out()) != 0 || m.Wal().State() != (api.State{}) {
			t.Error("a dead member does something")
		}
		p.crash(1, 0)
		if p.nodes[1].Dead() {
			t.Error("dead after a crash")
		}
	}
	p := newParty(t, 1, 1000)
	ok(t, p.nodes[1].Timeout())
	k, e := p.nodes[1].Read()
	ok(t, e, p.disks[1].Fuse(0))
	if _, e := p.nodes[1].Propose("a"); e != api.ErrOff || p.nodes[1].Commit() != 1 {
		t.Error(e)
	}
	if _, ready := p.nodes[1].Ready(k); ready || p.nodes[1].Waits(k) {
		t.Error("a dead member reads")
	}
}

// Without space a member goes on as if nothing had come.
func TestNoSpace(t *testing.T) {
	p := newParty(t, 1, 120)
	m := p.nodes[1]
	ok(t, m.Timeout())
	for {
		last, commit := m.Wal().Last(), m.Commit()
		i, e := m.Propose("abcdef")
		if e == 0 {
			continue
		}
		if i != 0 || e != api.ErrNoSpc || m.Wal().Last() != last || m.Commit() != commit || m.Role() != 2 {
			t.Error(i, e)
		}
		break
	}
	if e := m.Compact(1, strings.Repeat("x", 100)); e != api.ErrNoSpc || m.Wal().Snap().Index != 0 {
		t.Error(e)
	}
	for room := 17; room < 60; room++ {
		d := freshDisk(t, room)
		m, e := raft.New(1, 1, d)
		if e == api.ErrNoSpc {
			continue
		}
		ok(t, e)
		if e := m.Timeout(); e != 0 && (e != api.ErrNoSpc || m.Role() != 0 || m.Wal().State() != (api.State{}) || m.Wal().Last() != 0 || m.Leader() != 0) {
			t.Error(room, e, m.Role(), m.Wal().State())
		}
	}
}

// A follower without space for all of a message goes on as if it had not come.
func TestNoSpaceForMessages(t *testing.T) {
	for spare := range 200 {
		p := newParty(t, 3, 100000)
		for i := 1; i <= 3; i++ {
			p.disks[i] = freshDisk(t, 100000)
			w, e := wal.Open(p.disks[i])
			ok(t, e, w.SetState(api.State{Term: 1}), w.Append(api.Entry{Index: 1, Term: 1, Data: "x"}))
			if i == 3 {
				// an entry that the leader will not have
				ok(t, w.Append(api.Entry{Index: 2, Term: 1, Data: "old old old"}))
			}
			p.begin(i)
		}
		for i := 1; i <= 2; i++ {
			p.net.Cut(i, 3, true)
			p.net.Cut(3, i, true)
		}
		p.elect(2)
		_, e := p.nodes[2].Propose("new new new new new")
		ok(t, e)
		p.spread(2)
		for i := 1; i <= 2; i++ {
			p.net.Cut(i, 3, false)
			p.net.Cut(3, i, false)
		}
		ok(t, p.disks[3].Create("fill"), p.disks[3].Append("fill", strings.Repeat("x", p.disks[3].Left()-spare)))
		ok(t, p.nodes[2].Beat())
		p.flush(2)
		for p.net.Many() > 0 {
			m, _ := p.net.Take(0)
			node := p.nodes[m.To]
			commit := node.Commit()
			e := node.Handle(m)
			if e == api.ErrNoSpc && (node.Commit() != commit || len(node.Out()) != 0) {
				t.Fatal(spare, commit, node.Commit())
			}
			if e != 0 && e != api.ErrNoSpc {
				t.Fatal(e)
			}
			p.flush(m.To)
		}
		if c := p.nodes[3].Commit(); c > 1 {
			if x, _ := p.nodes[3].Wal().Entry(2); x.Term == 1 {
				t.Fatal(spare, "the old entry is committed")
			}
		}
	}
}

// The messages of one member are new memory each time.
func TestOut(t *testing.T) {
	p := newParty(t, 3, 10000)
	ok(t, p.nodes[1].Timeout())
	l := p.nodes[1].Out()
	kept := slices.Clone(l)
	ok(t, p.nodes[1].Timeout())
	if next := p.nodes[1].Out(); len(next) != len(l) || !slices.Equal(l, kept) {
		t.Error(len(next))
	}
}

// What P21.8 says, after anything that may have happened before.
func checkProgress(p *party) {
	p.t.Helper()
	p.net, _ = net.New(p.n)
	for i := 1; i <= p.n; i++ {
		p.crash(i, 0)
	}
	best := 1
	for i := 2; i <= p.n; i++ {
		a, b := p.nodes[i].Wal(), p.nodes[best].Wal()
		at, _ := a.TermAt(a.Last())
		bt, _ := b.TermAt(b.Last())
		if at > bt || at == bt && a.Last() > b.Last() {
			best = i
		}
	}
	p.elect(best)
	index, e := p.nodes[best].Propose("at last")
	ok(p.t, e)
	p.spread(best)
	for i := 1; i <= p.n; i++ {
		if p.nodes[i].Commit() < index {
			p.t.Fatal("member", i, "has committed", p.nodes[i].Commit(), "and not", index)
		}
	}
}

// history is what was seen of a group: it must never change.
type history struct {
	t         *testing.T
	committed map[int64]api.Entry // by index, without those that only snapshots told
	leaders   map[int64]int       // by term
	most      int64               // of all commit indexes
	commits   map[*raft.Node]int64
	reads     map[int64]int64 // by ticket and member: what was committed
}

func newHistory(t *testing.T) *history {
	return &history{t: t, committed: map[int64]api.Entry{}, leaders: map[int64]int{}, commits: map[*raft.Node]int64{}, reads: map[int64]int64{}}
}

func (h *history) look(p *party) {
	for i := 1; i <= p.n; i++ {
		m := p.nodes[i]
		term := m.Wal().State().Term
		if m.Role() == 2 && !m.Dead() {
			if other := h.leaders[term]; other != 0 && other != i {
				h.t.Fatal("two leaders in term", term)
			}
			h.leaders[term] = i
		}
		if m.Commit() < h.commits[m] || m.Commit() < m.Wal().Snap().Index {
			h.t.Fatal("a commit index decreases")
		}
		h.commits[m] = m.Commit()
		h.most = max(h.most, m.Commit())
		for j := m.Wal().Snap().Index + 1; j <= m.Commit(); j++ {
			entry, _ := m.Wal().Entry(j)
			if seen, found := h.committed[j]; found && seen != entry {
				h.t.Fatal("two entries are committed at", j, seen, entry)
			}
			h.committed[j] = entry
		}
		if s := m.Wal().Snap(); s.Index > 0 {
			if seen := h.committed[s.Index]; seen.Term != s.Term || s.Data != "up to "+seen.Data {
				h.t.Fatal("a snapshot is another one", s, seen)
			}
		}
	}
	h.match(p)
}

// match checks that two logs which have an entry in common have all before it in common.
func (h *history) match(p *party) {
	for i := 1; i <= p.n; i++ {
		for j := i + 1; j <= p.n; j++ {
			a, b := p.nodes[i].Wal(), p.nodes[j].Wal()
			same := false
			for k := min(a.Last(), b.Last()); k > max(a.Snap().Index, b.Snap().Index); k-- {
				x, _ := a.Entry(k)
				y, _ := b.Entry(k)
				if same && x != y || x.Term == y.Term && x != y {
					h.t.Fatal("logs differ at", k, x, y)
				}
				same = same || x.Term == y.Term
			}
		}
	}
}

// Anything happens, and the promises hold.
func TestRandom(t *testing.T) {
	for seed := range int64(400) {
		r := rand.New(rand.NewSource(seed))
		n := 1 + r.Intn(5)
		p := newParty(t, n, 100000)
		h := newHistory(t)
		said := 0
		for range 400 {
			i := 1 + r.Intn(n)
			act(p, h, r, i, &said)
			p.flush(i)
			h.look(p)
			checkReads(p, h)
		}
		checkProgress(p)
		h.look(p)
	}
}

func act(p *party, h *history, r *rand.Rand, i int, said *int) {
	m := p.nodes[i]
	switch x := r.Intn(40); {
	case x < 3:
		m.Timeout()
	case x < 8:
		m.Beat()
	case x < 12:
		*said++
		m.Propose("said " + strings.Repeat("x", r.Intn(5)) + string(rune('a'+*said%26)))
	case x < 14:
		if k, e := m.Read(); e == 0 {
			h.reads[int64(i)<<32|k] = h.most
		}
	case x == 14:
		if at := m.Wal().Snap().Index + 1 + int64(r.Intn(4)); at <= m.Commit() {
			m.Compact(at, "up to "+h.committed[at].Data)
		}
	case x == 15:
		p.disks[i].Fuse(r.Intn(5))
	case x == 16:
		crashed(p, h, r, i)
	case x == 17 && p.net.Many() > 0:
		p.net.Copy(r.Intn(p.net.Many()))
	case x == 18 && p.net.Many() > 0:
		p.net.Take(r.Intn(p.net.Many()))
	case x == 19 && p.net.Many() > 0:
		k := r.Intn(p.net.Many())
		old, _ := p.net.Look(k)
		at := r.Intn(len(old.Data))
		if c := byte(r.Intn(256)); c != old.Data[at] {
			p.net.Turn(k, at, c)
		}
		changed, _ := p.net.Take(k)
		if e := p.nodes[changed.To].Handle(changed); changed != old && e != api.ErrNetForm && e != api.ErrOff {
			p.t.Fatal("a changed message is taken", e)
		}
		p.flush(changed.To)
	case x == 20 && p.n > 1:
		p.net.Cut(i, 1+i%p.n, r.Intn(2) == 0)
	default:
		if p.net.Many() > 0 {
			p.pass(r.Intn(min(3, p.net.Many())))
		}
	}
	if m.Dead() && r.Intn(3) == 0 {
		crashed(p, h, r, i)
	}
}

func crashed(p *party, h *history, r *rand.Rand, i int) {
	h.look(p)
	for k := range h.reads {
		if k>>32 == int64(i) {
			delete(h.reads, k)
		}
	}
	p.crash(i, r.Intn(5)-1, r.Intn(100)-10, r.Intn(100)-10)
}

func checkReads(p *party, h *history) {
	for k, least := range h.reads {
		m := p.nodes[k>>32]
		ticket := k & (1<<32 - 1)
		waits := m.Waits(ticket)
		at, ready := m.Ready(ticket)
		if ready && (at < least || !waits) {
			p.t.Fatal("a read is ready at", at, "and", least, "was committed")
		}
		if waits && m.Role() != 2 {
			p.t.Fatal("a read waits, and the member does not lead")
		}
		if ready || !waits {
			delete(h.reads, k)
			if m.Waits(ticket) {
				p.t.Fatal("a read is ready twice")
			}
		}
	}
}

// A follower commits no more of its log than what it knows to be the leader's.
func TestCommitOfOtherEntries(t *testing.T) {
	p := newParty(t, 3, 4000000)
	p.elect(3)
	p.spread(3)
	for i := 1; i <= 2; i++ {
		p.net.Cut(3, i, true)
	}
	for range 10 {
		_, e := p.nodes[3].Propose("nobody else has this")
		ok(t, e)
	}
	p.elect(2)
	for range 5 {
		_, e := p.nodes[2].Propose(strings.Repeat("x", 262144))
		ok(t, e)
	}
	p.spread(2)
	for i := 1; i <= 2; i++ {
		p.net.Cut(3, i, false)
	}
	for range 5 {
		ok(t, p.nodes[2].Beat())
		p.flush(2)
		for p.net.Many() > 0 {
			p.pass(0)
			for j := int64(1); j <= p.nodes[3].Commit(); j++ {
				a, _ := p.nodes[3].Wal().Entry(j)
				if b, _ := p.nodes[2].Wal().Entry(j); a != b {
					t.Fatal("another entry is committed at", j)
				}
			}
		}
	}
	if p.nodes[3].Commit() != p.nodes[2].Wal().Last() {
		t.Error(p.nodes[3].Commit())
	}
}

// Answers that were given before a read, and arrive after it, do not tell that the member led at the read.
func TestLateAnswers(t *testing.T) {
	p := newParty(t, 3, 100000)
	p.elect(1)
	p.spread(1)
	ok(t, p.nodes[1].Beat())
	p.flush(1)
	var late []api.Msg
	for p.net.Many() > 0 {
		m, _ := p.net.Take(0)
		ok(t, p.nodes[m.To].Handle(m))
		late = append(late, p.nodes[m.To].Out()...)
	}
	for i := 2; i <= 3; i++ {
		p.net.Cut(1, i, true)
		p.net.Cut(i, 1, true)
	}
	p.elect(2)
	_, e := p.nodes[2].Propose("new")
	ok(t, e)
	p.spread(2)
	if p.nodes[2].Commit() <= p.nodes[1].Commit() {
		t.Fatal("nothing new is committed")
	}
	k, e := p.nodes[1].Read()
	ok(t, e)
	p.beat(1)
	p.beat(1)
	for _, m := range late {
		ok(t, p.nodes[1].Handle(m))
		if i, ready := p.nodes[1].Ready(k); ready {
			t.Fatal("a read is ready at", i, "and", p.nodes[2].Commit(), "was committed")
		}
	}
}

// A log may have entries of a later term than the state.
func TestStateBehindLog(t *testing.T) {
	d := freshDisk(t, 10000)
	w, e := wal.Open(d)
	ok(t, e, w.Append(api.Entry{Index: 1, Term: 5, Data: "x"}))
	m, e := raft.New(1, 1, d)
	ok(t, e, m.Timeout())
	if i, e := m.Propose("a"); i != 3 || e != 0 || m.Commit() != 3 || m.Wal().State().Term != 6 {
		t.Error(i, e, m.Commit())
	}
}

// only leaves a member the links with some others.
func (p *party) only(i int, others ...int) {
	p.t.Helper()
	for j := 1; j <= p.n; j++ {
		if j != i {
			isCut := !slices.Contains(others, j)
			ok(p.t, p.net.Cut(i, j, isCut), p.net.Cut(j, i, isCut))
		}
	}
}

// The votes of one term do not count in the next one.
func TestVotesOfEarlierTerms(t *testing.T) {
	p := newParty(t, 5, 100000)
	for i := 2; i <= 5; i++ {
		p.only(1, i)
		ok(t, p.nodes[1].Timeout())
		p.passAll()
		if p.nodes[1].Role() == 2 {
			t.Fatal("a member leads with two votes of five")
		}
	}
	// a vote that comes twice counts once
	p.only(1, 2)
	ok(t, p.nodes[1].Timeout())
	p.flush(1)
	for range 3 {
		p.net.Copy(0)
	}
	for k := 0; p.net.Many() > 0; k++ {
		if k < 20 {
			p.net.Copy(p.net.Many() - 1)
		}
		p.pass(0)
	}
	if p.nodes[1].Role() == 2 {
		t.Fatal("a member leads with two votes of five")
	}
}

// What a member answered to a leader of an earlier term does not tell what it has in a later one.
func TestAnswersOfEarlierTerms(t *testing.T) {
	p := newParty(t, 5, 100000)
	p.elect(1)
	p.spread(1)
	p.only(1, 2)
	for range 10 {
		_, e := p.nodes[1].Propose("old")
		ok(t, e)
	}
	// the second member has all of it, and its answers come late
	var late []api.Msg
	for range 5 {
		ok(t, p.nodes[1].Beat())
		for _, m := range p.nodes[1].Out() {
			if m.To == 2 {
				ok(t, p.nodes[2].Handle(m))
				late = append(late, p.nodes[2].Out()...)
			}
		}
	}
	end := p.nodes[2].Wal().Last()
	p.only(1)
	p.only(2)
	p.elect(3)
	for i := 1; i <= 2; i++ {
		p.only(i, 1, 2, 3, 4, 5)
	}
	p.spread(3)
	// the first member leads again, and only the third one has its new entries
	p.elect(1)
	p.only(1, 3)
	for p.nodes[1].Wal().Last() < end {
		_, e := p.nodes[1].Propose("new")
		ok(t, e)
	}
	last := p.nodes[1].Wal().Last()
	p.spread(1)
	for _, m := range late {
		p.nodes[1].Handle(m)
		if p.nodes[1].Commit() == last {
			t.Fatal("what two of five members have is committed")
		}
	}
}

// A leader of an earlier term changes no log any more.
func TestStaleLeader(t *testing.T) {
	p := newParty(t, 3, 100000)
	p.elect(1)
	p.spread(1)
	p.only(1)
	for range 3 {
		_, e := p.nodes[1].Propose("stale")
		ok(t, e)
	}
	p.elect(2)
	_, e := p.nodes[2].Propose("new")
	ok(t, e)
	p.spread(2)
	last := p.nodes[2].Wal().Last()
	kept, _ := p.nodes[3].Wal().Entry(last)
	p.crash(3, 0)
	// a member that is created again does not know what is committed
	for range 2 {
		ok(t, p.nodes[1].Beat())
		for _, m := range p.nodes[1].Out() {
			if m.To == 3 {
				p.nodes[3].Handle(m)
			}
		}
	}
	if x, found := p.nodes[3].Wal().Entry(last); x != kept || !found || x.Data != "new" {
		t.Fatal("a committed entry is gone")
	}
}
