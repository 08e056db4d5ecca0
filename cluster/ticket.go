package cluster

import (
	"maps"
	"slices"

	"stackyard/api"
	"stackyard/exec"
	"stackyard/plan"
	"stackyard/query"
	"stackyard/segment"
)

// request is what an open ticket waits for: the entry with a command, or a query with its raft's ticket.
type request struct {
	member      int
	index, term int64
	read        int64
	text        string
}

// enter opens a ticket.
func (c *Cluster) enter(r request) int64 {
	c.tickets++
	c.open[c.tickets] = r
	return c.tickets
}

// finish settles a member that has opened a ticket; without the member there is no ticket.
func (c *Cluster) finish(i int, ticket int64) (int64, api.Errno) {
	e := c.settle(i)
	if e != api.OK {
		delete(c.open, ticket)
		delete(c.answers, ticket)
		return 0, e
	}
	return ticket, api.OK
}

// answer answers a ticket.
func (c *Cluster) answer(ticket int64, a api.Answer) {
	delete(c.open, ticket)
	c.answers[ticket] = a
}

// waiting are the open tickets of a member, the oldest first.
func (c *Cluster) waiting(i int) []int64 {
	var l []int64
	for _, ticket := range slices.Sorted(maps.Keys(c.open)) {
		if c.open[ticket].member == i {
			l = append(l, ticket)
		}
	}
	return l
}

// propose asks a member for a command.
func (c *Cluster) propose(i int, build func(m *member) (string, api.Errno)) (int64, api.Errno) {
	m, e := c.check(i)
	if e != api.OK {
		return 0, e
	}
	cmd, e := build(m)
	if e != api.OK {
		return 0, e
	}
	index, e := m.Propose(cmd)
	if e != api.OK {
		return 0, e
	}
	return c.finish(i, c.enter(request{member: i, index: index, term: m.Wal().State().Term}))
}

// Query asks a member for the answer to a query.
func (c *Cluster) Query(i int, text string) (int64, api.Errno) {
	m, e := c.check(i)
	if e != api.OK {
		return 0, e
	}
	read, e := m.Read()
	if e != api.OK {
		return 0, e
	}
	return c.finish(i, c.enter(request{member: i, read: read, text: text}))
}

// Poll tells the answer of a ticket, once.
func (c *Cluster) Poll(ticket int64) (api.Answer, bool) {
	if c.isNil() {
		return api.Answer{}, false
	}
	if r, ok := c.open[ticket]; ok {
		c.answerReads(r.member)
	}
	a, ok := c.answers[ticket]
	delete(c.answers, ticket)
	return a, ok
}

// apply applies a member's log as far as it is committed.
func (c *Cluster) apply(i int) {
	m := c.find(i)
	if m.Dead() {
		return
	}
	if m.adopt() {
		// No command was proposed in term 0: what became of those within the snapshot is not known.
		c.answerCommands(i, m.applied, 0, api.Done{})
	}
	for m.applied < m.Commit() && !m.Dead() {
		entry, ok := m.Wal().Entry(m.applied + 1)
		if !ok {
			return
		}
		done := m.execute(entry)
		if !m.Dead() {
			c.answerCommands(i, entry.Index, entry.Term, done)
		}
	}
}

// answerCommands answers the commands up to an index, of which the last one came to this if it was proposed in that term.
func (c *Cluster) answerCommands(i int, index, term int64, done api.Done) {
	for _, ticket := range c.waiting(i) {
		r := c.open[ticket]
		switch {
		case r.read > 0 || r.index > index:
		case r.index == index && r.term == term:
			c.answer(ticket, api.Answer{Code: done.Code, N: done.N})
		default:
			c.answer(ticket, api.Answer{Code: api.ErrRetry})
		}
	}
}

// answerReads answers the queries of a member that are ready, and those that will not be any more.
func (c *Cluster) answerReads(i int) {
	m := c.find(i)
	for _, ticket := range c.waiting(i) {
		r := c.open[ticket]
		if r.read == 0 {
			continue
		}
		if _, ready := m.Ready(r.read); ready {
			// What is committed has been applied: the log is applied whenever the raft has acted.
			c.answer(ticket, m.result(r.text))
		} else if !m.Waits(r.read) {
			c.answer(ticket, api.Answer{Code: api.ErrRetry})
		}
	}
}

// result is the result of a query.
func (m *member) result(text string) api.Answer {
	q, _, e := query.Parse(text)
	if e != api.OK {
		return api.Answer{Code: e}
	}
	p, e := plan.Make(m.catalog.Cols(), q)
	if e != api.OK {
		return api.Answer{Code: e}
	}
	segs, e := m.segments()
	if e != api.OK {
		return api.Answer{Code: e}
	}
	rows, e := exec.Run(p, segs...)
	return api.Answer{Code: e, Rows: rows}
}

// segments are the segments of the parts; files that are damaged are removed.
func (m *member) segments() ([]*segment.Segment, api.Errno) {
	var segs []*segment.Segment
	away := false
	for name, data := range m.files() {
		g, e := segment.Open(data)
		if e != api.OK {
			away = true
			m.remove(name)
		}
		segs = append(segs, g)
	}
	if away {
		return nil, api.ErrAway
	}
	return segs, api.OK
}
