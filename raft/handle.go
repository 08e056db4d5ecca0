package raft

import (
	"stackyard/api"
)

// Handle processes a message.
func (m *Node) Handle(x api.Msg) api.Errno {
	if e := m.check(); e != api.OK {
		return e
	}
	if x.To != m.id || x.From == m.id || x.From < 1 || x.From > m.n {
		return api.ErrArg
	}
	in, ok := parse(x)
	if !ok {
		return api.ErrNetForm
	}
	switch in.kind {
	case kindAsk:
		return m.handleAsk(in)
	case kindVote:
		return m.handleVote(in)
	case kindHeard:
		return m.handleHeard(in)
	}
	return m.handleLeader(in)
}

// stateFor is the state that a message of a term leaves.
func (m *Node) stateFor(term int64) api.State {
	s := m.log.State()
	if term > s.Term {
		return api.State{Term: term}
	}
	return s
}

// outgrow gives way to a later term.
func (m *Node) outgrow(term int64) api.Errno {
	if e := m.store(change{state: m.stateFor(term)}); e != api.OK {
		return e
	}
	m.follow(0)
	return api.OK
}

// handleAsk votes for a candidate, if its log has all that may be committed and no other one has the vote.
func (m *Node) handleAsk(x message) api.Errno {
	isNew := x.term > m.term()
	state := m.stateFor(x.term)
	hasAll := x.indexTerm > m.lastTerm() || x.indexTerm == m.lastTerm() && x.index >= m.log.Last()
	yes := hasAll && x.term == state.Term && (state.Vote == 0 || state.Vote == int64(x.from))
	if yes {
		state.Vote = int64(x.from)
	}
	if e := m.store(change{state: state}); e != api.OK {
		return e
	}
	if isNew {
		m.follow(0)
	}
	m.send(message{kind: kindVote, to: x.from, yes: yes})
	return api.OK
}

// handleVote counts a vote; a majority makes a leader.
func (m *Node) handleVote(x message) api.Errno {
	if x.term > m.term() {
		return m.outgrow(x.term)
	}
	if m.role != candidate || x.term < m.term() || !x.yes {
		return api.OK
	}
	many := 1
	for i := range m.members() {
		if m.others.votes[i] || i == x.from {
			many++
		}
	}
	if m.isMajority(many) {
		entry := api.Entry{Index: m.log.Last() + 1, Term: m.term()}
		if e := m.log.Append(entry); e != api.OK {
			return e
		}
		m.lead()
		return api.OK
	}
	m.others.votes[x.from] = true
	return api.OK
}

// handleHeard learns how far a follower's log agrees, and sends it more if it lacks more.
func (m *Node) handleHeard(x message) api.Errno {
	if x.term > m.term() {
		return m.outgrow(x.term)
	}
	if m.role != leader || x.term < m.term() {
		return api.OK
	}
	if x.index > m.log.Last() || x.round > m.round {
		return api.ErrNetForm
	}
	o := &m.others
	o.heard[x.from] = max(o.heard[x.from], x.round)
	if !x.yes {
		// An answer that came late tells nothing new.
		if next := max(x.index, o.match[x.from]) + 1; next < o.next[x.from] {
			o.next[x.from] = next
			m.sendLog(x.from)
		}
		return api.OK
	}
	if x.index <= o.match[x.from] {
		return api.OK
	}
	o.match[x.from] = x.index
	o.next[x.from] = x.index + 1
	m.advance()
	if x.index < m.log.Last() {
		m.sendLog(x.from)
	}
	return api.OK
}

// handleLeader takes over what a leader sends.
func (m *Node) handleLeader(x message) api.Errno {
	if x.term < m.term() {
		m.send(message{kind: kindHeard, to: x.from, round: x.round})
		return api.OK
	}
	take := m.takeLog
	if x.kind == kindSnap {
		take = m.takeSnap
	}
	plan, answer, ok := take(x)
	// There is one leader in a term, and it does not call on itself.
	if !ok || x.term == m.term() && m.role == leader {
		return api.ErrNetForm
	}
	plan.state = m.stateFor(x.term)
	if e := m.store(plan); e != api.OK {
		return e
	}
	m.follow(x.from)
	m.commit = max(m.commit, plan.commit)
	answer.kind, answer.to, answer.round = kindHeard, x.from, x.round
	m.send(answer)
	return api.OK
}

// takeSnap is what a leader's snapshot changes, and the answer to it; false if no leader has sent it.
func (m *Node) takeSnap(x message) (change, message, bool) {
	answer := message{yes: true, index: x.index}
	if x.index <= m.commit {
		return change{}, answer, true
	}
	s := api.Snap{Index: x.index, Term: x.indexTerm, Data: x.data}
	return change{snap: &s, commit: s.Index}, answer, s.Term >= m.log.Snap().Term
}

// takeLog is what a leader's entries change, and the answer to them; false if no leader has sent them.
func (m *Node) takeLog(x message) (change, message, bool) {
	if !m.agrees(x.index, x.indexTerm) {
		return change{}, message{index: m.hint(x.index)}, x.index > m.commit
	}
	end := x.index + int64(len(x.entries))
	plan := change{commit: min(x.commit, end)}
compare:
	for i, entry := range x.entries {
		term, ok := m.log.TermAt(entry.Index)
		switch {
		case entry.Index <= m.log.Snap().Index || ok && term == entry.Term:
			continue compare
		case ok:
			plan.cut = entry.Index
		}
		plan.entries = x.entries[i:]
		break compare
	}
	// What is committed is never cut.
	return plan, message{yes: true, index: end}, plan.cut == 0 || plan.cut > m.commit
}

// agrees tells whether the log has an entry, or a snapshot that stands for it.
func (m *Node) agrees(index, term int64) bool {
	own, ok := m.log.TermAt(index)
	return index < m.log.Snap().Index || ok && own == term
}

// hint is an index ahead of the given one at which the logs may agree: it passes over a whole term.
func (m *Node) hint(index int64) int64 {
	term, ok := m.log.TermAt(index)
	if !ok {
		return m.log.Last()
	}
	for index > m.commit {
		if own, _ := m.log.TermAt(index); own != term {
			return index
		}
		index--
	}
	return index
}
