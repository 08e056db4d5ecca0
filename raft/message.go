package raft

import (
	"math"

	"stackyard/api"
	"stackyard/net"
	"stackyard/wire"
)

// The kinds of messages.
const (
	kindAsk   = 1 // for a vote
	kindVote  = 2
	kindLog   = 3 // a leader's entries
	kindSnap  = 4 // a leader's snapshot
	kindHeard = 5 // the answer to a leader
)

const (
	headBytes   = 3      // the kind, from whom, to whom
	maxSent     = 300000 // bytes of the entries in a message, unless a single one has more
	maxSentMany = 1000   // entries in a message
)

// message is what one member tells another. Each kind uses some of the fields:
//
//	ask:   the index and the term of the last entry
//	vote:  yes
//	log:   the index and the term of the entry before the first one, commit, round, entries
//	snap:  the index, the term and the data of the snapshot, round
//	heard: yes, and up to which index the logs agree, or no, and where they may agree; round
type message struct {
	kind      int
	from, to  int
	term      int64
	index     int64
	indexTerm int64
	commit    int64
	round     int64
	yes       bool
	entries   []api.Entry
	data      string
}

// onlyOwn is the message without the fields that its kind does not use.
func (x message) onlyOwn() message {
	own := message{kind: x.kind, from: x.from, to: x.to, term: x.term}
	switch x.kind {
	case kindAsk:
		own.index, own.indexTerm = x.index, x.indexTerm
	case kindVote:
		own.yes = x.yes
	case kindLog:
		own.index, own.indexTerm, own.commit, own.round, own.entries = x.index, x.indexTerm, x.commit, x.round, x.entries
	case kindSnap:
		own.index, own.indexTerm, own.round, own.data = x.index, x.indexTerm, x.round, x.data
	case kindHeard:
		own.index, own.round, own.yes = x.index, x.round, x.yes
	}
	return own
}

// lay is the sealed form of a message.
func (x message) lay() string {
	b := []byte{byte(x.kind), byte(x.from), byte(x.to)}
	b = appendNumbers(b, x.term, x.index, x.indexTerm, x.commit, x.round, flag(x.yes), int64(len(x.entries)))
	for _, entry := range x.entries {
		b = appendNumbers(b, entry.Term)
		b = appendText(b, entry.Data)
	}
	return net.Seal(string(appendText(b, x.data)))
}

func appendNumbers(b []byte, l ...int64) []byte {
	for _, n := range l {
		b = append(b, wire.Number(nil, uint64(n))...)
	}
	return b
}

// appendText lays data, which is no longer than a string may be.
func appendText(b []byte, s string) []byte {
	code, _ := wire.Text(nil, s)
	return append(b, code...)
}

func flag(set bool) int64 {
	if set {
		return 1
	}
	return 0
}

// parse reads a message that a member made.
func parse(m api.Msg) (message, bool) {
	s, e := net.Unseal(m.Data)
	if e != api.OK || len(s) < headBytes {
		return message{}, false
	}
	p := reader{b: []byte(s), at: headBytes}
	x := message{kind: int(s[0]), from: int(s[1]), to: int(s[2])}
	x.term, x.index, x.indexTerm, x.commit, x.round = p.number(), p.number(), p.number(), p.number(), p.number()
	x.yes = p.number() == 1
	x.entries = p.entries(x.index)
	x.data = p.text()
	if p.failed || x.from != m.From || x.to != m.To || x.kind < kindAsk || x.kind > kindHeard || x.term < 1 || !isOrdered(x) {
		return message{}, false
	}
	// A message is laid in one way: other bytes that may be read as one are none.
	return x, x.onlyOwn().lay() == m.Data
}

// isOrdered tells whether a log may have the message's entries behind the one before them.
func isOrdered(x message) bool {
	term := max(1, x.indexTerm)
	for _, entry := range x.entries {
		if entry.Term < term || entry.Term > x.term {
			return false
		}
		term = entry.Term
	}
	return true
}

// reader reads a message from the front to the end.
type reader struct {
	b      []byte
	at     int
	failed bool
}

func (p *reader) number() int64 {
	n, next, e := wire.TakeNumber(p.b, p.at)
	if e != api.OK || n > math.MaxInt64 {
		p.failed = true
		return 0
	}
	p.at = next
	return int64(n)
}

func (p *reader) text() string {
	s, next, e := wire.TakeText(p.b, p.at, api.MaxData)
	if e != api.OK {
		p.failed = true
		return ""
	}
	p.at = next
	return s
}

// entries reads the entries behind an index.
func (p *reader) entries(index int64) []api.Entry {
	many := p.number()
	if many > math.MaxInt64-index {
		p.failed = true
	}
	var l []api.Entry
read:
	for range many {
		if p.failed {
			break read
		}
		index++
		l = append(l, api.Entry{Index: index, Term: p.number(), Data: p.text()})
	}
	return l
}
