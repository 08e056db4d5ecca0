package wal

import (
	"iter"
	"math"

	"stackyard/api"
	"stackyard/wire"
)

// The kinds of payloads.
const (
	kindState = 1
	kindEntry = 2
	kindCut   = 3
	kindSnap  = 4
)

const (
	wordBytes  = 4
	headBytes  = 2 * wordBytes
	maxPayload = 1048576
)

// What stands at a place of the file.
const (
	whole = iota
	torn
	damaged
)

// record is what stands at a place of the file, and where it ends.
type record struct {
	kind    int
	payload []byte
	end     int
}

func layRecord(payload []byte) []byte {
	head := word(uint32(len(payload)))
	b := append(head, word(wire.Sum(head))...)
	b = append(b, payload...)
	return append(b, word(wire.Sum(payload))...)
}

func word(n uint32) []byte {
	return []byte{byte(n), byte(n >> 8), byte(n >> 16), byte(n >> 24)}
}

func wordAt(b []byte) uint32 {
	return uint32(b[0]) | uint32(b[1])<<8 | uint32(b[2])<<16 | uint32(b[3])<<24
}

func layState(s api.State) []byte {
	b := wire.Number([]byte{kindState}, uint64(s.Term))
	return layRecord(wire.Number(b, uint64(s.Vote)))
}

func layEntry(entry api.Entry) []byte {
	return layRecord(layData(kindEntry, entry.Index, entry.Term, entry.Data))
}

func layCut(i int64) []byte {
	return layRecord(wire.Number([]byte{kindCut}, uint64(i)))
}

// layData lays an index, a term and data, which is no longer than a string may be.
func layData(kind byte, index, term int64, data string) []byte {
	b := wire.Number(wire.Number([]byte{kind}, uint64(index)), uint64(term))
	b, _ = wire.Text(b, data)
	return b
}

// layContent lays records that say what the log has.
func layContent(c content) []byte {
	b := layRecord(layData(kindSnap, c.snap.Index, c.snap.Term, c.snap.Data))
	if c.state != (api.State{}) {
		b = append(b, layState(c.state)...)
	}
	for _, entry := range c.entries {
		b = append(b, layEntry(entry)...)
	}
	return b
}

// records visits what stands in a file, up to the end or to the first thing that is no whole record.
func records(b []byte) iter.Seq[record] {
	return func(yield func(record) bool) {
		for at := 0; at < len(b); {
			r := recordAt(b, at)
			if !yield(r) || r.kind != whole {
				return
			}
			at = r.end
		}
	}
}

func recordAt(b []byte, at int) record {
	rest := b[at:]
	if len(rest) < headBytes {
		return record{kind: torn}
	}
	n := int(wordAt(rest))
	if wire.Sum(rest[:wordBytes]) != wordAt(rest[wordBytes:]) || n > maxPayload {
		return record{kind: damaged}
	}
	rest = rest[headBytes:]
	if len(rest) < n+wordBytes {
		return record{kind: torn}
	}
	if wire.Sum(rest[:n]) != wordAt(rest[n:]) {
		return record{kind: damaged}
	}
	return record{whole, rest[:n], at + headBytes + n + wordBytes}
}

// read takes what the records of a file say.
func (w *Wal) read(b []byte) api.Errno {
visit:
	for r := range records(b) {
		switch {
		case r.kind == torn:
			w.torn = true
			break visit
		case r.kind == damaged || !w.log.apply(r.payload, w.size == 0):
			return api.ErrWalForm
		}
		w.size = r.end
	}
	if w.size == 0 {
		return api.ErrWalForm
	}
	return api.OK
}

// apply does what a record says, and tells whether it is admissible.
func (c *content) apply(payload []byte, first bool) bool {
	if len(payload) == 0 || first != (payload[0] == kindSnap) {
		return false
	}
	p := reader{b: payload, at: 1}
	switch payload[0] {
	case kindState:
		s := api.State{Term: p.number(), Vote: p.number()}
		if !p.isDone() || !isState(s) || s.Term < c.state.Term {
			return false
		}
		c.state = s
		return true
	case kindEntry:
		entry := api.Entry{Index: p.number(), Term: p.number(), Data: p.text()}
		return p.isDone() && c.append(entry)
	case kindCut:
		i := p.number()
		if !p.isDone() || !c.has(i) {
			return false
		}
		c.cut(i)
		return true
	case kindSnap:
		c.snap = api.Snap{Index: p.number(), Term: p.number(), Data: p.text()}
		return p.isDone()
	}
	return false
}

// reader reads a payload from the front to the end.
type reader struct {
	b      []byte
	at     int
	failed bool
}

func (p *reader) number() int64 {
	n, next, e := wire.TakeNumber(p.b, p.at)
	if e != api.OK || n > math.MaxInt64 {
		p.failed = true
		return 0
	}
	p.at = next
	return int64(n)
}

func (p *reader) text() string {
	s, next, e := wire.TakeText(p.b, p.at, api.MaxData)
	if e != api.OK {
		p.failed = true
		return ""
	}
	p.at = next
	return s
}

// isDone tells whether all was read, and nothing failed.
func (p *reader) isDone() bool { return !p.failed && p.at == len(p.b) }
