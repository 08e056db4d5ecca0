package raft

import (
	"stackyard/api"
	"stackyard/wire"
)

// change is what a call makes durable: the state, a snapshot, or the removal of entries from an index on and new ones; and the commit index that it leaves.
type change struct {
	state   api.State
	cut     int64
	entries []api.Entry
	snap    *api.Snap
	commit  int64
}

// recordBytes is how many bytes a record of the log has besides its payload, with the payload's kind.
const recordBytes = 13

// store makes a change durable, or none of it if there is not enough space for all of it.
func (m *Node) store(c change) api.Errno {
	if need := m.sizeOf(c); need > 0 && need > m.d.Left() {
		return api.ErrNoSpc
	}
	if c.state != m.log.State() {
		if e := m.log.SetState(c.state); e != api.OK {
			return e
		}
	}
	if c.snap != nil {
		return m.log.SetSnap(*c.snap)
	}
	if c.cut > 0 {
		if e := m.log.Cut(c.cut); e != api.OK {
			return e
		}
	}
	if len(c.entries) == 0 {
		return api.OK
	}
	return m.log.Append(c.entries...)
}

// sizeOf is how many bytes the records of a change have.
func (m *Node) sizeOf(c change) int {
	size := 0
	if c.state != m.log.State() {
		size += sizeOfNumbers(c.state.Term, c.state.Vote)
	}
	if c.cut > 0 {
		size += sizeOfNumbers(c.cut)
	}
	for _, entry := range c.entries {
		size += sizeOfData(entry.Index, entry.Term, entry.Data)
	}
	if c.snap == nil {
		return size
	}
	// A snapshot is written with all that is kept, before what was there is removed.
	size += sizeOfData(c.snap.Index, c.snap.Term, c.snap.Data) + sizeOfNumbers(c.state.Term, c.state.Vote)
	if term, ok := m.log.TermAt(c.snap.Index); ok && term == c.snap.Term {
		for i := c.snap.Index + 1; i <= m.log.Last(); i++ {
			entry, _ := m.log.Entry(i)
			size += sizeOfData(entry.Index, entry.Term, entry.Data)
		}
	}
	return size
}

func sizeOfNumbers(l ...int64) int {
	return recordBytes + len(appendNumbers(nil, l...))
}

func sizeOfData(index, term int64, data string) int {
	return sizeOfNumbers(index, term) + len(wire.Number(nil, uint64(len(data)))) + len(data)
}
