package cluster

import (
	"iter"
	"slices"
	"strings"

	"stackyard/api"
	"stackyard/catalog"
	"stackyard/disk"
	"stackyard/raft"
	"stackyard/segment"
)

const filePrefix = "s-"

// member is a raft with the catalog that it has applied, on a disk.
type member struct {
	*raft.Node
	disk    *disk.Disk
	catalog *catalog.Catalog
	applied int64
}

// begin creates a member on its disk; with an error it is dead.
func begin(i, n int, d *disk.Disk) (*member, api.Errno) {
	node, e := raft.New(i, n, d)
	return &member{Node: node, disk: d, catalog: catalog.New()}, e
}

// adopt takes over a snapshot of the log that goes beyond what was applied, and tells whether there is one.
func (m *member) adopt() bool {
	s := m.Wal().Snap()
	if s.Index <= m.applied {
		return false
	}
	if loaded, e := catalog.Load(s.Data); e == api.OK {
		m.catalog = loaded
	}
	m.applied = s.Index
	return true
}

// execute applies an entry, and stores the files that come of it.
func (m *member) execute(entry api.Entry) api.Done {
	m.applied = entry.Index
	if entry.Data == "" {
		return api.Done{}
	}
	done, files := m.catalog.Apply(entry.Data)
	for _, f := range files {
		m.store(f)
	}
	return done
}

// store writes a segment's file durably, if there is space and it is not there.
func (m *member) store(f api.File) {
	if _, ok := m.fileOf(f.Name); ok {
		return
	}
	m.remove(f.Name)
	name := filePrefix + f.Name
	if len(f.Data) > m.disk.Left() || m.disk.Create(name) != api.OK {
		return
	}
	if m.disk.Append(name, f.Data) == api.OK && m.disk.Sync(name) == api.OK {
		m.disk.Dir()
	}
}

// remove removes a segment's file, if there is one.
func (m *member) remove(name string) {
	m.disk.Remove(filePrefix + name)
}

// fileOf is a segment's file, if there is one that is not damaged.
func (m *member) fileOf(name string) (string, bool) {
	data, e := m.disk.Read(filePrefix + name)
	if e != api.OK || segment.Name(data) != name {
		return "", false
	}
	return data, true
}

// files visits the parts in order: their names and their files, empty if there is none or it is damaged.
func (m *member) files() iter.Seq2[string, string] {
	return func(yield func(string, string) bool) {
		for _, part := range m.catalog.Parts() {
			data, _ := m.fileOf(part.Name)
			if !yield(part.Name, data) {
				return
			}
		}
	}
}

func (m *member) lacks() []string {
	var l []string
	for name, data := range m.files() {
		if data == "" {
			l = append(l, name)
		}
	}
	slices.Sort(l)
	return slices.Compact(l)
}

// has tells whether the catalog has a part of that name.
func (m *member) has(name string) bool {
	isPart := func(part api.Part) bool { return part.Name == name }
	return slices.ContainsFunc(m.catalog.Parts(), isPart)
}

// take stores a file that was fetched, if it is that of a part.
func (m *member) take(data string) {
	if name := segment.Name(data); m.has(name) {
		m.store(api.File{Name: name, Data: data})
	}
}

// tidy removes the files of segments that are no parts, for good.
func (m *member) tidy() api.Errno {
	many := 0
	for _, file := range m.disk.Names() {
		name, isSegment := strings.CutPrefix(file, filePrefix)
		if !isSegment || m.has(name) {
			continue
		}
		if e := m.disk.Remove(file); e != api.OK {
			return e
		}
		many++
	}
	if many == 0 {
		return api.OK
	}
	return m.disk.Dir()
}

// mergeCommand is the command that merges the first two consecutive parts that make one segment.
func (m *member) mergeCommand() (string, api.Errno) {
	parts := m.catalog.Parts()
	for i := 1; i < len(parts); i++ {
		if parts[i-1].Rows+parts[i].Rows > api.MaxRows {
			continue
		}
		names := []string{parts[i-1].Name, parts[i].Name}
		var rows []api.Row
		for _, name := range names {
			l, e := m.rowsOf(name)
			if e != api.OK {
				return "", e
			}
			rows = append(rows, l...)
		}
		data, e := segment.Write(m.catalog.Cols(), rows)
		if e != api.OK {
			return "", e
		}
		return catalog.Merge(names, data)
	}
	return "", api.ErrArg
}

// rowsOf are the rows of a segment.
func (m *member) rowsOf(name string) ([]api.Row, api.Errno) {
	data, _ := m.fileOf(name)
	g, e := segment.Open(data)
	if e != api.OK {
		return nil, api.ErrAway
	}
	rows := make([]api.Row, g.Rows())
	for c := range g.Cols() {
		l, e := g.Column(c)
		if e != api.OK {
			return nil, e
		}
		for i, v := range l {
			rows[i] = append(rows[i], v)
		}
	}
	return rows, api.OK
}
