package catalog

import (
	"stackyard/api"
	"stackyard/schema"
	"stackyard/wire"
)

// The kinds of commands.
const (
	kindCreate = 1
	kindIngest = 2
	kindMerge  = 3
)

const (
	maxID     = 1 << 62 // of clients and their numbers
	leastPart = 2       // parts that are merged
	nameBytes = 64
)

// command is what a command says; each kind has some of the fields.
type command struct {
	kind           byte
	cols           []api.Column
	client, number int64
	rows           []api.Row
	names          []string
	data           string
}

// Create is the command that sets the schema.
func Create(cols []api.Column) (string, api.Errno) {
	b, e := schema.Lay([]byte{kindCreate}, cols)
	return string(b), e
}

// Ingest is a client's command that adds rows.
func Ingest(client, number int64, cols []api.Column, rows []api.Row) (string, api.Errno) {
	if client < 0 || client > maxID || number < 1 || number > maxID || len(rows) == 0 {
		return "", api.ErrArg
	}
	code, e := schema.LayRows(nil, cols, rows)
	if e != api.OK {
		return "", e
	}
	b := wire.Number(wire.Number([]byte{kindIngest}, uint64(client)), uint64(number))
	if b, e = schema.Lay(b, cols); e != api.OK {
		return "", e
	}
	return limited(append(b, code...))
}

// Merge is the command that puts a segment in the place of parts.
func Merge(names []string, data string) (string, api.Errno) {
	if len(names) < leastPart || len(names) > api.MaxParts || len(data) > api.MaxData {
		return "", api.ErrArg
	}
	b := wire.Number([]byte{kindMerge}, uint64(len(names)))
	for _, text := range append(names[:len(names):len(names)], data) {
		code, e := wire.Text(nil, text)
		if e != api.OK {
			return "", api.ErrArg
		}
		b = append(b, code...)
	}
	for _, name := range names {
		if len(name) != nameBytes {
			return "", api.ErrArg
		}
	}
	return limited(b)
}

func limited(b []byte) (string, api.Errno) {
	if len(b) > api.MaxData {
		return "", api.ErrMany
	}
	return string(b), api.OK
}

// parse reads a command.
func parse(cmd string) (command, bool) {
	if cmd == "" || len(cmd) > api.MaxData {
		return command{}, false
	}
	x := command{kind: cmd[0]}
	take := taking(cmd, 1)
	switch x.kind {
	case kindCreate:
		x.cols = take.schema()
	case kindIngest:
		x.client, x.number = take.number(0, maxID), take.number(1, maxID)
		x.cols = take.schema()
		x.rows = take.rows(x.cols)
	case kindMerge:
		for range take.number(leastPart, api.MaxParts) {
			x.names = append(x.names, take.name())
		}
		x.data = take.text(api.MaxData)
	default:
		return command{}, false
	}
	return x, take.isDone()
}

// taker reads what stands in a string, from the front to the end. After something that does not belong there, everything that is taken is empty.
type taker struct {
	number func(least, most int64) int64
	text   func(most int) string
	name   func() string
	schema func() []api.Column
	rows   func(cols []api.Column) []api.Row
	isDone func() bool
}

// taking begins to read at a place; what is read advances it.
func taking(s string, at int) taker {
	b := []byte(s)
	failed := false
	advance := func(next int, e api.Errno, isRight bool) bool {
		if failed = failed || e != api.OK || !isRight; failed {
			return false
		}
		at = next
		return true
	}
	var take taker
	take.number = func(least, most int64) int64 {
		n, next, e := wire.TakeNumber(b, at)
		if !advance(next, e, n <= uint64(most) && n >= uint64(least)) {
			return 0
		}
		return int64(n)
	}
	take.text = func(most int) string {
		s, next, e := wire.TakeText(b, at, most)
		if !advance(next, e, true) {
			return ""
		}
		return s
	}
	take.name = func() string {
		s := take.text(nameBytes)
		failed = failed || len(s) != nameBytes
		return s
	}
	take.schema = func() []api.Column {
		cols, next, e := schema.Take(b, at)
		if !advance(next, e, true) {
			return nil
		}
		return cols
	}
	take.rows = func(cols []api.Column) []api.Row {
		rows, next, e := schema.TakeRows(b, at, cols)
		if !advance(next, e, len(rows) > 0) {
			return nil
		}
		return rows
	}
	take.isDone = func() bool { return !failed && at == len(b) }
	return take
}
