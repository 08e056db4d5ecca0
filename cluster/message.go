package cluster

import (
	"stackyard/api"
	"stackyard/net"
)

// The kinds of messages that members exchange besides those of their rafts, which begin with smaller bytes.
const (
	kindNone  = 0
	kindAsk   = 'a' // for the files of these names
	kindFiles = 'f' // the files
)

const (
	nameBytes   = 64
	lengthBytes = 3
	maxFiles    = api.MaxFrame / 2 // bytes of the files in a message, unless a single one has more
)

// layFiles is the sealed form of a message with texts, each behind its length.
func layFiles(kind byte, texts []string) string {
	b := []byte{kind}
	for _, text := range texts {
		n := len(text)
		b = append(b, byte(n), byte(n>>8), byte(n>>16))
		b = append(b, text...)
	}
	return net.Seal(string(b))
}

// parseFiles reads a message with texts; it is of no kind if it is none.
func parseFiles(data string) (byte, []string) {
	s, e := net.Unseal(data)
	if e != api.OK || s == "" || s[0] != kindAsk && s[0] != kindFiles {
		return kindNone, nil
	}
	var texts []string
	for rest := s[1:]; rest != ""; {
		if len(rest) < lengthBytes {
			return kindNone, nil
		}
		n := int(rest[0]) | int(rest[1])<<8 | int(rest[2])<<16
		if rest = rest[lengthBytes:]; n > len(rest) || s[0] == kindAsk && n != nameBytes {
			return kindNone, nil
		}
		texts = append(texts, rest[:n])
		rest = rest[n:]
	}
	return s[0], texts
}

// filesOf are messages with the files of these names that the member has, as many in one as may be.
func (m *member) filesOf(names []string) []string {
	var messages, files []string
	size := 0
	send := func() {
		if len(files) > 0 {
			messages = append(messages, layFiles(kindFiles, files))
		}
		files, size = nil, 0
	}
	for _, name := range names {
		data, ok := m.fileOf(name)
		if !ok {
			continue
		}
		if size+len(data) > maxFiles {
			send()
		}
		files = append(files, data)
		size += len(data)
	}
	send()
	return messages
}
