package desk

import (
	"iter"
	"slices"
	"strings"

	"stackyard/api"
	"stackyard/value"
)

// The kinds of arguments.
const (
	number  = 'n'
	anyMany = 'v' // any number of values
)

const maxDigits = 18

// line is a line that is no comment: its number and its words.
type line struct {
	at    int
	words []word
}

// word is what a word stands for; plain if it is not quoted.
type word struct {
	text  string
	plain bool
}

// formOf are the kinds of a line's arguments; false if no line has that name.
func formOf(name string) (string, bool) {
	switch name {
	case "merge", "compact", "parts":
		return "", true
	case "lead", "crash":
		return "n", true
	case "cluster":
		return "nn", true
	case "create", "query":
		return "t", true
	case "ingest":
		return "nnnv", true
	}
	return "", false
}

// parse reads the lines of a script that are no comments.
func parse(text string) ([]line, int, api.Errno) {
	if len(text) > api.MaxScript {
		return nil, 0, api.ErrDeskLong
	}
	var l []line
	wrong := 0
	for at, s := range lines(text) {
		s = strings.TrimLeft(s, " ")
		if s == "" || s[0] == '#' {
			continue
		}
		words, ok := split(s)
		if wrong == 0 && (!ok || !hasForm(words)) {
			wrong = at
		}
		l = append(l, line{at, words})
	}
	switch {
	case len(l) > api.MaxLines:
		return nil, 0, api.ErrDeskLong
	case wrong > 0:
		return nil, wrong, api.ErrDeskLine
	}
	return l, 0, api.OK
}

// lines visits the lines of a text, with their numbers.
func lines(text string) iter.Seq2[int, string] {
	return func(yield func(int, string) bool) {
		at := 0
		for s := range strings.SplitSeq(text, "\n") {
			if at++; !yield(at, s) {
				return
			}
		}
	}
}

// split tells the words of a line that does not begin with a blank.
func split(s string) ([]word, bool) {
	var l []word
	for s != "" {
		w, n := wordOf(s)
		if n == 0 {
			return nil, false
		}
		l = append(l, w)
		s = strings.TrimLeft(s[n:], " ")
	}
	return l, true
}

// wordOf is the word with which a text begins, and how many bytes it takes; 0 if there is none.
func wordOf(s string) (word, int) {
	if s[0] == '"' {
		return quotedOf(s)
	}
	n := strings.IndexByte(s+" ", ' ')
	if strings.Contains(s[:n], `"`) {
		return word{}, 0
	}
	return word{s[:n], true}, n
}

// quotedOf is the quoted word with which a text begins.
func quotedOf(s string) (word, int) {
	var b strings.Builder
	for i := 1; i < len(s); i++ {
		switch {
		case s[i] != '"':
			b.WriteByte(s[i])
		case i+1 < len(s) && s[i+1] == '"':
			b.WriteByte('"')
			i++
		case i+1 < len(s) && s[i+1] != ' ':
			return word{}, 0
		default:
			return word{text: b.String()}, i + 1
		}
	}
	return word{}, 0
}

// hasForm tells whether a line has its first word and the arguments that it asks for.
func hasForm(words []word) bool {
	form, ok := formOf(words[0].text)
	if !ok || !words[0].plain {
		return false
	}
	args := words[1:]
	if fixed, many := strings.CutSuffix(form, string(anyMany)); many && len(args) >= len(fixed) {
		if slices.ContainsFunc(args[len(fixed):], isNoValue) {
			return false
		}
		form, args = fixed, args[:len(fixed)]
	}
	if len(args) != len(form) {
		return false
	}
	for i, kind := range form {
		if kind == number && !isNumber(args[i]) {
			return false
		}
	}
	return true
}

func isNoValue(w word) bool {
	_, e := value.Parse(w.text)
	return e != api.OK
}

func isNumber(w word) bool {
	if !w.plain || len(w.text) > maxDigits || w.text[0] == '0' && len(w.text) > 1 {
		return false
	}
	for _, r := range w.text {
		if r < '0' || r > '9' {
			return false
		}
	}
	return true
}

// number is an argument that is a number.
func (x line) number(i int) int {
	n := 0
	for _, r := range x.words[i].text {
		n = 10*n + int(r-'0')
	}
	return n
}

// rows are the rows of a line that ingests.
func (x line) rows() ([]api.Row, api.Errno) {
	const first = 4
	width, values := x.number(first-1), x.words[first:]
	if width < 1 || len(values)%width != 0 {
		return nil, api.ErrArg
	}
	var rows []api.Row
	for part := range slices.Chunk(values, width) {
		var row api.Row
		for _, w := range part {
			v, e := value.Parse(w.text)
			if e != api.OK {
				return nil, e
			}
			row = append(row, v)
		}
		rows = append(rows, row)
	}
	return rows, api.OK
}
