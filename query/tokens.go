package query

import (
	"iter"
	"strings"
)

// The kinds of tokens; broken stands for what is none.
const (
	broken = iota
	word
	number
	text
	symbol
	end
)

type token struct {
	kind int
	text string
	at   int
}

// tokens visits the tokens of a text, up to the first that is broken.
func tokens(s string) iter.Seq[token] {
	return func(yield func(token) bool) {
	visit:
		for at := 0; at < len(s); {
			if s[at] == ' ' || s[at] == '\n' {
				at++
				continue visit
			}
			kind, n := tokenOf(s[at:])
			if !yield(token{kind, s[at : at+n], at}) || kind == broken {
				break visit
			}
			at += n
		}
	}
}

// tokenOf is the kind and the length of the token with which a text begins.
func tokenOf(s string) (int, int) {
	switch c := s[0]; {
	case isLetter(c):
		return word, lengthOf(s, func(c byte) bool { return isLetter(c) || isDigit(c) || c == '_' })
	case isDigit(c):
		return number, lengthOf(s, isDigit)
	case c == '\'':
		return textOfQuotes(s)
	case strings.HasPrefix(s, "<="):
		return symbol, 2
	case strings.IndexByte("(),+-*/%=<", c) >= 0:
		return symbol, 1
	}
	return broken, 0
}

func isLetter(c byte) bool { return 'a' <= c && c <= 'z' }

func isDigit(c byte) bool { return '0' <= c && c <= '9' }

// lengthOf is how many bytes at the beginning belong.
func lengthOf(s string, belongs func(byte) bool) int {
	n := 0
	for n < len(s) && belongs(s[n]) {
		n++
	}
	return n
}

// textOfQuotes is the token of a text that begins with a quote.
func textOfQuotes(s string) (int, int) {
	for i := 1; i < len(s); i++ {
		if s[i] != '\'' {
			continue
		}
		if i+1 == len(s) || s[i+1] != '\'' {
			return text, i + 1
		}
		i++
	}
	return broken, 0
}
