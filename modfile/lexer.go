package modfile

import (
	"strings"
)

// The bytes that end a word or a string, or say that another one follows.
const (
	tab       = 9
	lineEnd   = 10
	carriage  = 13
	blank     = 32
	quote     = 34
	opening   = '('
	closing   = ')'
	backslash = 92
	rawQuote  = 96
	// nothing is told behind the text's last byte: it is no byte.
	nothing = -1
)

// remark is what a remark begins with.
const remark = "//"

// kind is a token's kind.
type kind int

const (
	none kind = iota
	endsText
	endsLine
	opens
	shuts
	word  // or a string: they are the same to a line
	wrong // a string without its end, or with another byte behind a backslash
)

// token is a piece of a text; what a word or a string says.
type token struct {
	kind kind
	says string
}

// lexer takes tokens from a text, one behind the other.
type lexer struct {
	text string
	at   int
}

// next takes a token. A word's bytes are copied, so that it doesn't hold all of the text.
func (l *lexer) next() token {
	var says []byte
	var from, c int
between:
	from = l.at
	if l.remarkHere() {
		goto remarked
	}
	switch l.take() {
	case nothing:
		return token{kind: endsText}
	case lineEnd:
		return token{kind: endsLine}
	case opening:
		return token{kind: opens}
	case closing:
		return token{kind: shuts}
	case blank, tab, carriage:
		goto between
	case quote:
		goto quoted
	case rawQuote:
		goto raw
	}
inWord:
	if l.wordEndsHere() {
		return token{kind: word, says: strings.Clone(l.text[from:l.at])}
	}
	l.take()
	goto inWord
remarked:
	if c = l.look(); c == lineEnd || c == nothing {
		goto between
	}
	l.take()
	goto remarked
raw:
	switch l.take() {
	case rawQuote:
		return token{kind: word, says: strings.Clone(l.text[from+1 : l.at-1])}
	case lineEnd, nothing:
		return token{kind: wrong}
	}
	goto raw
quoted:
	c = l.take()
	switch c {
	case quote:
		return token{kind: word, says: string(says)}
	case backslash:
		c = meant(l.take())
	case lineEnd:
		c = nothing
	}
	if c == nothing {
		return token{kind: wrong}
	}
	says = append(says, byte(c))
	goto quoted
}

// meant: the byte that a backslash and this one say; nothing: they say none.
func meant(c int) int {
	switch c {
	case quote, backslash:
		return c
	case 'n':
		return lineEnd
	case 't':
		return tab
	}
	return nothing
}

// look: the next byte, which stays there.
func (l *lexer) look() int {
	if l.at == len(l.text) {
		return nothing
	}
	return int(l.text[l.at])
}

// take: the next byte, which goes by.
func (l *lexer) take() int {
	c := l.look()
	if c != nothing {
		l.at++
	}
	return c
}

// remarkHere: does a remark begin here?
func (l *lexer) remarkHere() bool {
	return strings.HasPrefix(l.text[l.at:], remark)
}

// wordEndsHere: is what comes next no more of a word?
func (l *lexer) wordEndsHere() bool {
	switch l.look() {
	case nothing, lineEnd, blank, tab, carriage, opening, closing, quote, rawQuote:
		return true
	}
	return l.remarkHere()
}

// row is a line as it is written: its words, the bracket behind them (opens, shuts or none), and whether the text ends with it.
type row struct {
	words   []string
	bracket kind
	last    bool
}

// row takes a line; false: a string in it is wrong, or something stands behind a bracket.
func (l *lexer) row() (row, bool) {
	var r row
	for {
		t := l.next()
		switch {
		case t.kind == endsLine || t.kind == endsText:
			r.last = t.kind == endsText
			return r, true
		case t.kind == wrong || r.bracket != none:
			return row{}, false
		case t.kind == word:
			r.words = append(r.words, t.says)
		default:
			r.bracket = t.kind
		}
	}
}
