package commit

import (
	"strconv"
	"strings"

	"cartulary/api"
	"cartulary/object"
)

// Parse: the commit of its bytes.
func Parse(s string) (c api.Change, e api.Errno) {
	r := &reader{rest: s}
	e = attempt(func() { c = r.change() })
	if e == api.OK {
		e = Check(c)
	}
	if e != api.OK {
		return api.Change{}, e
	}
	return c, api.OK
}

// ParseTag: the tag of its bytes.
func ParseTag(s string) (t api.Label, e api.Errno) {
	r := &reader{rest: s}
	e = attempt(func() { t = r.label() })
	if e == api.OK {
		e = CheckTag(t)
	}
	if e != api.OK {
		return api.Label{}, e
	}
	return t, api.OK
}

// reader takes a text's lines one behind another. Whatever isn't as it should be, it gives up by a panic with a badText.
type reader struct {
	rest string
}

// badText has a type of its own, so that no other panic is taken for one.
type badText struct{}

// attempt: the error with which reading gave up; OK: it did not.
func attempt(read func()) (e api.Errno) {
	defer func() {
		switch cause := recover().(type) {
		case nil:
		case badText:
			e = api.ErrText
		default:
			panic(cause)
		}
	}()
	read()
	return api.OK
}

// change: what the lines of a commit say, in form or not.
func (r *reader) change() api.Change {
	var c api.Change
	c.Tree = r.line(treeWord)
	for strings.HasPrefix(r.rest, parentWord) {
		c.Parents = append(c.Parents, r.line(parentWord))
	}
	c.Author = r.sign(authorWord)
	c.Committer = r.sign(committerWord)
	c.Message = r.message()
	return c
}

// label: what the lines of a tag say, in form or not.
func (r *reader) label() api.Label {
	var t api.Label
	t.Object = r.line(objectWord)
	t.Kind = object.Kind(r.line(typeWord))
	t.Name = r.line(tagWord)
	t.Tagger = r.sign(taggerWord)
	t.Message = r.message()
	return t
}

// line: what stands behind its word in the next line.
func (r *reader) line(word string) string {
	line, rest, ended := strings.Cut(r.rest, end)
	text, begins := strings.CutPrefix(line, word)
	if !ended || !begins {
		panic(badText{})
	}
	r.rest = rest
	return text
}

// message: what stands behind the empty line, which is the next one.
func (r *reader) message() string {
	text, parted := strings.CutPrefix(r.rest, end)
	if !parted {
		panic(badText{})
	}
	return text
}

// sign: what is signed behind its word in the next line. Who may have blanks of its own: the last two count.
func (r *reader) sign(word string) api.Sign {
	ahead, offset := cutLast(r.line(word))
	who, seconds := cutLast(ahead)
	return api.Sign{Who: who, Time: number(seconds), Zone: minutes(offset)}
}

// cutLast: what stands ahead of the last blank, and behind it.
func cutLast(text string) (ahead, behind string) {
	at := strings.LastIndex(text, blank)
	if at < 0 {
		panic(badText{})
	}
	return text[:at], text[at+len(blank):]
}

// number: the int that is written so. Atoi knows other ways to write one, with a + or noughts ahead.
func number(text string) int {
	n, err := strconv.Atoi(text)
	if err != nil || strconv.Itoa(n) != text {
		panic(badText{})
	}
	return n
}

// minutes: of the zone that is written so. Read as one number, hours are its hundreds; whatever isn't of a sign and
// four digits, or has 60 minutes or more, or is -0000, is written otherwise.
func minutes(text string) int {
	n, err := strconv.Atoi(text)
	total := n/100*hour + n%100
	if err != nil || zone(total) != text {
		panic(badText{})
	}
	return total
}
