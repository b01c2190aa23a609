package refs

import (
	"strings"

	"cartulary/api"
	"cartulary/sums"
)

// parse: the packed references of packed-refs' text.
func parse(text string) (map[string]target, api.Errno) {
	p := &parser{packed: map[string]target{}}
	for text != "" {
		line, rest, ended := strings.Cut(text, end)
		if !ended {
			return nil, api.ErrText
		}
		if e := p.line(line); e != api.OK {
			return nil, e
		}
		text = rest
	}
	return p.packed, api.OK
}

// parser is what the lines so far have said.
type parser struct {
	packed map[string]target
	// last is the name of which a ^ may still say more; empty: there is none.
	last string
}

// line takes the next one.
func (p *parser) line(line string) api.Errno {
	if strings.HasPrefix(line, "#") {
		return api.OK
	}
	if id, peeled := strings.CutPrefix(line, "^"); peeled {
		return p.peel(id)
	}
	return p.pack(line)
}

// peel takes what the tag of the last one leads to.
func (p *parser) peel(id string) api.Errno {
	if p.last == "" || !sums.Id(id) {
		return api.ErrText
	}
	p.packed[p.last] = target{id: p.packed[p.last].id, peeled: id}
	p.last = ""
	return api.OK
}

// pack takes a reference.
func (p *parser) pack(line string) api.Errno {
	id, name, _ := strings.Cut(line, " ")
	if !sums.Id(id) || !Name(name) || name == head {
		return api.ErrText
	}
	if _, twice := p.packed[name]; twice {
		return api.ErrForm
	}
	if len(p.packed) == api.MaxFiles {
		return api.ErrBig
	}
	p.packed[name] = target{id: id}
	p.last = name
	return api.OK
}
