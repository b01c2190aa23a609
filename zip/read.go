package zip

import (
	"cartulary/api"
	"cartulary/inflate"
	"cartulary/sums"
)

// endBytes is how many bytes the end has.
const endBytes = 22

// Read: the files of an archive.
func Read(s string) (files []api.File, e api.Errno) {
	if len(s) > 2*api.MaxZip {
		return nil, api.ErrBig
	}
	if len(s) < endBytes {
		return nil, api.ErrEnd
	}
	e = attempt(func() { files = filesOf(s) })
	if e == api.OK {
		e = Check(files)
	}
	if e != api.OK {
		return nil, e
	}
	return files, api.OK
}

// reader takes an archive's bytes one behind another. Its methods give up by a panic with a failure.
type reader struct {
	text string
	at   int
}

// failure has a type of its own, so that no other panic is taken for one.
type failure struct {
	e api.Errno
}

// attempt: the error with which reading gave up; OK: it did not.
func attempt(read func()) (e api.Errno) {
	defer func() {
		cause := recover()
		if cause == nil {
			return
		}
		f, ok := cause.(failure)
		if !ok {
			panic(cause)
		}
		e = f.e
	}()
	read()
	return api.OK
}

// refuse gives up with an error, if there is a fault.
func refuse(fault bool, e api.Errno) {
	if fault {
		panic(failure{e})
	}
}

// take: the next n bytes.
func (r *reader) take(n int) string {
	refuse(len(r.text)-r.at < n, api.ErrEnd)
	r.at += n
	return r.text[r.at-n : r.at]
}

// fixed goes by the next bytes, which have to be these.
func (r *reader) fixed(text string) {
	refuse(r.take(len(text)) != text, api.ErrText)
}

// number: that of the next n bytes.
func (r *reader) number(n int) int {
	return int(sums.FromLittle(r.take(n)))
}

// filesOf: the files of an archive that has bytes enough for an end; Check isn't asked yet.
func filesOf(s string) []api.File {
	end := len(s) - endBytes
	count, first := ending(s, end)
	heads := centralHeads(s[:end], first, count)
	return localParts(s[:first], heads)
}

// ending: how many files the end, which stands at a place, tells, and where the first central head begins.
func ending(s string, at int) (count, first int) {
	r := &reader{text: s, at: at}
	r.fixed(endStart)
	count = r.number(short)
	again := r.number(short)
	size := r.number(long)
	first = r.number(long)
	r.fixed(noRemark)
	refuse(again != count || first+size != at, api.ErrText)
	refuse(count > MaxFiles, api.ErrBig)
	return count, first
}

// head is what a central head tells of a file: at is where its local part begins.
type head struct {
	facts facts
	at    int
	path  string
}

// centralHeads: so many, from a place on; they have to end with the text.
func centralHeads(text string, at, count int) []head {
	r := &reader{text: text, at: at}
	var heads []head
	for range count {
		heads = append(heads, r.head())
	}
	refuse(r.at < len(text), api.ErrText)
	return heads
}

// head: the next central head.
func (r *reader) head() head {
	r.fixed(centralStart)
	x := head{facts: r.facts()}
	r.fixed(noMore)
	x.at = r.number(long)
	x.path = r.take(x.facts.pathSize)
	return x
}

// facts: the next ones.
func (r *reader) facts() facts {
	var x facts
	r.fixed(factsStart)
	x.method = r.number(short)
	r.fixed(noTime)
	x.crc = uint32(r.number(long))
	x.follow = r.number(long)
	x.size = r.number(long)
	x.pathSize = r.number(short)
	r.fixed(noExtra)
	return x
}

// localParts: the files of these heads' local parts, which have to be all of the text.
func localParts(text string, heads []head) []api.File {
	r := &reader{text: text}
	var files []api.File
	room := api.MaxZip
	for _, x := range heads {
		data := r.local(x)
		// Ahead of what the bytes say: they come out only where there is room.
		refuse(x.facts.size > room, api.ErrBig)
		room -= x.facts.size
		files = append(files, api.File{Path: x.path, Data: x.facts.content(data)})
	}
	refuse(r.at < len(text), api.ErrText)
	return files
}

// local: the bytes that follow the next local part's head, which has to say what its central head does.
func (r *reader) local(x head) string {
	refuse(r.at != x.at, api.ErrText)
	r.fixed(localStart)
	refuse(r.facts() != x.facts, api.ErrText)
	r.fixed(x.path)
	return r.take(x.facts.follow)
}

// content: a file's bytes, as those say that follow its head.
func (x facts) content(follow string) string {
	data := follow
	switch x.method {
	case stored:
		refuse(x.follow != x.size, api.ErrText)
	case deflated:
		refuse(x.size > api.MaxBytes, api.ErrBig)
		data = inflated(follow, x.size)
	default:
		panic(failure{api.ErrKind})
	}
	refuse(sums.Crc32(data) != x.crc, api.ErrSum)
	return data
}

// inflated: what a stream says that has to be all of the text, and to say so many bytes.
func inflated(text string, size int) string {
	data, used, e := inflate.Inflate(text, 0, size)
	refuse(e != api.OK || used != len(text) || len(data) != size, api.ErrText)
	return data
}
