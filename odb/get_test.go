package odb

import (
	"fmt"
	"strings"
	"testing"

	"cartulary/api"
	"cartulary/pack"
	"cartulary/packidx"
)

// P13.1: a row whose place is wrong: pack.Read's error at it.
func TestGetPlace(t *testing.T) {
	p, l := somePack()
	id, end := nameOf(l[0]), len(p.text())-20
	for _, at := range []int{0, 1, 11, end + 1, end + 20, 1 << 31, 1 << 40} {
		p.rows[0].At = at
		fails(t, "outside", of(t, p), id, api.ErrArg)
	}
	p.rows[0].At = end
	fails(t, "at the end", of(t, p), id, api.ErrEnd)
	for at := 13; at < end; at++ {
		p.rows[0].At = at
		_, want := pack.Read(p.text(), at)
		if want == api.OK {
			// An entry stands there, with another sum than the row says.
			want = api.ErrSum
		}
		fails(t, "another place", of(t, p), id, want)
	}
	// Another object's place, with that one's sum: only the name tells it.
	p.rows[0].At, p.rows[0].Crc = p.rows[1].At, p.rows[1].Crc
	fails(t, "another object's place", of(t, p), id, api.ErrSum)
	has(t, "that object", of(t, p), l[1])
}

// P13.1: entries that pack.Read refuses, ahead of their Crc.
func TestGetEntry(t *testing.T) {
	for what, c := range map[string]struct {
		entry string
		want  api.Errno
	}{
		"kind 0":         {"\x00" + framed(""), api.ErrKind},
		"kind 5":         {"\x50" + framed(""), api.ErrKind},
		"no bytes":       {"", api.ErrEnd},
		"no frame":       {"\x31", api.ErrEnd},
		"too few bytes":  {"\x33" + framed("ab"), api.ErrText},
		"too many bytes": {"\x33" + framed("abcd"), api.ErrText},
		"too big":        {openingOf(3, 65001) + framed(strings.Repeat("a", 65001)), api.ErrBig},
		"another sum":    {"\x33" + turned(framed("abc"), len(framed("abc"))-1), api.ErrSum},
		"its own base":   {"\x64\x00" + framed("\x00\x01\x01a"), api.ErrText},
		"a base ahead":   {"\x64\x01" + framed("\x00\x01\x01a"), api.ErrText},
		"half a name":    {"\x74" + numbered(1)[:19], api.ErrEnd},
	} {
		p := &packing{}
		p.add(numbered(1), c.entry)
		fails(t, what, of(t, p), numbered(1), c.want)
		p.rows[0].Crc++
		fails(t, what+", another Crc", of(t, p), numbered(1), c.want)
	}
}

// P13.1: a row whose Crc is wrong, ahead of the entry's base and of the name; a base told by its place has no row that counts.
func TestGetCrc(t *testing.T) {
	one, two, three := blob("one"), blob("one and two"), blob("one and three")
	build := func() *packing {
		p := &packing{}
		at := p.whole(one)
		p.offset(nameOf(two), at, appended(3, " and two"))
		p.named(nameOf(three), nameOf(one), appended(3, " and three"))
		return p
	}
	for _, o := range []api.Object{one, two, three} {
		has(t, "right rows", of(t, build()), o)
	}
	for _, by := range []uint32{1, 1 << 31, 0xffffffff} {
		p := build()
		p.rows[0].Crc ^= by
		d := of(t, p)
		fails(t, "the base's row", d, nameOf(one), api.ErrSum)
		has(t, "told by the base's place", d, two)
		fails(t, "told by the base's name", d, nameOf(three), api.ErrSum)
		p = build()
		p.rows[1].Crc ^= by
		p.rows[2].Crc ^= by
		d = of(t, p)
		has(t, "the base", d, one)
		fails(t, "a delta's row", d, nameOf(two), api.ErrSum)
		fails(t, "a delta's row", d, nameOf(three), api.ErrSum)
	}
	p := &packing{}
	p.named(numbered(1), numbered(2), "")
	fails(t, "no such base", of(t, p), numbered(1), api.ErrAbsent)
	p.rows[0].Crc++
	fails(t, "no such base, another Crc", of(t, p), numbered(1), api.ErrSum)
	// The base's entry has no row of its own: two rows are of the delta's place.
	p = build()
	p.rows[0] = packidx.Row{Id: numbered(1), At: p.rows[1].At, Crc: p.rows[1].Crc}
	d := of(t, p)
	has(t, "a base without a row", d, two)
	fails(t, "a base's name without a row", d, nameOf(three), api.ErrAbsent)
	fails(t, "the base without a row", d, nameOf(one), api.ErrAbsent)
	fails(t, "a row of another place", d, numbered(1), api.ErrSum)
}

// chained: a pack of a Blob and n deltas on one another, told as how says; the objects.
func chained(n int, how func(i int) bool) (*packing, []api.Object) {
	p := &packing{}
	o := blob("0 ")
	l := []api.Object{o}
	at := p.whole(o)
	for i := 1; i <= n; i++ {
		more := fmt.Sprint(i, " ")
		d := appended(len(o.Data), more)
		next := blob(o.Data + more)
		if how(i) {
			at = p.named(nameOf(next), nameOf(o), d)
		} else {
			at = p.offset(nameOf(next), at, d)
		}
		l, o = append(l, next), next
	}
	return p, l
}

// P13.1: chains of 12 deltas and of 13, told by place, by name, and by both in turn.
func TestGetChains(t *testing.T) {
	for what, how := range map[string]func(i int) bool{
		"by place": func(i int) bool { return false },
		"by name":  func(i int) bool { return true },
		"in turn":  func(i int) bool { return i%2 == 0 },
		"the last": func(i int) bool { return i == 12 },
	} {
		p, l := chained(20, how)
		d := of(t, p)
		for i, o := range l {
			if i <= 12 {
				has(t, what, d, o)
			} else {
				fails(t, what, d, nameOf(o), api.ErrCycle)
			}
		}
	}
}

// P13.1: the thirteenth delta's entry is read, and its Crc asked, ahead of ErrCycle; its base isn't looked for.
func TestGetChainErrors(t *testing.T) {
	// tailed: a chain of n named deltas from name n down to name 1, whose base is name 0.
	tailed := func(n int, first string) *packing {
		p := &packing{}
		if first != "" {
			p.add(numbered(0), first)
		}
		for i := 1; i <= n; i++ {
			p.named(numbered(i), numbered(i-1), "")
		}
		return p
	}
	for _, n := range []int{1, 2, 11, 12, 13, 14, 30} {
		want := api.ErrAbsent
		if n > 12 {
			want = api.ErrCycle
		}
		fails(t, fmt.Sprint(n, " deltas, no base"), of(t, tailed(n, "")), numbered(n), want)
		want = api.ErrKind
		if n > 12 {
			want = api.ErrCycle
		}
		fails(t, fmt.Sprint(n, " deltas, no kind"), of(t, tailed(n, "\x50")), numbered(n), want)
		p := tailed(n, "\x30"+framed(""))
		p.rows[0].Crc++
		want = api.ErrSum
		if n > 12 {
			want = api.ErrCycle
		}
		fails(t, fmt.Sprint(n, " deltas, another Crc"), of(t, p), numbered(n), want)
	}
	p := tailed(13, "")
	p.rows[0].Crc++
	fails(t, "the thirteenth's Crc", of(t, p), numbered(13), api.ErrSum)
	fails(t, "the thirteenth's frame", of(t, tailed(12, "\x71"+rawId(numbered(99))+"no frame")), numbered(12), api.ErrText)
	p = tailed(13, "")
	p.rows[0].At = 5
	fails(t, "the thirteenth's place", of(t, p), numbered(13), api.ErrArg)
	// The same by place: the base's own row isn't asked, its bytes are.
	p = &packing{}
	at := p.add(numbered(0), "\x50")
	for i := 1; i <= 13; i++ {
		at = p.offset(numbered(i), at, "")
	}
	fails(t, "12 by place, no kind", of(t, p), numbered(12), api.ErrKind)
	fails(t, "13 by place, no kind", of(t, p), numbered(13), api.ErrCycle)
}

// P13.1: a base's name that this index has not, though another pack or a file has it.
func TestGetBaseElsewhere(t *testing.T) {
	base, o := blob("base"), blob("base and more")
	p, other := &packing{}, &packing{}
	p.named(nameOf(o), nameOf(base), appended(4, " and more"))
	other.whole(base)
	for _, names := range [][2]string{{numbered(1), numbered(2)}, {numbered(2), numbered(1)}} {
		d := opened(t, append(append(p.files(names[0]), other.files(names[1])...), fileAt(nameOf(base), base))...)
		has(t, "the base", d, base)
		fails(t, "a base in another pack and in a file", d, nameOf(o), api.ErrAbsent)
	}
	fails(t, "a base in a file", opened(t, append(p.files(numbered(1)), fileAt(nameOf(base), base))...), nameOf(o), api.ErrAbsent)
	fails(t, "a base nowhere", of(t, p), nameOf(o), api.ErrAbsent)
	// A wrong file of the base doesn't matter to a pack that has it.
	p.whole(base)
	d := opened(t, append(p.files(numbered(1)), fileAt(nameOf(base), blob("wrong")))...)
	has(t, "a base whose file is wrong", d, o)
	fails(t, "that base", d, nameOf(base), api.ErrSum)
}

// P13.1: bases that lead round to themselves.
func TestGetRound(t *testing.T) {
	for n := 1; n <= 15; n++ {
		p := &packing{}
		for i := range n {
			p.named(numbered(i), numbered((i+1)%n), literal(1, "a"))
		}
		d := of(t, p)
		for i := range n {
			fails(t, fmt.Sprint(n, " in a round"), d, numbered(i), api.ErrCycle)
		}
	}
	p := &packing{}
	at := p.named(numbered(1), numbered(2), "")
	p.offset(numbered(2), at, "")
	d := of(t, p)
	fails(t, "a name, and back by place", d, numbered(1), api.ErrCycle)
	fails(t, "a place, and back by name", d, numbered(2), api.ErrCycle)
}

// P13.1: a base may stand behind its delta, if it is told by its name.
func TestGetBaseBehind(t *testing.T) {
	base, o := blob("base"), blob("base and more")
	p := &packing{}
	p.named(nameOf(o), nameOf(base), appended(4, " and more"))
	p.whole(base)
	has(t, "a base behind", of(t, p), o)
}

// P13.1: deltas that Apply refuses, the last one's error ahead of the first one's.
func TestGetDeltas(t *testing.T) {
	for what, c := range map[string]struct {
		d    string
		want api.Errno
	}{
		"empty":            {"", api.ErrEnd},
		"a size too long":  {"\x84\x80\x80\x80\x80\x00\x01\x01a", api.ErrText},
		"another base":     {literal(5, "a"), api.ErrForm},
		"too big":          {sizeOf(4) + sizeOf(65001), api.ErrBig},
		"a byte 0":         {sizeOf(4) + sizeOf(1) + "\x00", api.ErrText},
		"a byte wanting":   {sizeOf(4) + sizeOf(2) + "\x02a", api.ErrEnd},
		"outside the base": {sizeOf(4) + sizeOf(2) + "\x91\x03\x02", api.ErrText},
		"too much":         {sizeOf(4) + sizeOf(1) + "\x02ab", api.ErrText},
		"too little":       {sizeOf(4) + sizeOf(3) + "\x02ab", api.ErrEnd},
		"another object":   {literal(4, "base"), api.ErrSum},
	} {
		for _, byName := range []bool{false, true} {
			p := &packing{}
			base := blob("base")
			at := p.whole(base)
			if byName {
				at = p.named(numbered(1), nameOf(base), c.d)
			} else {
				at = p.offset(numbered(1), at, c.d)
			}
			d := of(t, p)
			has(t, what, d, base)
			fails(t, what, d, numbered(1), c.want)
			p.offset(numbered(2), at, literal(9, ""))
			p.named(numbered(3), numbered(1), "\x80\x80\x80\x80\x80\x80")
			second, third := c.want, c.want
			if what == "another object" {
				// The name of a base isn't asked: the delta on it has the first fault.
				second, third = api.ErrForm, api.ErrText
			}
			fails(t, what+", and another behind", of(t, p), numbered(2), second)
			fails(t, what+", and another behind", of(t, p), numbered(3), third)
		}
	}
	// Of several deltas the error of the one next to the base, though another one has come first.
	p := &packing{}
	at := p.whole(blob("base"))
	at = p.offset(numbered(1), at, "")
	p.offset(numbered(2), at, literal(7, ""))
	fails(t, "two wrong ones", of(t, p), numbered(2), api.ErrEnd)
	// All entries are read ahead of all deltas.
	p = &packing{}
	p.named(numbered(1), numbered(2), "")
	fails(t, "a wrong one without base", of(t, p), numbered(1), api.ErrAbsent)
}

// P13.1: what a base is said to be called isn't asked: what comes out counts.
func TestGetBaseName(t *testing.T) {
	p := &packing{}
	base, o := blob("base"), blob("base and more")
	p.add(numbered(1), openingOf(3, 4)+framed("base"))
	p.named(nameOf(o), numbered(1), appended(4, " and more"))
	d := of(t, p)
	has(t, "a base under another name", d, o)
	fails(t, "that base", d, numbered(1), api.ErrSum)
	fails(t, "the base's own name", d, nameOf(base), api.ErrAbsent)
}

// P13.1: deltas make at most MaxData bytes, each of them.
func TestGetBig(t *testing.T) {
	long := strings.Repeat("0123456789", 6499)
	base := blob(long)
	for _, more := range []int{9, 10, 11} {
		p := &packing{}
		at := p.whole(base)
		o := blob(long + strings.Repeat("x", more))
		at = p.offset(nameOf(o), at, appended(len(long), o.Data[len(long):]))
		short := blob("short")
		p.offset(nameOf(short), at, literal(len(o.Data), "short"))
		d := of(t, p)
		if more <= 10 {
			has(t, fmt.Sprint(len(o.Data), " bytes"), d, o)
			has(t, fmt.Sprint("behind ", len(o.Data), " bytes"), d, short)
		} else {
			fails(t, "65001 bytes", d, nameOf(o), api.ErrBig)
			fails(t, "behind 65001 bytes", d, nameOf(short), api.ErrBig)
		}
	}
}

// P13.1, P13.3: an object that hasn't the name; its kind is the last entry's.
func TestGetName(t *testing.T) {
	for kind := 1; kind <= 4; kind++ {
		base := api.Object{Kind: kind, Data: "base"}
		o := api.Object{Kind: kind, Data: "base and more"}
		for other := 1; other <= 4; other++ {
			asked := api.Object{Kind: other, Data: o.Data}
			p := &packing{}
			at := p.whole(base)
			at = p.offset(numbered(1), at, literal(4, "between"))
			p.offset(nameOf(asked), at, literal(7, o.Data))
			d := of(t, p)
			has(t, "the base", d, base)
			fails(t, "between", d, numbered(1), api.ErrSum)
			if other == kind {
				has(t, "the base's kind", d, o)
			} else {
				fails(t, "another kind", d, nameOf(asked), api.ErrSum)
			}
		}
		p := &packing{}
		p.add(numbered(9), openingOf(kind, 4)+framed("base"))
		fails(t, "another name", of(t, p), numbered(9), api.ErrSum)
		p.whole(base)
		has(t, "its own name beside another one", of(t, p), base)
	}
}
