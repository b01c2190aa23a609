package history

import (
	"fmt"
	"math"
	"math/rand"
	"slices"
	"strings"
	"testing"

	"cartulary/api"
	"cartulary/odb"
)

// leafs holds Leafs against what the document asks.
func leafs(t *testing.T, what string, d *odb.Odb, id string, most int, wantE api.Errno, want ...Leaf) {
	t.Helper()
	if l, e := Leafs(d, id, most); e != wantE || !slices.Equal(l, want) || e != api.OK && l != nil {
		t.Errorf("%s: Leafs(%.50q, %d): %.300v, %d, not %.300v, %d", what, id, most, l, e, want, wantE)
	}
}

// P17.3: the document's example; trees without anything, with folders alone, with each mode.
func TestLeafs(t *testing.T) {
	r := newRepo()
	blob := r.put(api.Blob, "hi")
	example := r.folder(in("d", r.folder(plain("g", blob))), plain("f", blob))
	none := r.folder()
	empties := r.folder(in("a", none), in("b", r.folder(in("c", none), in("d", none))))
	modes := r.folder(runs("a", absent), module("b", absent), link("c", example), plain("d", example), module("e", example))
	d := r.open(t)
	leafs(t, "example", d, example, 2, api.OK, Leaf{"d/g", 0o100644, blob}, Leaf{"f", 0o100644, blob})
	leafs(t, "modes", d, modes, 5, api.OK, Leaf{"a", 0o100755, absent}, Leaf{"b", 0o160000, absent}, Leaf{"c", 0o120000, example}, Leaf{"d", 0o100644, example}, Leaf{"e", 0o160000, example})
	for _, most := range []int{math.MinInt, -1, 0, 1, math.MaxInt} {
		leafs(t, "none", d, none, most, api.OK)
		leafs(t, "empty folders", d, empties, most, api.OK)
	}
	at(t, "example", d, example, "d/g", plain("g", blob), api.OK)
	at(t, "example", d, example, "f/x", api.Entry{}, api.ErrAbsent)
	at(t, "example", d, example, "x", api.Entry{}, api.ErrAbsent)
	at(t, "example", d, example, "", in("", example), api.OK)
}

// P17.3: paths rise byte by byte, wherever folders stand, though folders are looked at behind the files beside them.
func TestLeafsOrder(t *testing.T) {
	r := newRepo()
	blob := r.put(api.Blob, "hi")
	x := r.folder(plain("\x01", blob), plain("x", blob))
	root := r.folder(plain("a ", blob), in("a-b", x), plain("a.b", blob), in("a.c", x), in("a", x), plain("a0", blob), in("a00", x), in("b", r.folder(plain("a", blob), in("b", x), plain("c", blob))), plain("c", blob), in("\xff", x))
	d := r.open(t)
	l, e := Leafs(d, root, 99)
	var paths []string
	for _, leaf := range l {
		paths = append(paths, leaf.Path)
	}
	want := []string{"a ", "a-b/\x01", "a-b/x", "a.b", "a.c/\x01", "a.c/x", "a/\x01", "a/x", "a0", "a00/\x01", "a00/x", "b/a", "b/b/\x01", "b/b/x", "b/c", "c", "\xff/\x01", "\xff/x"}
	if e != api.OK || !slices.Equal(paths, want) || !slices.IsSorted(paths) {
		t.Errorf("Leafs: %q, %d, not %q", paths, e, want)
	}
	leads(t, d, root, l)
}

// P17.3: just as many leafs as are allowed, one fewer, none.
func TestLeafsBudget(t *testing.T) {
	r := newRepo()
	blob := r.put(api.Blob, "hi")
	two := r.folder(plain("x", blob), plain("y", blob))
	root := r.folder(plain("a", blob), in("b", two), in("c", r.folder()), in("d", two))
	d := r.open(t)
	five := []Leaf{{"a", 0o100644, blob}, {"b/x", 0o100644, blob}, {"b/y", 0o100644, blob}, {"d/x", 0o100644, blob}, {"d/y", 0o100644, blob}}
	for most := 5; most < 8; most++ {
		leafs(t, "five", d, root, most, api.OK, five...)
	}
	leafs(t, "five", d, root, math.MaxInt, api.OK, five...)
	for _, most := range []int{math.MinInt, -1, 0, 1, 2, 3, 4} {
		leafs(t, "five", d, root, most, api.ErrBudget)
	}
}

// P17.3: more leafs than MaxLeafs, if they are allowed: that limit is for folders that wait.
func TestLeafsMany(t *testing.T) {
	r := newRepo()
	blob := r.put(api.Blob, "hi")
	var files []api.Entry
	for i := range 500 {
		files = append(files, plain(fmt.Sprintf("%03d", i), blob))
	}
	many := r.folder(files...)
	root := r.folder(in("a", many), in("b", many), in("c", many))
	d := r.open(t)
	l, e := Leafs(d, root, 1500)
	if e != api.OK || len(l) != 1500 || l[0].Path != "a/000" || l[1499].Path != "c/499" {
		t.Errorf("Leafs: %d, %d", len(l), e)
	}
	leafs(t, "one fewer", d, root, 1499, api.ErrBudget)
	leafs(t, "one folder", d, many, 499, api.ErrBudget)
	if l, e := Leafs(d, many, 500); e != api.OK || len(l) != 500 {
		t.Errorf("Leafs: %d, %d", len(l), e)
	}
}

// P17.3: paths of 200 bytes and of 201, of files and of folders, whatever is in those.
func TestLeafsPaths(t *testing.T) {
	r := newRepo()
	blob := r.put(api.Blob, "hi")
	none := r.folder()
	long := func(n int) string { return strings.Repeat("n", n) }
	for n, want := range map[int]api.Errno{97: api.OK, 98: api.OK, 99: api.ErrBig, 100: api.ErrBig} {
		for _, last := range []api.Entry{plain(long(n), blob), link(long(n), blob), module(long(n), absent), in(long(n), none)} {
			inner := r.folder(last)
			root := r.folder(in(long(98), r.folder(in("ab", inner))))
			d := r.open(t)
			what := fmt.Sprintf("%o, %d bytes", last.Mode, 98+1+2+1+n)
			var l []Leaf
			if last.Mode != 0o40000 && want == api.OK {
				l = []Leaf{{long(98) + "/ab/" + long(n), last.Mode, last.Id}}
			}
			leafs(t, what, d, root, 1, want, l...)
		}
	}
	// A folder of 200 bytes may stand there as long as it is empty.
	full := r.folder(in(long(100), r.folder(in(long(99), none))))
	more := r.folder(in(long(100), r.folder(in(long(99), r.folder(plain("f", blob))))))
	d := r.open(t)
	leafs(t, "an empty one of 200 bytes", d, full, 0, api.OK)
	leafs(t, "a full one of 200 bytes", d, more, 1, api.ErrBig)
	leafs(t, "the path counts ahead of the budget", d, more, 0, api.ErrBig)
}

// nested: a tree with n folders within one another, itself counted.
func (r *repo) nested(n int, last ...api.Entry) string {
	id := r.folder(last...)
	for range n - 1 {
		id = r.folder(in("d", id))
	}
	return id
}

// P17.3: 16 folders within one another, and 17, which aren't asked what they are.
func TestLeafsLevels(t *testing.T) {
	r := newRepo()
	blob := r.put(api.Blob, "hi")
	for n := 1; n < 20; n++ {
		full, bare := r.nested(n, plain("f", blob)), r.nested(n)
		d := r.open(t)
		what := fmt.Sprint(n, " folders")
		if n <= 16 {
			leafs(t, what, d, full, 1, api.OK, Leaf{strings.Repeat("d/", n-1) + "f", 0o100644, blob})
			leafs(t, what, d, full, 0, api.ErrBudget)
			leafs(t, what, d, bare, 0, api.OK)
			continue
		}
		leafs(t, what, d, full, 1, api.ErrCycle)
		leafs(t, what, d, bare, 0, api.ErrCycle)
	}
	for _, none := range []string{absent, blob} {
		sixteen := r.nested(16, in("d", none))
		fifteen := r.nested(15, in("d", none))
		d := r.open(t)
		leafs(t, "the 17th is none", d, sixteen, 1, api.ErrCycle)
		leafs(t, "the 16th is none", d, fifteen, 1, map[string]api.Errno{absent: api.ErrAbsent, blob: api.ErrKind}[none])
	}
}

// wide: n folders that are the same tree, with a name of three bytes each.
func wide(n int, id string) []api.Entry {
	var l []api.Entry
	for i := range n {
		l = append(l, in(fmt.Sprintf("%03d", i), id))
	}
	return l
}

// P17.3: 500 folders that wait, and 501; those that were looked at wait no longer.
func TestLeafsWaiting(t *testing.T) {
	r := newRepo()
	blob := r.put(api.Blob, "hi")
	none := r.folder()
	one := r.folder(in("d", none))
	two := r.folder(in("d", none), in("e", none))
	for n := 490; n <= 500; n++ {
		for k := range 12 {
			some := r.folder(wide(k, none)...)
			first, last := wide(n, none), wide(n, none)
			first[0].Id, last[n-1].Id = some, some
			firsts, lasts := r.folder(first...), r.folder(last...)
			d := r.open(t)
			want := api.OK
			if n-1+k > 500 {
				want = api.ErrBudget
			}
			what := fmt.Sprint(n, " folders, ", k, " in one of them")
			leafs(t, what+", the first", d, firsts, 0, want)
			leafs(t, what+", the last", d, lasts, 0, api.OK)
			delete(r.files, "objects/"+firsts[:2]+"/"+firsts[2:])
			delete(r.files, "objects/"+lasts[:2]+"/"+lasts[2:])
		}
	}
	all := wide(500, one)
	ones := r.folder(all...)
	all[0].Id = two
	firstTwo := r.folder(all...)
	all[0].Id, all[1].Id = one, two
	secondTwo := r.folder(all...)
	full := r.folder(wide(500, r.folder(plain("f", blob)))...)
	d := r.open(t)
	leafs(t, "500 with one folder each", d, ones, 0, api.OK)
	leafs(t, "500, the first with two", d, firstTwo, 0, api.ErrBudget)
	leafs(t, "500, the second with two", d, secondTwo, 0, api.OK)
	if l, e := Leafs(d, full, 500); e != api.OK || len(l) != 500 {
		t.Errorf("500 with a file each: %d, %d", len(l), e)
	}
}

// P17.3: of an entry the path counts first; of a folder all entries count ahead of those that wait behind it, and those ahead of the next folder.
func TestLeafsErrorOrder(t *testing.T) {
	r := newRepo()
	blob := r.put(api.Blob, "hi")
	none := r.folder()
	long := strings.Repeat("n", 100)
	tooMany := func(inFirst ...api.Entry) string {
		l := wide(500, none)
		l[0].Id = r.folder(inFirst...)
		return r.folder(in(long, r.folder(in(long[:90], r.folder(l...)))))
	}
	for what, c := range map[string]struct {
		id   string
		most int
		want api.Errno
	}{
		"a file ahead of a folder that isn't there":  {r.folder(in("a", absent), plain("b", blob)), 0, api.ErrBudget},
		"which is allowed":                           {r.folder(in("a", absent), plain("b", blob)), 1, api.ErrAbsent},
		"a file within ahead of the next folder":     {r.folder(in("a", r.folder(plain("f", blob))), in("b", absent)), 0, api.ErrBudget},
		"a folder ahead of the next one":             {r.folder(in("a", absent), in("b", blob)), 9, api.ErrAbsent},
		"the other way round":                        {r.folder(in("a", blob), in("b", absent)), 9, api.ErrKind},
		"all within a folder ahead of the next one":  {r.folder(in("a", r.folder(in("z", r.folder(in("z", absent))))), in("b", blob)), 9, api.ErrAbsent},
		"a folder ahead of what is in its neighbour": {r.folder(in("a", r.folder(in("a", none), in("b", blob))), in("b", r.folder(in("a", absent)))), 9, api.ErrKind},
		"names with a slash behind":                  {r.folder(in("a.b", blob), in("a", absent)), 9, api.ErrKind},
		"entries in their order, a file first":       {r.folder(in(long, r.folder(in(long[1:], r.folder(plain("a", blob))))), plain("z", blob)), 0, api.ErrBudget},
		"a long path behind it":                      {r.folder(in(long, r.folder(in(long[1:], r.folder(plain("a", blob))))), plain("z", blob)), 1, api.ErrBig},
		"of one entry the path first":                {r.folder(in(long, r.folder(plain(long, blob)))), 0, api.ErrBig},
		"a file ahead of the level":                  {r.nested(16, plain("a", blob), in("d", none)), 0, api.ErrBudget},
		"the level ahead of a file":                  {r.nested(16, in("a", none), plain("b", blob)), 0, api.ErrCycle},
		"the path ahead of the level":                {r.folder(in(long, r.folder(in(long[:65], r.nested(14, in(long, none)))))), 0, api.ErrBig},
		"the level, with a path that is right":       {r.folder(in(long, r.folder(in(long[:65], r.nested(14, in("ab", none)))))), 0, api.ErrCycle},
		"those that wait":                            {tooMany(in("a", none), in("b", none)), 0, api.ErrBudget},
		"a long path ahead of those that wait":       {tooMany(in("a", none), in("b", none), plain("c"+long[:20], blob)), 9, api.ErrBig},
		"those that wait ahead of the next folder":   {tooMany(in("a", absent), in("b", none)), 9, api.ErrBudget},
		"which comes where they are few enough":      {tooMany(in("a", absent)), 9, api.ErrAbsent},
		"a level ahead of those that wait":           {r.nested(15, func() []api.Entry { l := wide(500, none); l[0].Id = r.folder(in("a", none), in("b", none)); return l }()...), 9, api.ErrCycle},
	} {
		leafs(t, what, r.open(t), c.id, c.most, c.want)
	}
}

// leafsByWords: Leafs by the document's words, one folder after another; false: it looks at too many to go on.
func (r *repo) leafsByWords(id string, most int) ([]Leaf, api.Errno, bool) {
	type waits struct {
		id, front string
		within    int
	}
	var found []Leaf
	wait := []waits{{id, "", 0}}
	for looked := 0; len(wait) > 0; looked++ {
		if looked == 2000 {
			return nil, 0, false
		}
		f := wait[0]
		entries, there := r.folders[f.id]
		if !there {
			return nil, api.ErrAbsent, true
		}
		var below []waits
		for _, x := range entries {
			path := f.front + x.Name
			if len(path) > 200 {
				return nil, api.ErrBig, true
			}
			if x.Mode != 0o40000 {
				if len(found) >= most {
					return nil, api.ErrBudget, true
				}
				found = append(found, Leaf{path, x.Mode, x.Id})
				continue
			}
			if f.within+1 >= 16 {
				return nil, api.ErrCycle, true
			}
			below = append(below, waits{x.Id, path + "/", f.within + 1})
		}
		wait = append(below, wait[1:]...)
		if len(wait) > 500 {
			return nil, api.ErrBudget, true
		}
	}
	slices.SortFunc(found, func(a, b Leaf) int { return strings.Compare(a.Path, b.Path) })
	return found, api.OK, true
}

// someTree puts a tree over trees that were put already: a few entries, or many folders.
func (r *repo) someTree(random *rand.Rand, pool []string, files, longer int) string {
	latest := pool[len(pool)-1]
	n, from := 1+random.Intn(3), pool
	if random.Intn(10) == 0 {
		n, from = 50+random.Intn(200), pool[:1]
	}
	bytes := random.Intn(1 + longer)
	led := random.Intn(n)
	var l []api.Entry
	for i := range n {
		name := fmt.Sprintf("%03x%s", i, strings.Repeat("n", bytes))
		switch {
		case i == led:
			l = append(l, in(name, latest))
		case random.Intn(100) < files:
			l = append(l, plain(name, absent))
		default:
			l = append(l, in(name, from[random.Intn(len(from))]))
		}
	}
	return r.folder(l...)
}

// P17.3: trees by chance that stand in one another at many places, against the words.
func TestLeafsByChance(t *testing.T) {
	random := rand.New(rand.NewSource(3))
	counted := map[api.Errno]int{}
	for range 500 {
		r := newRepo()
		pool := []string{r.folder()}
		if random.Intn(12) == 0 {
			pool = append(pool, absent)
		}
		files, longer := []int{0, 0, 3, 30}[random.Intn(4)], random.Intn(2)*25
		for range 2 + random.Intn(18) {
			pool = append(pool, r.someTree(random, pool, files, longer))
		}
		d := r.open(t)
		for _, id := range pool[len(pool)-2:] {
			most := random.Intn(400)
			want, e, ends := r.leafsByWords(id, most)
			if !ends {
				Leafs(d, id, most)
				counted[-1]++
				continue
			}
			counted[e]++
			leafs(t, "by chance", d, id, most, e, want...)
			if e == api.OK && len(want) < 12 {
				leads(t, d, id, want)
			}
		}
	}
	for _, e := range []api.Errno{api.OK, api.ErrBig, api.ErrBudget, api.ErrCycle, api.ErrAbsent, -1} {
		if counted[e] < 20 {
			t.Errorf("the trees: %v", counted)
		}
	}
}

// P17.3, P1: a few trees that make more folders than could be looked at one by one, and what counts among these.
func TestLeafsHostile(t *testing.T) {
	r := newRepo()
	blob := r.put(api.Blob, "hi")
	// bomb: folders within one another, each but the last with n folders.
	bomb := func(levels, n int, last string) string {
		for range levels - 1 {
			last = r.folder(wide(n, last)...)
		}
		return last
	}
	none := r.folder()
	one := r.folder(plain("f", blob))
	for what, c := range map[string]struct {
		id   string
		most int
		want api.Errno
	}{
		"34^15 folders":                    {bomb(16, 34, none), 0, api.OK},
		"one level more":                   {bomb(17, 34, none), 0, api.ErrCycle},
		"one folder more at a time":        {bomb(16, 35, none), 0, api.ErrBudget},
		"with files":                       {bomb(16, 34, one), 500, api.ErrBudget},
		"two beside one another":           {r.folder(in("a", bomb(15, 34, none)), in("b", bomb(14, 34, none))), 0, api.OK},
		"too deep behind others":           {r.folder(in("a", bomb(15, 20, none)), in("b", r.folder(in("c", bomb(15, 20, none))))), 0, api.ErrCycle},
		"one that isn't there behind":      {r.folder(in("a", bomb(15, 20, none)), in("b", r.folder(in("c", bomb(13, 20, none)), in("d", absent)))), 0, api.ErrAbsent},
		"a file behind":                    {r.folder(in("a", bomb(15, 20, none)), in("b", one)), 0, api.ErrBudget},
		"too long behind others":           {r.folder(in("a", bomb(14, 20, none)), in("b", r.folder(in(strings.Repeat("n", 100), r.folder(in(strings.Repeat("n", 100-3), none)))))), 0, api.OK},
		"too long with others in it":       {r.folder(in("a", bomb(14, 20, none)), in("b"+strings.Repeat("n", 99), r.folder(in(strings.Repeat("n", 47), bomb(14, 20, none))))), 0, api.OK},
		"one byte more":                    {r.folder(in("a", bomb(14, 20, none)), in("b"+strings.Repeat("n", 99), r.folder(in(strings.Repeat("n", 48), bomb(14, 20, none))))), 0, api.ErrBig},
		"as many as may wait":              {r.folder(in("!", bomb(14, 30, none)), in("a", r.folder(append([]api.Entry{in("!", bomb(14, 30, none))}, wide(122, none)...)...))), 0, api.OK},
		"one that waits more than may":     {r.folder(in("!", bomb(14, 30, none)), in("a", r.folder(append([]api.Entry{in("!", bomb(14, 30, none))}, wide(123, none)...)...))), 0, api.ErrBudget},
		"that many, not ahead of the last": {r.folder(in("!", bomb(14, 30, none)), in("a", r.folder(append(wide(200, none), in("z", bomb(14, 30, none)))...))), 0, api.OK},
	} {
		leafs(t, what, r.open(t), c.id, c.most, c.want)
	}
	d := bomb(15, 30, none)
	l := r.folder(plain("a", blob), in("b", d), in("c", d), link("d", blob))
	leafs(t, "files beside", r.open(t), l, 2, api.OK, Leaf{"a", 0o100644, blob}, Leaf{"d", 0o120000, blob})
}
