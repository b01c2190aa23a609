package forge

import (
	"fmt"
	"maps"
	"math/rand"
	"reflect"
	"slices"
	"strings"
	"testing"

	"cartulary/api"
	"cartulary/loose"
	"cartulary/odb"
	"cartulary/pack"
	"cartulary/refs"
	"cartulary/snap"
)

// builds holds Build in all styles against the document's words.
func builds(t *testing.T, what string, p Plan) {
	t.Helper()
	for _, style := range styles() {
		buildsIn(t, fmt.Sprintf("%s, %v", what, style), p, style)
	}
}

// buildsIn holds Build in a style against the document's words.
func buildsIn(t *testing.T, what string, p Plan, style Style) {
	t.Helper()
	files, e := Build(p, style)
	if e != api.OK {
		t.Errorf("%s: Build: %d", what, e)
		return
	}
	s, e := snap.New(files)
	if e != api.OK {
		t.Errorf("%s: no folder: %d", what, e)
		return
	}
	w := objectsByWords(p)
	objectsIn(t, what, s, w)
	keptIn(t, what, s, w, style.Objects)
	refsIn(t, what, s, w, p, style.Refs)
}

// objectsIn: each object is read under its name, and no other one is there.
func objectsIn(t *testing.T, what string, s *snap.Snap, w *world) {
	t.Helper()
	d, e := odb.Open(s)
	if e != api.OK {
		t.Errorf("%s: odb.Open: %d", what, e)
		return
	}
	if l := d.Names(""); !slices.Equal(l, w.names()) {
		t.Errorf("%s: names %v, not %v", what, l, w.names())
	}
	for id, want := range w.objects {
		if o, e := d.Get(id); o != want || e != api.OK {
			t.Errorf("%s: Get(%s): %d, %.80q, %d, not %d, %.80q", what, id, o.Kind, o.Data, e, want.Kind, want.Data)
		}
	}
}

// packed: the entries of all packs; how many packs and indexes there are.
func packed(t *testing.T, s *snap.Snap) (entries []pack.Entry, packs, indexes int) {
	t.Helper()
	for _, path := range s.Under("objects/pack/") {
		if strings.HasSuffix(path, ".idx") {
			indexes++
			continue
		}
		packs++
		text, _ := s.Get(path)
		l, e := pack.All(text)
		if e != api.OK {
			t.Errorf("pack.All(%s): %d", path, e)
		}
		entries = append(entries, l...)
	}
	return entries, packs, indexes
}

// keptIn: the objects are kept as the style says.
func keptIn(t *testing.T, what string, s *snap.Snap, w *world, style int) {
	t.Helper()
	apart := len(loose.List(s))
	entries, packs, indexes := packed(t, s)
	all, deltas, second := len(w.objects), 0, false
	var count [5]int
	for _, x := range entries {
		if x.Kind == pack.Offset || x.Kind == pack.Named {
			deltas++
		}
	}
	for _, o := range w.objects {
		count[o.Kind]++
		second = second || count[o.Kind] > 1
	}
	if wantPacks := min(style, 1); packs != wantPacks || indexes != wantPacks {
		t.Errorf("%s: %d packs, %d indexes", what, packs, indexes)
	}
	right := apart+len(entries) == all
	switch style {
	case Apart:
		right = right && apart == all
	case Packed:
		right = right && apart == 0 && deltas == 0
	case Deltas:
		right = right && apart == 0 && (deltas > 0) == second
	case Mixed:
		right = right && (all == 0 || apart > 0 && len(entries) > 0)
	}
	if !right {
		t.Errorf("%s: %d objects, %d apart, %d in a pack, %d of these as deltas", what, all, apart, len(entries), deltas)
	}
}

// refsIn: each reference leads where the plan says, and there is no other one.
func refsIn(t *testing.T, what string, s *snap.Snap, w *world, p Plan, packed bool) {
	t.Helper()
	r, e := refs.Open(s)
	if e != api.OK {
		t.Errorf("%s: refs.Open: %d", what, e)
		return
	}
	ids, peeled := w.references(p)
	if l, want := r.Names(""), slices.Sorted(maps.Keys(ids)); !slices.Equal(l, want) {
		t.Errorf("%s: references %v, not %v", what, l, want)
	}
	for name, id := range ids {
		if got, e := r.Lookup(name); got != id || e != api.OK {
			t.Errorf("%s: Lookup(%s): %s, %d, not %s", what, name, got, e, id)
		}
		data, e := s.Get(name)
		want := ""
		if packed {
			want = peeled[name]
		}
		if got := r.Peeled(name); got != want || (e == api.OK) == packed || !packed && data != id+"\n" {
			t.Errorf("%s: Peeled(%s): %q, not %q; its file: %q, %d", what, name, got, want, data, e)
		}
	}
	if _, e := s.Get("packed-refs"); (e == api.OK) != packed {
		t.Errorf("%s: packed-refs: %d", what, e)
	}
	text, e := s.Get("HEAD")
	if p.Head == "" {
		if e != api.ErrAbsent {
			t.Errorf("%s: there is a HEAD: %q, %d", what, text, e)
		}
		return
	}
	if want := "ref: refs/heads/" + p.Head + "\n"; text != want || e != api.OK {
		t.Errorf("%s: HEAD: %q, %d", what, text, e)
	}
	if id, e := r.Lookup("HEAD"); id != ids["refs/heads/"+p.Head] || e != api.OK {
		t.Errorf("%s: Lookup(HEAD): %s, %d", what, id, e)
	}
}

// P25.2: the smallest plans, with and without Head, tags with and without Note.
func TestBuild(t *testing.T) {
	builds(t, "nothing", Plan{})
	builds(t, "a commit without files", commits(1))
	builds(t, "a file", files("a"))
	p := files("a", "d/b")
	p.Commits = append(p.Commits, Commit{Parents: []int{0}, Time: 5})
	p.Tags = []Name{{Name: "v1", Commit: 1, Note: true}, {Name: "sub/v1", Note: true}, {Name: "sub/v0", Commit: 1}, {Name: "a"}}
	builds(t, "tags", p)
	p.Branches = []Name{{Name: "x/main", Commit: 1}, {Name: "main"}, {Name: "a", Note: true}}
	builds(t, "branches", p)
	for _, n := range p.Branches {
		p.Head = n.Name
		builds(t, "Head "+n.Name, p)
	}
}

// P25.2: an Objects number below 0 and above 3.
func TestBuildStyle(t *testing.T) {
	for _, objects := range []int{-1 << 63, -2, -1, 4, 5, 1<<63 - 1} {
		for _, packed := range []bool{false, true} {
			if l, e := Build(gitPlan(), Style{Objects: objects, Refs: packed}); l != nil || e != api.ErrArg {
				t.Errorf("Build in style %d: %d files, %d", objects, len(l), e)
			}
		}
	}
}

// P25.2: more objects of each kind than there may be deltas on one another.
func TestChains(t *testing.T) {
	for _, n := range []int{11, 12, 13, 14, 25, 26, 27, 40} {
		var p Plan
		for i := range n {
			p.Commits = append(p.Commits, Commit{Time: i, Files: []api.File{{Path: "a", Data: strings.Repeat("the same line\n", 20) + fmt.Sprint(i)}}})
			p.Tags = append(p.Tags, Name{Name: fmt.Sprint("v", i), Commit: i, Note: true})
		}
		builds(t, fmt.Sprint(n, " commits"), p)
	}
}

// noise: so many bytes that no stream makes fewer.
func noise(random *rand.Rand, n int) string {
	b := make([]byte, n)
	random.Read(b)
	return string(b)
}

// P25.2: objects that are so great, and so unlike one another, that a delta may have too many bytes.
func TestGreatDeltas(t *testing.T) {
	random := rand.New(rand.NewSource(7))
	for _, n := range []int{64482, 64483, 65000} {
		p := files("a", "b", "c", "d")
		for i := range p.Commits[0].Files {
			p.Commits[0].Files[i].Data = noise(random, n)
		}
		// The last two are alike, but for a byte.
		p.Commits[0].Files[3].Data = p.Commits[0].Files[2].Data[1:] + "x"
		p.Commits = append(p.Commits, Commit{Time: 1})
		builds(t, fmt.Sprint(n, " bytes"), p)
	}
}

// spread: a plan of n objects: two for the first commit, and Blobs.
func spread(n int) Plan {
	p := Plan{}
	for left := n; left > 0; {
		c := Commit{Time: len(p.Commits)}
		blobs := min(60, left-2)
		for i := range blobs {
			c.Files = append(c.Files, api.File{Path: fmt.Sprint(i), Data: fmt.Sprint(len(p.Commits), " ", i)})
		}
		left -= blobs + 2
		if left == 1 {
			c.Files = c.Files[1:]
			left++
		}
		p.Commits = append(p.Commits, c)
	}
	return p
}

// bigs holds the error of Build in a style against what a folder can have.
func bigs(t *testing.T, what string, p Plan, style Style, want api.Errno) {
	t.Helper()
	if want == api.OK {
		buildsIn(t, what, p, style)
		return
	}
	if l, e := Build(p, style); e != want || l != nil {
		t.Errorf("%s: Build in %v: %d files, %d, not %d", what, style, len(l), e, want)
	}
}

// P25.2: as many objects as a pack and as a folder can have, and one more; as many as pack and files have by turns.
func TestManyObjects(t *testing.T) {
	for _, c := range []struct {
		n    int
		want [4]api.Errno
	}{
		{999, [4]api.Errno{}},
		{1000, [4]api.Errno{}},
		{1001, [4]api.Errno{0, api.ErrBig, api.ErrBig, 0}},
		{2000, [4]api.Errno{0, api.ErrBig, api.ErrBig, 0}},
		{2001, [4]api.Errno{api.ErrBig, api.ErrBig, api.ErrBig, 0}},
		{2002, [4]api.Errno{api.ErrBig, api.ErrBig, api.ErrBig, api.ErrBig}},
		{2400, [4]api.Errno{api.ErrBig, api.ErrBig, api.ErrBig, api.ErrBig}},
	} {
		p := spread(c.n)
		if n := len(objectsByWords(p).objects); n != c.n {
			t.Fatalf("%d objects, not %d", n, c.n)
		}
		for style, want := range c.want {
			bigs(t, fmt.Sprint(c.n, " objects"), p, Style{Objects: style}, want)
		}
	}
	// References and HEAD are files too, where they aren't packed.
	p := spread(1998)
	p.Branches, p.Head = names("main"), "main"
	bigs(t, "2000 files", p, Style{}, api.OK)
	p.Branches = names("main", "x")
	bigs(t, "2001 files", p, Style{}, api.ErrBig)
	bigs(t, "2000 files, packed", p, Style{Refs: true}, api.OK)
	p.Head = ""
	bigs(t, "2000 files without HEAD", p, Style{}, api.OK)
	p.Tags = names("y", "z")
	bigs(t, "2002 files without HEAD", p, Style{}, api.ErrBig)
	bigs(t, "1999 files without HEAD", p, Style{Refs: true}, api.OK)
}

// P25.2: as many bytes as a folder can have, and more; bytes that make short streams don't count.
func TestManyBytes(t *testing.T) {
	random := rand.New(rand.NewSource(9))
	p := commits(2)
	for i := range 65 {
		c := &p.Commits[i/40]
		c.Files = append(c.Files, api.File{Path: fmt.Sprint(i), Data: noise(random, 65000)})
	}
	for style := range 4 {
		bigs(t, "65 great files", p, Style{Objects: style, Refs: true}, api.ErrBig)
	}
	p.Commits[1].Files = p.Commits[1].Files[:24]
	for _, style := range []int{Apart, Deltas} {
		bigs(t, "64 great files", p, Style{Objects: style}, api.OK)
	}
	for i := range p.Commits {
		for k := range p.Commits[i].Files {
			p.Commits[i].Files[k].Data = strings.Repeat(fmt.Sprint(i, k, " "), 65000)[:65000]
		}
	}
	p.Commits = append(p.Commits, Commit{})
	for i := range 60 {
		p.Commits[2].Files = append(p.Commits[2].Files, api.File{Path: fmt.Sprint(i), Data: strings.Repeat(fmt.Sprint(i, "y"), 65000)[:65000]})
	}
	for style := range 4 {
		bigs(t, "124 great files that are told in few bytes", p, Style{Objects: style}, api.OK)
	}
}

// P25.1, P25.2: the greatest plan of all ends, with too much for any folder.
func TestGreatestPlan(t *testing.T) {
	var p Plan
	for i := range 40 {
		c := Commit{Time: i, Message: strings.Repeat("m", 32500)}
		for k := range 60 {
			path := strings.Repeat(fmt.Sprintf("d%d/", k), 15) + "f"
			c.Files = append(c.Files, api.File{Path: path, Data: fmt.Sprint(i, " ", k)})
		}
		p.Commits = append(p.Commits, c)
	}
	m := makes(t, "the greatest plan", p)
	if n := kinds(m.Objects); n != [5]int{0, 40, 40 * (1 + 15*60), 40 * 60, 0} {
		t.Errorf("the greatest plan: kinds %v", n)
	}
	for _, style := range styles() {
		bigs(t, "the greatest plan", p, style, api.ErrBig)
	}
}

// roomy: a list with spare room behind it that is written to.
func roomy[T any](l []T, spare T) []T {
	return append(slices.Clip(l), spare, spare)[:len(l)]
}

// roomyPlan: git's plan, all lists with spare room.
func roomyPlan() Plan {
	p := gitPlan()
	for i := range p.Commits {
		p.Commits[i].Files = roomy(p.Commits[i].Files, api.File{Path: "spare", Data: "room"})
		p.Commits[i].Parents = roomy(p.Commits[i].Parents, 77)
	}
	p.Commits = roomy(p.Commits, Commit{Message: "spare"})
	p.Tags, p.Branches = roomy(p.Tags, Name{Name: "spare"}), roomy(p.Branches, Name{Name: "room"})
	return p
}

// openedPlan: a plan with its spare room.
func openedPlan(p Plan) Plan {
	p.Commits, p.Tags, p.Branches = slices.Clone(p.Commits[:cap(p.Commits)]), p.Tags[:cap(p.Tags)], p.Branches[:cap(p.Branches)]
	for i := range p.Commits {
		c := &p.Commits[i]
		c.Files, c.Parents = c.Files[:cap(c.Files)], c.Parents[:cap(c.Parents)]
	}
	return p
}

// P25.3: what is handed in isn't changed, nor its spare room; answers are new memory.
func TestMemory(t *testing.T) {
	p, want := roomyPlan(), roomyPlan()
	Check(p)
	first, _ := Objects(p)
	second, _ := Objects(p)
	lasting, _ := Objects(gitPlan())
	for _, style := range styles() {
		one, _ := Build(p, style)
		two, _ := Build(p, style)
		if !slices.Equal(one, two) {
			t.Errorf("Build(%v) answers otherwise the second time", style)
		}
		kept := slices.Clone(two)
		for i := range one {
			one[i] = api.File{}
		}
		_ = append(one, api.File{Path: "behind"})
		if !slices.Equal(two, kept) {
			t.Errorf("Build(%v): two answers share memory", style)
		}
	}
	if !reflect.DeepEqual(openedPlan(p), openedPlan(want)) {
		t.Errorf("the plan was changed: %v", openedPlan(p))
	}
	if !reflect.DeepEqual(first, second) || !reflect.DeepEqual(first, lasting) {
		t.Errorf("Objects answers otherwise the second time")
	}
	for i := range first.Objects {
		first.Objects[i] = api.Object{}
	}
	for _, l := range [][]string{first.Commits, first.Tags} {
		_ = append(l, "behind")
		for i := range l {
			l[i] = "changed"
		}
	}
	for i := range p.Commits {
		p.Commits[i] = Commit{}
	}
	if !reflect.DeepEqual(second, lasting) {
		t.Errorf("two answers of Objects share memory, or one with the plan")
	}
	// Commits and Tags of one answer don't share any either.
	copied := slices.Clone(second.Tags)
	_ = append(second.Commits, "a", "b", "c")
	for i := range second.Commits {
		second.Commits[i] = ""
	}
	if !slices.Equal(second.Tags, copied) {
		t.Errorf("Commits and Tags share memory")
	}
}
