package coderepo

import (
	"crypto/sha1"
	"fmt"
	"hash/crc32"
	"math/rand"
	"slices"
	"strings"
	"testing"

	"cartulary/api"
	"cartulary/forge"
	"cartulary/loose"
	"cartulary/object"
	"cartulary/pack"
	"cartulary/packidx"
)

// everything: all answers to these queries, as one text.
func everything(r *Repo, queries []string) string {
	var text strings.Builder
	tell := func(x any, e api.Errno) { fmt.Fprintln(&text, x, e) }
	for _, path := range paths() {
		dir, major, e := r.Place(path)
		tell([]string{path, dir, major}, e)
		list, e := r.List(path)
		tell(list, e)
		info, e := r.Latest(path)
		tell(info, e)
		for _, query := range queries {
			info, e := r.Stat(path, query)
			tell(info, e)
			goMod, e := r.GoMod(path, query)
			tell(goMod, e)
			files, e := r.Files(path, query)
			tell(files, e)
			archive, e := r.Zip(path, query)
			tell(archive, e)
			hash, e := r.Hash(path, query)
			tell(hash, e)
		}
	}
	return text.String()
}

// P26.2: all styles of one plan have the same answers, and so have files in any order, and with others beside them.
func TestHoweverKept(t *testing.T) {
	random := rand.New(rand.NewSource(62))
	for range 3 {
		p := modulePlan(random)
		l := queries(random, modelOf(t, p))
		want := ""
		for i, style := range styles() {
			files, _ := forge.Build(p, style)
			random.Shuffle(len(files), func(a, b int) { files[a], files[b] = files[b], files[a] })
			if i%2 == 1 {
				files = append(files, file("config", "[core]\n"), file("objects/info/packs", "P x\n"), file("logs/HEAD", "x"))
			}
			r, e := Open(files, root)
			if e != api.OK {
				t.Fatalf("Open: %d", e)
			}
			got := everything(r, l)
			if want == "" {
				want = got
			}
			if got != want {
				t.Errorf("%v: other answers than in the first style", style)
			}
		}
	}
}

// sure: whatever is told stands on these objects: commits with their seconds, the bytes of Blobs.
func sure(t *testing.T, what string, r *Repo, path, query string, seconds map[string]int, blobs map[string]int) {
	t.Helper()
	for _, ask := range []func() (api.Info, api.Errno){
		func() (api.Info, api.Errno) { return r.Stat(path, query) },
		func() (api.Info, api.Errno) { return r.Latest(path) },
	} {
		x, e := ask()
		if second, found := seconds[x.Id]; e == api.OK && (!found || second != x.Time) || e != api.OK && x != (api.Info{}) {
			t.Errorf("%s: of %s at %s: %v, %d", what, path, query, x, e)
		}
	}
	if s, e := r.GoMod(path, query); e == api.OK && s != mod(path) && blobs[s] == 0 || e != api.OK && s != "" {
		t.Errorf("%s: GoMod(%s, %s): %q, %d", what, path, query, s, e)
	}
	l, e := r.Files(path, query)
	for _, f := range l {
		if e != api.OK || blobs[f.Data] == 0 {
			t.Errorf("%s: Files(%s, %s): %v, %d", what, path, query, f, e)
		}
	}
}

// spoiler changes files in one way or another.
type spoiler struct {
	random *rand.Rand
	files  []api.File
}

// pick: the number of a file whose path has this in it; -1: there is none.
func (s *spoiler) pick(part string) int {
	var l []int
	for i, f := range s.files {
		if strings.Contains(f.Path, part) {
			l = append(l, i)
		}
	}
	if len(l) == 0 {
		return -1
	}
	return l[s.random.Intn(len(l))]
}

// turn: a byte of a file is another one.
func (s *spoiler) turn(part string) {
	if i := s.pick(part); i >= 0 && len(s.files[i].Data) > 0 {
		b := []byte(s.files[i].Data)
		b[s.random.Intn(len(b))] ^= byte(1 << s.random.Intn(8))
		s.files[i].Data = string(b)
	}
}

// cut: a file ends early.
func (s *spoiler) cut(part string) {
	if i := s.pick(part); i >= 0 {
		s.files[i].Data = s.files[i].Data[:s.random.Intn(len(s.files[i].Data)+1)]
	}
}

// lose: a file is wanting.
func (s *spoiler) lose(part string) {
	if i := s.pick(part); i >= 0 {
		s.files = slices.Delete(s.files, i, i+1)
	}
}

// swap: two files have each other's bytes.
func (s *spoiler) swap(part string) {
	if i, k := s.pick(part), s.pick(part); i >= 0 {
		s.files[i].Data, s.files[k].Data = s.files[k].Data, s.files[i].Data
	}
}

// resum: a pack with a byte turned, or with two rows' places exchanged, and all sums made right again.
func (s *spoiler) resum() {
	i, k := s.pick(".pack"), s.pick(".idx")
	if i < 0 || k < 0 {
		return
	}
	text, index := []byte(s.files[i].Data), s.files[k].Data
	if len(text) <= 32 {
		return
	}
	x, e := packidx.Parse(index)
	if e != api.OK {
		return
	}
	if s.random.Intn(3) > 0 {
		text[12+s.random.Intn(len(text)-32)] ^= byte(1 << s.random.Intn(8))
	}
	sum := sha1.Sum(text[:len(text)-20])
	copy(text[len(text)-20:], sum[:])
	s.files[i].Data = string(text)
	var rows []packidx.Row
	for n := range x.Len() {
		row, _ := x.At(n)
		if entry, e := pack.Read(string(text), row.At); e == api.OK {
			row.Crc = crc32.ChecksumIEEE(text[entry.At:entry.Next])
		}
		rows = append(rows, row)
	}
	if s.random.Intn(3) == 0 {
		a, b := s.random.Intn(len(rows)), s.random.Intn(len(rows))
		rows[a].At, rows[b].At = rows[b].At, rows[a].At
		rows[a].Crc, rows[b].Crc = rows[b].Crc, rows[a].Crc
	}
	s.files[k].Data, _ = packidx.Build(rows, fmt.Sprintf("%x", sum), 1<<31)
}

// point: a reference leads elsewhere: to any object, to none, to another reference.
func (s *spoiler) point(ids []string) {
	texts := []string{"", "no reference\n", "ref: refs/heads/main\n", "ref: HEAD\n", "ref: refs/tags/v1.0.0\n", strings.Repeat("0", 40) + "\n", ids[s.random.Intn(len(ids))] + "\n", ids[s.random.Intn(len(ids))] + "\n"}
	names := []string{"HEAD", "refs/heads/main", "refs/heads/both", "refs/tags/v1.0.0", "refs/tags/v2.0.0", "refs/tags/sub/v0.1.0", "refs/tags/both", "refs/tags/v1.2.9"}
	name, text := names[s.random.Intn(len(names))], texts[s.random.Intn(len(texts))]
	s.files = slices.DeleteFunc(s.files, func(f api.File) bool { return f.Path == name })
	s.files = append(s.files, file(name, text))
}

// stray: a file under a name that begins as an object's does, with any bytes.
func (s *spoiler) stray(ids []string) {
	id := ids[s.random.Intn(len(ids))]
	n := 3 + s.random.Intn(37)
	path, _ := loose.Path(id[:n] + strings.Repeat("e", 40-n))
	other, _ := loose.Write(api.Object{Kind: 1 + s.random.Intn(4), Data: "stray"})
	s.files = slices.DeleteFunc(s.files, func(f api.File) bool { return f.Path == path })
	s.files = append(s.files, file(path, other.Data))
}

// P26.1, P26.6: spoilt objects, packs, indexes and references: the document's words are kept, and what is told stands on objects that have their names.
func TestSpoilt(t *testing.T) {
	random := rand.New(rand.NewSource(66))
	open, told := 0, 0
	for n := range 160 {
		p := modulePlan(random)
		x := modelOf(t, p)
		seconds, blobs := map[string]int{}, map[string]int{}
		for i, id := range x.made.Commits {
			seconds[id] = p.Commits[i].Time
		}
		var ids []string
		for _, o := range x.made.Objects {
			id, _ := object.Id(o)
			ids = append(ids, id)
			if o.Kind == api.Blob {
				blobs[o.Data]++
			}
		}
		files, _ := forge.Build(p, styles()[n%8])
		s := &spoiler{random: random, files: files}
		for range 1 + random.Intn(3) {
			switch random.Intn(9) {
			case 0, 1:
				s.turn("objects/")
			case 2:
				s.cut("objects/")
			case 3:
				s.lose("objects/")
			case 4:
				s.swap("objects/")
			case 5, 6:
				s.resum()
			case 7:
				s.point(ids)
			case 8:
				s.stray(ids)
			}
			if random.Intn(4) == 0 {
				s.point(ids)
			}
			if random.Intn(8) == 0 {
				s.turn("refs")
			}
		}
		what := fmt.Sprint("spoilt ", n)
		r, e := Open(s.files, root)
		w, wantE := openByWords(s.files, root)
		if e != wantE || (r == nil) != (e != api.OK) {
			t.Errorf("%s: Open: %d, not %d", what, e, wantE)
		}
		if e != api.OK || wantE != api.OK {
			continue
		}
		open++
		all := queries(random, x)
		for _, path := range paths()[:5] {
			l, _ := r.List(path)
			for range 4 {
				l = append(l, all[random.Intn(len(all))])
			}
			for _, query := range l {
				same(t, what, repo{r, w}, path, query)
				sure(t, what, r, path, query, seconds, blobs)
				if _, e := r.Stat(path, query); e == api.OK {
					told++
				}
			}
		}
	}
	if open < 80 || told < 200 {
		t.Errorf("%d of them are open, %d answers were told", open, told)
	}
}

// P26.6: each loose object in turn is another one than its name says: a version is told as it was, or with an error, never otherwise.
func TestEachObject(t *testing.T) {
	p, goRoot := goPlan()
	files, _ := forge.Build(p, forge.Style{})
	healthy := opened(t, files, goRoot)
	versions := map[string][]string{goRoot: {"v1.0.0", "v1.1.0-rc.1", "v2.0.0+incompatible"}, goRoot + "/v2": {"v2.1.0"}, goRoot + "/sub": {"v0.2.0"}}
	for i, f := range files {
		if !strings.HasPrefix(f.Path, "objects/") {
			continue
		}
		for _, other := range []string{files[(i+1)%len(files)].Data, f.Data[:len(f.Data)-1], f.Data + "x", "", "x"} {
			spoilt := slices.Clone(files)
			spoilt[i].Data = other
			r := opened(t, spoilt, goRoot)
			for path, l := range versions {
				for _, version := range l {
					holdsOrFails(t, f.Path, healthy.Repo, r.Repo, path, version)
				}
			}
		}
	}
}

// holdsOrFails: a version is told as it was, or with an error.
func holdsOrFails(t *testing.T, what string, healthy, r *Repo, path, version string) {
	t.Helper()
	want, _ := healthy.Stat(path, version)
	if x, e := r.Stat(path, version); e == api.OK && x != want {
		t.Errorf("%s is spoilt: Stat(%s, %s): %v, not %v", what, path, version, x, want)
	}
	goMod, _ := healthy.GoMod(path, version)
	if s, e := r.GoMod(path, version); e == api.OK && s != goMod {
		t.Errorf("%s is spoilt: GoMod(%s, %s): %q, not %q", what, path, version, s, goMod)
	}
	archive, _ := healthy.Zip(path, version)
	if s, e := r.Zip(path, version); e == api.OK && s != archive {
		t.Errorf("%s is spoilt: Zip(%s, %s): another one", what, path, version)
	}
	hash, _ := healthy.Hash(path, version)
	if s, e := r.Hash(path, version); e == api.OK && s != hash {
		t.Errorf("%s is spoilt: Hash(%s, %s): %s, not %s", what, path, version, s, hash)
	}
}

// P26.6: the seventh and eighth example of the whole: a loose object under another one's name; deltas that lead back to themselves, a chain of thirteen.
func TestChained(t *testing.T) {
	// A pack of commits as deltas on one another: the twelfth is told, the thirteenth isn't.
	w := &world{}
	id := w.tree(w.plain("go.mod", mod(root)))
	var items []pack.Item
	var ids []string
	for i := range 15 {
		text := fmt.Sprintf("tree %s\nauthor a 0 +0000\ncommitter a %d +0000\n\n", id, i)
		o := api.Object{Kind: api.Commit, Data: text}
		items = append(items, pack.Item{Object: o, Delta: i > 0, Base: i - 1, ByName: i%2 == 0})
		ids = append(ids, idOf(o))
		w.ref(fmt.Sprintf("refs/tags/v1.%d.0", i), ids[i])
	}
	text, e := pack.Build(items)
	if e != api.OK {
		t.Fatal(e)
	}
	entries, _ := pack.All(text)
	var rows []packidx.Row
	for i, x := range entries {
		rows = append(rows, packidx.Row{Id: ids[i], At: x.At, Crc: x.Crc})
	}
	sum := fmt.Sprintf("%x", text[len(text)-20:])
	index, _ := packidx.Build(rows, sum, 1<<31)
	w.set("objects/pack/pack-"+sum+".pack", text)
	w.set("objects/pack/pack-"+sum+".idx", index)
	r := opened(t, w.files, root)
	for i := range 15 {
		version := fmt.Sprintf("v1.%d.0", i)
		if i <= 12 {
			stats(t, "a chain", r, root, version, api.OK, api.Info{Version: version, Id: ids[i], Time: i})
		} else {
			refuses(t, "a chain", r, root, version, api.ErrCycle)
		}
	}
	latest(t, "a chain", r, root, api.OK, api.Info{Version: "v1.12.0", Id: ids[12], Time: 12})
	// An object in a file shadows the pack's, even if it is wrong.
	w.spoil(ids[3])
	r = opened(t, w.files, root)
	refuses(t, "a wrong file", r, root, "v1.3.0", api.ErrSum)
	stats(t, "beside a wrong file", r, root, "v1.4.0", api.OK, api.Info{Version: "v1.4.0", Id: ids[4], Time: 4})
}
