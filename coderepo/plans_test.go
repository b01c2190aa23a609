package coderepo

import (
	"fmt"
	"math/rand"
	"regexp"
	"slices"
	"strings"
	"testing"
	"time"

	"cartulary/api"
	"cartulary/forge"
	"cartulary/modfile"
	"cartulary/modzip"
	"cartulary/pseudo"
	"cartulary/semver"
)

// planModel tells the answers from a plan itself, without any object of a repository.
type planModel struct {
	plan  forge.Plan
	made  forge.Made
	kinds map[string]int    // of all objects, by their names
	notes map[string]string // of tags' objects: their commits
}

// modelOf: a plan's answers.
func modelOf(t *testing.T, p forge.Plan) *planModel {
	t.Helper()
	x := &planModel{plan: p, made: built(t, p), kinds: map[string]int{}, notes: map[string]string{}}
	for _, o := range x.made.Objects {
		x.kinds[idOf(o)] = o.Kind
	}
	for i, n := range p.Tags {
		if n.Note {
			x.notes[x.made.Tags[i]] = x.made.Commits[n.Commit]
		}
	}
	return x
}

var (
	canonicalForm = regexp.MustCompile(`^v(0|[1-9]\d*)\.(0|[1-9]\d*)\.(0|[1-9]\d*)(-(0|[1-9]\d*|\d*[A-Za-z-][0-9A-Za-z-]*)(\.(0|[1-9]\d*|\d*[A-Za-z-][0-9A-Za-z-]*))*)?$`)
	versionForm   = regexp.MustCompile(`^v(0|[1-9]\d*)(\.(0|[1-9]\d*))?$|^v(0|[1-9]\d*)\.(0|[1-9]\d*)\.(0|[1-9]\d*)(-[0-9A-Za-z.-]+)?(\+[0-9A-Za-z.-]+)?$`)
	pseudoForm    = regexp.MustCompile(`^v(\d+)\.(\d+)\.(\d+)-(|0\.|.+\.0\.)(\d{14})-([0-9a-f]{12})$`)
	endForm       = regexp.MustCompile(`(?:^|^(.*)/)(v[2-9]|v[1-9]\d+)$`)
	digitsForm    = regexp.MustCompile(`^[0-9a-f]{4,40}$`)
)

// placed: Place.
func placed(path string) (dir, major string, e api.Errno) {
	if !modfile.Path(path) {
		return "", "", api.ErrForm
	}
	dir, begins := strings.CutPrefix(path+"/", root+"/")
	if !begins {
		return "", "", api.ErrAbsent
	}
	dir = strings.TrimSuffix(dir, "/")
	if found := endForm.FindStringSubmatch(dir); found != nil {
		return found[1], found[2], api.OK
	}
	return dir, "", api.OK
}

// number: a commit by its name.
func (x *planModel) number(id string) int {
	return slices.Index(x.made.Commits, id)
}

// standing: where a module stands at a commit, and with which go.mod; has it one?
func (x *planModel) standing(path, id string) (folder, goMod string, has bool, e api.Errno) {
	dir, major, _ := placed(path)
	under := map[string]string{}
	isFolder := map[string]int{"": 1}
	for _, f := range x.plan.Commits[x.number(id)].Files {
		under[f.Path] = f.Data
		for i, c := range f.Path {
			if c == '/' {
				isFolder[f.Path[:i]]++
			}
		}
	}
	said := func(folder string) (string, bool, bool) {
		text, there := under[strings.TrimPrefix(folder+"/go.mod", "/")]
		says, _, e := modfile.Module(text)
		return text, there, there && e == api.OK && says == path
	}
	if major != "" {
		for _, folder := range []string{strings.TrimPrefix(dir+"/"+major, "/"), dir} {
			if text, _, right := said(folder); right {
				return folder, text, true, api.OK
			}
		}
		return "", "", false, api.ErrAbsent
	}
	text, there, right := said(dir)
	switch {
	case right:
		return dir, text, true, api.OK
	case there:
		return "", "", false, api.ErrForm
	case isFolder[dir] == 0:
		return "", "", false, api.ErrAbsent
	}
	return dir, "module " + path + "\n", false, api.OK
}

// called: how a version is called for a module at a commit, which is there.
func (x *planModel) called(path, id, v string) string {
	dir, major, _ := placed(path)
	_, _, has, _ := x.standing(path, id)
	first, _, _ := strings.Cut(v, ".")
	switch {
	case first == major, major == "" && (first == "v0" || first == "v1"):
		return v
	case major == "" && dir == "" && !has:
		return v + "+incompatible"
	}
	return ""
}

// isPseudo: its base, time and digits.
func isPseudo(v string) (base string, at int, rev string, is bool) {
	found := pseudoForm.FindStringSubmatch(v)
	if found == nil || !canonicalForm.MatchString(v) {
		return "", 0, "", false
	}
	second, err := time.Parse("20060102150405", found[5])
	if err != nil {
		return "", 0, "", false
	}
	switch {
	case found[4] == "" && found[2] == "0" && found[3] == "0":
	case found[4] == "0." && found[3] != "0":
		var z int
		fmt.Sscan(found[3], &z)
		base = fmt.Sprintf("v%s.%s.%d", found[1], found[2], z-1)
	case strings.HasSuffix(found[4], ".0."):
		base = fmt.Sprintf("v%s.%s.%s-%s", found[1], found[2], found[3], strings.TrimSuffix(found[4], ".0."))
	default:
		return "", 0, "", false
	}
	return base, int(second.Unix()), found[6], true
}

// tags: the tags of a folder, in the order, and their commits.
func (x *planModel) tags(dir string) (versions []string, commits map[string]string) {
	commits = map[string]string{}
	for _, n := range x.plan.Tags {
		v, begins := strings.CutPrefix("/"+n.Name, strings.TrimSuffix("/"+dir, "/")+"/")
		if _, _, _, is := isPseudo(v); begins && canonicalForm.MatchString(v) && !is {
			versions = append(versions, v)
			commits[v] = x.made.Commits[n.Commit]
		}
	}
	return semver.Sort(versions), commits
}

// tagged: the commit of a tag's name.
func (x *planModel) tagged(dir, v string) (string, api.Errno) {
	for _, n := range x.plan.Tags {
		if "/"+n.Name == strings.TrimSuffix("/"+dir, "/")+"/"+v {
			return x.made.Commits[n.Commit], api.OK
		}
	}
	return "", api.ErrAbsent
}

// resolve: the only name that begins so.
func (x *planModel) resolve(front string) (string, api.Errno) {
	if !digitsForm.MatchString(front) {
		return "", api.ErrForm
	}
	var l []string
	for id := range x.kinds {
		if strings.HasPrefix(id, front) {
			l = append(l, id)
		}
	}
	switch len(l) {
	case 0:
		return "", api.ErrAbsent
	case 1:
		return l[0], api.OK
	}
	return "", api.ErrDouble
}

// before: is a commit another one, or ahead of it?
func (x *planModel) before(old, id string) bool {
	for _, parent := range x.plan.Commits[x.number(id)].Parents {
		if x.before(old, x.made.Commits[parent]) {
			return true
		}
	}
	return old == id
}

// version: the commit of a module at a version.
func (x *planModel) version(path, query string) (string, api.Errno) {
	dir, _, e := placed(path)
	v := strings.TrimSuffix(query, "+incompatible")
	if e == api.OK && !canonicalForm.MatchString(v) {
		e = api.ErrForm
	}
	if e != api.OK {
		return "", e
	}
	base, at, rev, is := isPseudo(v)
	id := ""
	if is {
		id, e = x.resolve(rev)
		if e == api.OK && x.kinds[id] != api.Commit {
			e = api.ErrKind
		}
	} else {
		id, e = x.tagged(dir, v)
	}
	if e != api.OK {
		return "", e
	}
	if _, _, _, e := x.standing(path, id); e != api.OK {
		return "", e
	}
	if x.called(path, id, v) != query {
		return "", api.ErrForm
	}
	if !is {
		return id, api.OK
	}
	if x.plan.Commits[x.number(id)].Time != at {
		return "", api.ErrSum
	}
	if old, e := x.tagged(dir, base); base != "" && (e != api.OK || !x.before(old, id)) {
		return "", api.ErrAbsent
	}
	return id, api.OK
}

// revision: the commit of one.
func (x *planModel) revision(query string) (string, api.Errno) {
	lists, name := [][]forge.Name{x.plan.Branches, x.plan.Tags}, query
	if query == "HEAD" {
		lists, name = lists[:1], x.plan.Head
	}
	for _, l := range lists {
		for _, n := range l {
			if n.Name == name {
				return x.made.Commits[n.Commit], api.OK
			}
		}
	}
	id, e := x.resolve(query)
	switch {
	case e != api.OK:
		return "", e
	case x.kinds[id] == api.Tag:
		return x.notes[id], api.OK
	case x.kinds[id] != api.Commit:
		return "", api.ErrKind
	}
	return id, api.OK
}

// info: of a version of a commit.
func (x *planModel) info(version, id string) api.Info {
	return api.Info{Version: version, Id: id, Time: x.plan.Commits[x.number(id)].Time}
}

// stat: Stat.
func (x *planModel) stat(path, query string) (api.Info, api.Errno) {
	if versionForm.MatchString(query) {
		id, e := x.version(path, query)
		if e != api.OK {
			return api.Info{}, e
		}
		return x.info(query, id), api.OK
	}
	dir, major, e := placed(path)
	if e != api.OK {
		return api.Info{}, e
	}
	id, e := x.revision(query)
	if e != api.OK {
		return api.Info{}, e
	}
	if _, _, _, e := x.standing(path, id); e != api.OK {
		return api.Info{}, e
	}
	versions, commits := x.tags(dir)
	own, base := "", ""
	for _, v := range versions {
		called := x.called(path, id, v)
		if commits[v] == id && called != "" {
			own = called
		}
		if x.before(commits[v], id) && called == v {
			base = v
		}
	}
	if own != "" {
		return x.info(own, id), api.OK
	}
	stamp := time.Unix(int64(x.plan.Commits[x.number(id)].Time), 0).UTC().Format("20060102150405") + "-" + id[:12]
	switch core, pre, _ := strings.Cut(base, "-"); {
	case base == "" && major == "":
		return x.info("v0.0.0-"+stamp, id), api.OK
	case base == "":
		return x.info(major+".0.0-"+stamp, id), api.OK
	case pre == "":
		last := strings.LastIndex(core, ".") + 1
		var z int
		fmt.Sscan(core[last:], &z)
		return x.info(fmt.Sprintf("%s%d-0.%s", core[:last], z+1, stamp), id), api.OK
	}
	return x.info(base+".0."+stamp, id), api.OK
}

// list: List.
func (x *planModel) list(path string) ([]string, api.Errno) {
	dir, _, e := placed(path)
	if e != api.OK {
		return nil, e
	}
	var l []string
	versions, commits := x.tags(dir)
	for _, v := range versions {
		if _, _, _, e := x.standing(path, commits[v]); e == api.OK && x.called(path, commits[v], v) != "" {
			l = append(l, x.called(path, commits[v], v))
		}
	}
	return l, api.OK
}

// latest: Latest.
func (x *planModel) latest(path string) (api.Info, api.Errno) {
	l, e := x.list(path)
	if e != api.OK {
		return api.Info{}, e
	}
	query := "HEAD"
	for _, v := range l {
		if released := !strings.Contains(v, "-"); released || query == "HEAD" || strings.Contains(query, "-") {
			query = v
		}
	}
	return x.stat(path, query)
}

// files: GoMod and Files.
func (x *planModel) files(path, version string) (string, []api.File, api.Errno) {
	id, e := x.version(path, version)
	if e != api.OK {
		return "", nil, e
	}
	folder, goMod, _, _ := x.standing(path, id)
	var items []modzip.Item
	for _, f := range x.plan.Commits[x.number(id)].Files {
		items = append(items, modzip.Item{Path: f.Path, Mode: 0o100644, Data: f.Data})
	}
	l, e := modzip.Select(items, folder)
	if e != api.OK {
		panic("no such plan is made here")
	}
	return goMod, l, api.OK
}

// holds: every call with these arguments against the plan.
func (x *planModel) holds(t *testing.T, what string, r *Repo, path, query string) {
	t.Helper()
	dir, major, e := r.Place(path)
	if wantDir, wantMajor, wantE := placed(path); dir != wantDir || major != wantMajor || e != wantE {
		t.Errorf("%s: Place(%s): %q, %q, %d, not %q, %q, %d", what, path, dir, major, e, wantDir, wantMajor, wantE)
	}
	info, e := r.Stat(path, query)
	if want, wantE := x.stat(path, query); info != want || e != wantE {
		t.Errorf("%s: Stat(%s, %s): %v, %d, not %v, %d", what, path, query, info, e, want, wantE)
	}
	goMod, files, wantE := x.files(path, query)
	if s, e := r.GoMod(path, query); s != goMod || e != wantE {
		t.Errorf("%s: GoMod(%s, %s): %q, %d, not %q, %d", what, path, query, s, e, goMod, wantE)
	}
	if l, e := r.Files(path, query); !slices.Equal(l, files) || e != wantE {
		t.Errorf("%s: Files(%s, %s): %v, %d, not %v, %d", what, path, query, l, e, files, wantE)
	}
	archive, hash := "", ""
	if wantE == api.OK {
		archive, _ = modzip.Pack(path, query, files)
		hash = modzip.Hash(path, query, files)
	}
	if s, e := r.Zip(path, query); s != archive || e != wantE {
		t.Errorf("%s: Zip(%s, %s): %d bytes, %d, not %d, %d", what, path, query, len(s), e, len(archive), wantE)
	}
	if s, e := r.Hash(path, query); s != hash || e != wantE {
		t.Errorf("%s: Hash(%s, %s): %s, %d, not %s, %d", what, path, query, s, e, hash, wantE)
	}
}

// holdsAll: List and Latest of all paths, and the other calls with some of the queries.
func (x *planModel) holdsAll(t *testing.T, what string, random *rand.Rand, r *Repo, queries []string) {
	t.Helper()
	for _, path := range paths() {
		list, e := r.List(path)
		if want, wantE := x.list(path); !slices.Equal(list, want) || e != wantE {
			t.Errorf("%s: List(%s): %v, %d, not %v, %d", what, path, list, e, want, wantE)
		}
		info, e := r.Latest(path)
		if want, wantE := x.latest(path); info != want || e != wantE {
			t.Errorf("%s: Latest(%s): %v, %d, not %v, %d", what, path, info, e, want, wantE)
		}
		for range 9 {
			x.holds(t, what, r, path, queries[random.Intn(len(queries))])
		}
	}
}

// paths: of modules, and of none.
func paths() []string {
	return []string{root, root + "/v2", root + "/sub", root + "/sub/v2", root + "/v3", root + "/none", "example.com/other", "no module's"}
}

// moduleText: a go.mod, right or wrong, somewhere.
func moduleText(random *rand.Rand) string {
	l := []string{mod(root), mod(root), mod(root + "/v2"), mod(root + "/sub"), mod(root + "/sub"), mod(root + "/sub/v2"), mod(root + "/v3"), "", "module (\n", "go 1.27\n"}
	return l[random.Intn(len(l))]
}

// modulePlan: a plan of a few commits of modules, with tags of all sorts.
func modulePlan(random *rand.Rand) forge.Plan {
	p := forge.Plan{}
	for i := range 1 + random.Intn(6) {
		c := forge.Commit{Time: []int{0, 951782400, 1136214245, 1136214246, 253402300799}[random.Intn(5)]}
		for _, folder := range []string{"", "sub/", "v2/", "sub/v2/", "v3/"} {
			for _, name := range []string{"go.mod", "a.go", "LICENSE", "vendor/x"} {
				if random.Intn(3) > 0 {
					continue
				}
				data := fmt.Sprint(folder, name, random.Intn(3))
				if name == "go.mod" {
					data = moduleText(random)
				}
				c.Files = append(c.Files, file(folder+name, data))
			}
		}
		for parent := range i {
			if random.Intn(2) == 0 {
				c.Parents = append(c.Parents, parent)
			}
		}
		p.Commits = append(p.Commits, c)
	}
	for _, name := range []string{"v0.1.0", "v1.0.0", "v1.0.0-rc.1", "v1.2.9", "v1.10.0-x.y", "v2.0.0", "v2.3.9", "v2.4.0-rc.2", "v3.0.0", "sub/v0.1.0", "sub/v1.0.0", "sub/v2.0.0", "sub/v2.1.0-a", "v1", "v2.0", "v1.0.0+x", "both", "v0.0.0-20060102150405-abcdefabcdef", "beef"} {
		if random.Intn(3) == 0 {
			p.Tags = append(p.Tags, forge.Name{Name: name, Commit: random.Intn(len(p.Commits)), Note: random.Intn(2) == 0})
		}
	}
	for _, name := range []string{"main", "dev/x", "both", "v1.0.0", "abcd"} {
		if random.Intn(2) == 0 {
			p.Branches = append(p.Branches, forge.Name{Name: name, Commit: random.Intn(len(p.Commits))})
		}
	}
	if len(p.Branches) > 0 && random.Intn(3) > 0 {
		p.Head = p.Branches[random.Intn(len(p.Branches))].Name
	}
	return p
}

// queries: of a plan: its names, versions about them, digits.
func queries(random *rand.Rand, x *planModel) []string {
	l := []string{"HEAD", "main", "both", "none", "beef", "abcd", "", "v1", "v9.9.9", "v1.0.0"}
	add := func(l2 ...string) { l = append(l, l2[random.Intn(len(l2))]) }
	for _, n := range slices.Concat(x.plan.Tags, x.plan.Branches) {
		last := n.Name[strings.LastIndex(n.Name, "/")+1:]
		add(n.Name, last, last+"+incompatible")
	}
	for id := range x.kinds {
		l = append(l, id[:4+random.Intn(37)])
	}
	for i, id := range x.made.Commits {
		stamp := time.Unix(int64(x.plan.Commits[i].Time), 0).UTC().Format("20060102150405") + "-" + id[:12]
		add("v0.0.0-"+stamp, "v1.0.0-"+stamp, "v2.0.0-"+stamp, "v2.0.0-"+stamp+"+incompatible")
		add("v1.0.1-0."+stamp, "v0.1.1-0."+stamp, "v2.0.1-0."+stamp, "v2.0.1-0."+stamp+"+incompatible")
		add("v1.0.0-rc.1.0."+stamp, "v2.4.0-rc.2.0."+stamp, "v1.2.10-0."+stamp, "v2.1.0-a.0."+stamp, "v1.0.0-0."+stamp)
		add("v0.0.0-20060102150407-"+id[:12], "v0.0.0-"+stamp[:26]+"f", "v1.2.10-0.20060102150407-"+id[:12])
	}
	slices.Sort(l)
	return slices.Compact(l)
}

// P26.1, P26.2: many plans, in all styles, against what the plan itself says.
func TestPlans(t *testing.T) {
	random := rand.New(rand.NewSource(26))
	for n := range 40 {
		p := modulePlan(random)
		x := modelOf(t, p)
		l := queries(random, x)
		for i, style := range styles() {
			files, e := forge.Build(p, style)
			if e != api.OK {
				t.Fatalf("Build(%+v): %d", p, e)
			}
			r, e := Open(files, root)
			if e != api.OK {
				t.Fatalf("Open: %d", e)
			}
			x.holdsAll(t, fmt.Sprintf("plan %d, %v", n, style), random, r, l)
			if i == 0 {
				w, _ := openByWords(files, root)
				for _, path := range paths() {
					same(t, fmt.Sprintf("plan %d", n), repo{r, w}, path, l[random.Intn(len(l))])
				}
			}
		}
	}
}

// P26.3: List is in order, without doubles, and Stat tells each of its versions. P26.4: a pseudo-version is told again. P26.5: versions of one commit have one go.mod.
func TestProperties(t *testing.T) {
	random := rand.New(rand.NewSource(2026))
	listed, back := 0, 0
	for n := range 120 {
		p := modulePlan(random)
		x := modelOf(t, p)
		r := planned(t, p, styles()[n%8])
		for _, path := range paths()[:5] {
			l, _ := r.List(path)
			listed += len(l)
			mods := map[string]string{}
			for i, version := range l {
				if i > 0 && semver.Compare(l[i-1], version) >= 0 {
					t.Errorf("List(%s): %v", path, l)
				}
				info, e := r.Stat(path, version)
				if info.Version != version || e != api.OK {
					t.Errorf("Stat(%s, %s): %v, %d", path, version, info, e)
				}
				goMod, e := r.GoMod(path, version)
				if other, found := mods[info.Id]; e != api.OK || found && other != goMod {
					t.Errorf("GoMod(%s, %s): %q, %d, and of another version %q", path, version, goMod, e, other)
				}
				mods[info.Id] = goMod
			}
			for i, id := range x.made.Commits {
				info, e := r.Stat(path, id)
				if e != api.OK || !pseudo.Is(info.Version) {
					continue
				}
				back++
				again, e := r.Stat(path, info.Version)
				parts, _ := pseudo.Parse(info.Version)
				if again != info || e != api.OK || info.Id != id || parts.Time != p.Commits[i].Time || semver.Compare(parts.Base, info.Version) >= 0 {
					t.Errorf("Stat(%s, %s): %v, %d, not %v", path, info.Version, again, e, info)
				}
				if goMod, e := r.GoMod(path, info.Version); mods[id] != "" && mods[id] != goMod || e != api.OK {
					t.Errorf("GoMod(%s, %s): %q, %d, not %q", path, info.Version, goMod, e, mods[id])
				}
			}
		}
	}
	if listed < 100 || back < 100 {
		t.Errorf("%d versions were listed, %d pseudo-versions told", listed, back)
	}
}
