package forge

import (
	"fmt"
	"math"
	"strings"
	"testing"

	"cartulary/api"
)

// checks holds Check, and its model, against what the document asks; Objects and Build have the same error.
func checks(t *testing.T, what string, p Plan, want api.Errno) {
	t.Helper()
	if e := Check(p); e != want {
		t.Errorf("%s: Check: %d, not %d", what, e, want)
	}
	if e := checkByWords(p); e != want {
		t.Errorf("%s: checkByWords: %d, not %d", what, e, want)
	}
	m, e := Objects(p)
	if e != want {
		t.Errorf("%s: Objects: %d, not %d", what, e, want)
	}
	if e != api.OK && (m.Objects != nil || m.Commits != nil || m.Tags != nil) {
		t.Errorf("%s: Objects: beside an error %v", what, m)
	}
	if want == api.OK {
		return
	}
	for _, style := range styles() {
		if files, e := Build(p, style); e != want || files != nil {
			t.Errorf("%s: Build(%v): %d files, %d, not %d", what, style, len(files), e, want)
		}
	}
}

// styles: all of them.
func styles() []Style {
	var l []Style
	for objects := range 4 {
		l = append(l, Style{Objects: objects}, Style{Objects: objects, Refs: true})
	}
	return l
}

// commits: a plan of so many.
func commits(n int) Plan {
	return Plan{Commits: make([]Commit, n)}
}

// files: a plan of one commit with empty files at these paths.
func files(paths ...string) Plan {
	var c Commit
	for _, path := range paths {
		c.Files = append(c.Files, api.File{Path: path})
	}
	return Plan{Commits: []Commit{c}}
}

// many: so many names with a number at the end.
func many(front string, n int) []Name {
	var l []Name
	for i := range n {
		l = append(l, Name{Name: fmt.Sprint(front, i)})
	}
	return l
}

// names: those of commit 0.
func names(l ...string) []Name {
	var out []Name
	for _, s := range l {
		out = append(out, Name{Name: s})
	}
	return out
}

// both holds names against what the document asks, as tags and as branches.
func both(t *testing.T, what string, l []Name, want api.Errno) {
	t.Helper()
	p := commits(3)
	p.Tags = l
	checks(t, what+" (tags)", p, want)
	p.Tags, p.Branches = nil, l
	checks(t, what+" (branches)", p, want)
}

// P25.1: 40 and 41 commits, tags, branches.
func TestCheckCounts(t *testing.T) {
	checks(t, "nothing", Plan{}, api.OK)
	checks(t, "40 commits", commits(40), api.OK)
	checks(t, "41 commits", commits(41), api.ErrBig)
	checks(t, "400 commits", commits(400), api.ErrBig)
	p := commits(1)
	p.Tags, p.Branches = many("t", 40), many("b", 40)
	checks(t, "40 tags and branches", p, api.OK)
	p.Tags = many("t", 41)
	checks(t, "41 tags", p, api.ErrBig)
	p.Tags, p.Branches = many("t", 40), many("b", 41)
	checks(t, "41 branches", p, api.ErrBig)
	checks(t, "41 tags of nothing", Plan{Tags: make([]Name, 41)}, api.ErrBig)
	checks(t, "40 tags of nothing", Plan{Tags: make([]Name, 40)}, api.ErrForm)
	if MaxCommits != 40 || MaxFiles != 60 || Who != "forge <forge@example.com>" {
		t.Errorf("constants: %d, %d, %q", MaxCommits, MaxFiles, Who)
	}
	if Apart != 0 || Packed != 1 || Deltas != 2 || Mixed != 3 {
		t.Errorf("styles: %d, %d, %d, %d", Apart, Packed, Deltas, Mixed)
	}
}

// P25.1: 60 and 61 files of the first commit and of the last.
func TestCheckFileCounts(t *testing.T) {
	for n, want := range map[int]api.Errno{59: api.OK, 60: api.OK, 61: api.ErrBig, 600: api.ErrBig, 3000: api.ErrBig} {
		var paths []string
		for i := range n {
			paths = append(paths, fmt.Sprintf("f%d/g", i))
		}
		p := files(paths...)
		checks(t, fmt.Sprint(n, " files"), p, want)
		p.Commits = append(make([]Commit, 39), p.Commits[0])
		checks(t, fmt.Sprint(n, " files at the end"), p, want)
	}
}

// P25.1: a Time of 0, of commit.MaxTime, beyond.
func TestCheckTime(t *testing.T) {
	for time, want := range map[int]api.Errno{
		0: api.OK, 1: api.OK, 1136214245: api.OK, 253402300799: api.OK,
		-1: api.ErrForm, 253402300800: api.ErrForm, math.MaxInt: api.ErrForm, math.MinInt: api.ErrForm,
	} {
		checks(t, fmt.Sprint("Time ", time), Plan{Commits: []Commit{{Time: time}}}, want)
		checks(t, fmt.Sprint("second Time ", time), Plan{Commits: []Commit{{}, {Time: time}}}, want)
	}
}

// P25.1: files that snap.New refuses, that are too big, too deep, or called as no entry is.
func TestCheckFiles(t *testing.T) {
	deep := strings.Repeat("d/", 15)
	long := strings.Repeat("n", 100)
	for _, l := range [][]string{
		{}, {"a"}, {"a", "b"}, {"a.b", "a/b", "a0"}, {"a/b", "a/c"}, {"b/a", "a"}, {"a", "ab/c"}, {deep + "f"}, {deep + "f", deep + "g", "d/f"},
		{long}, {long + "/" + long[:99]}, {"a b~!\"#$%&'()*+,-;<=>?@[\\]^_`{|}"}, {".gitx", ".gi", "git", "x.git", ".gitignore", "...", ".a"},
	} {
		checks(t, fmt.Sprintf("right: %.100q", l), files(l...), api.OK)
	}
	for _, l := range [][]string{
		{""}, {"/"}, {"/a"}, {"a/"}, {"a//b"}, {"."}, {".."}, {"a/./b"}, {"a/../b"}, {"a\n"}, {"a\x00"}, {"\x7f"}, {"é"},
		{"a", "a"}, {"a", "b", "a"}, {"a", "a/b"}, {"a/b", "a"}, {"a/b/c", "a.x", "a/b"}, {"a/b", "x", "a/b"},
		{deep + "d/f"}, {deep + "d/d/f"}, {strings.Repeat("d/", 90) + "f"}, {long + "n"}, {"a/" + long + "n/b"}, {long + "/" + long},
		{".git"}, {".GIT"}, {".Git/x"}, {"a/.gIt"}, {"a/.git/b"}, {"ok", ".git"},
	} {
		checks(t, fmt.Sprintf("wrong: %.100q", l), files(l...), api.ErrForm)
	}
	for n, want := range map[int]api.Errno{64999: api.OK, 65000: api.OK, 65001: api.ErrForm, 65537: api.ErrForm, 5000000: api.ErrForm} {
		p := files("a", "b")
		p.Commits[0].Files[1].Data = strings.Repeat("x", n)
		checks(t, fmt.Sprint(n, " bytes"), p, want)
	}
}

// P25.1: parents that are ahead, and others.
func TestCheckParents(t *testing.T) {
	for _, c := range []struct {
		at      int
		parents []int
		want    api.Errno
	}{
		{0, nil, api.OK}, {0, []int{0}, api.ErrForm}, {0, []int{-1}, api.ErrForm}, {0, []int{1}, api.ErrForm},
		{1, []int{0}, api.OK}, {1, []int{1}, api.ErrForm}, {1, []int{2}, api.ErrForm}, {1, []int{0, 0}, api.ErrForm}, {1, []int{0, -1}, api.ErrForm},
		{3, []int{2, 0, 1}, api.OK}, {3, []int{2, 1, 2}, api.ErrForm}, {3, []int{0, 1, 3}, api.ErrForm}, {3, []int{math.MinInt}, api.ErrForm}, {3, []int{math.MaxInt}, api.ErrForm},
		{39, []int{38}, api.OK}, {39, []int{39}, api.ErrForm}, {39, []int{40}, api.ErrForm},
	} {
		p := commits(40)
		p.Commits[c.at].Parents = c.parents
		checks(t, fmt.Sprint("commit ", c.at, " of ", c.parents), p, c.want)
	}
	upTo := func(n int) []int {
		var l []int
		for i := range n {
			l = append(l, i)
		}
		return l
	}
	for n, want := range map[int]api.Errno{15: api.OK, 16: api.OK, 17: api.ErrBig, 39: api.ErrBig, 40: api.ErrForm, 4000: api.ErrForm} {
		p := commits(40)
		p.Commits[39].Parents = upTo(n)
		checks(t, fmt.Sprint(n, " parents"), p, want)
	}
	p := commits(20)
	p.Commits[19].Parents = append(upTo(17), 3)
	checks(t, "17 parents and one again", p, api.ErrForm)
}

// P25.1: a Message of 32500 bytes, and one more.
func TestCheckMessage(t *testing.T) {
	for n, want := range map[int]api.Errno{0: api.OK, 32499: api.OK, 32500: api.OK, 32501: api.ErrBig, 65001: api.ErrBig} {
		p := commits(17)
		p.Commits[16].Message = strings.Repeat("\x00", n)
		checks(t, fmt.Sprint(n, " bytes"), p, want)
		for i := range 16 {
			p.Commits[16].Parents = append(p.Commits[16].Parents, i)
		}
		checks(t, fmt.Sprint(n, " bytes of 16 parents"), p, want)
	}
}

// P25.1: tags' and branches' names.
func TestCheckNames(t *testing.T) {
	long := strings.Repeat("n", 100)
	for _, s := range []string{"a", "v1.0.0", "sub/v0.2.0", "a/b/c/d", "HEAD", "refs/heads/main", "refs/tags/x", "a@b", "@", "a{b", "-", "a.b.c", "a.locked", "lock", "a!\"#$%&'()+,-;<=>]_`|}", long, long[:49] + "/" + long[:50]} {
		both(t, s, names(s), api.OK)
	}
	for _, s := range []string{"", "/", "/a", "a/", "a//b", ".", "..", ".a", "a/.b", "a..b", "a.", "a.lock", "a.lock/b", "b/a.lock", "a b", "a~", "a^", "a:", "a?", "a*", "a[", "a\\b", "a@{b", "a\n", "a\x00", "a\x7f", "é", long + "n", long[:50] + "/" + long[:50], strings.Repeat("n", 300)} {
		both(t, s, names(s), api.ErrForm)
		both(t, s+" behind others", names("a1", "a2", s), api.ErrForm)
	}
	for number, want := range map[int]api.Errno{0: api.OK, 1: api.OK, 2: api.OK, 3: api.ErrForm, -1: api.ErrForm, math.MaxInt: api.ErrForm, math.MinInt: api.ErrForm} {
		both(t, fmt.Sprint("commit ", number), []Name{{Name: "a", Commit: number}}, want)
		both(t, fmt.Sprint("a second one of commit ", number), []Name{{Name: "a"}, {Name: "b", Commit: number, Note: true}}, want)
	}
	checks(t, "a tag of nothing", Plan{Tags: names("a")}, api.ErrForm)
	checks(t, "a branch of nothing", Plan{Branches: names("a")}, api.ErrForm)
}

// P25.1: names that stand twice, or where another one has a folder; tags and branches leave each other alone.
func TestCheckTwice(t *testing.T) {
	for _, l := range [][]string{{"a", "b"}, {"v1", "v1.0"}, {"v1/x", "v1/y"}, {"v1/x", "v1.x", "v1-x"}, {"ab/c", "a"}, {"a", "b/a"}, {"a", "A"}} {
		both(t, fmt.Sprint(l), names(l...), api.OK)
	}
	for _, l := range [][]string{{"a", "a"}, {"a", "b", "a"}, {"v1", "v1/x"}, {"v1/x", "v1"}, {"v1/x/y", "b", "v1"}, {"v1/x", "c", "v1/x/y/z"}, {"a", "a.b", "a/b"}} {
		both(t, fmt.Sprint(l), names(l...), api.ErrForm)
	}
	both(t, "twice, of two commits", []Name{{Name: "a"}, {Name: "a", Commit: 1, Note: true}}, api.ErrForm)
	p := commits(1)
	p.Tags, p.Branches = names("a", "b/c", "d"), names("a", "b", "d/e")
	checks(t, "tags like branches", p, api.OK)
}

// P25.1: a Head that is a branch's name, and others.
func TestCheckHead(t *testing.T) {
	p := commits(1)
	p.Tags, p.Branches = names("v1", "x/y"), names("main", "sub/main")
	for head, want := range map[string]api.Errno{
		"": api.OK, "main": api.OK, "sub/main": api.OK,
		"v1": api.ErrForm, "x/y": api.ErrForm, "sub": api.ErrForm, "refs/heads/main": api.ErrForm, "Main": api.ErrForm, "mai": api.ErrForm, "main\n": api.ErrForm, "HEAD": api.ErrForm,
	} {
		p.Head = head
		checks(t, fmt.Sprintf("Head %q", head), p, want)
	}
	checks(t, "a Head of nothing", Plan{Head: "main"}, api.ErrForm)
}

// P25.1: which of several errors counts.
func TestCheckOrder(t *testing.T) {
	bigFiles := Commit{Files: make([]api.File, 61)}
	bad := Commit{Time: -1}
	bigMessage := Commit{Message: strings.Repeat("x", 32501)}
	p := commits(41)
	p.Commits[0] = bad
	checks(t, "41 commits, the first one bad", p, api.ErrBig)
	checks(t, "41 tags, a bad commit", Plan{Commits: []Commit{bad}, Tags: make([]Name, 41)}, api.ErrBig)
	checks(t, "41 branches, a bad commit", Plan{Commits: []Commit{bad}, Branches: make([]Name, 41)}, api.ErrBig)
	both1 := bigFiles
	both1.Time = -1
	checks(t, "61 files at a bad Time", Plan{Commits: []Commit{both1}}, api.ErrBig)
	both2 := bigMessage
	both2.Time = -1
	checks(t, "a great Message at a bad Time", Plan{Commits: []Commit{both2}}, api.ErrForm)
	both3 := bigMessage
	both3.Files = []api.File{{Path: "a/"}}
	checks(t, "a great Message with a bad file", Plan{Commits: []Commit{both3}}, api.ErrForm)
	both4 := bigMessage
	both4.Parents = []int{0}
	checks(t, "a great Message with a bad parent", Plan{Commits: []Commit{both4}}, api.ErrForm)
	for _, c := range []struct {
		first, second Commit
		want          api.Errno
	}{{bad, bigFiles, api.ErrForm}, {bad, bigMessage, api.ErrForm}, {bigFiles, bad, api.ErrBig}, {bigMessage, bad, api.ErrBig}} {
		checks(t, "two bad commits", Plan{Commits: []Commit{c.first, c.second}}, c.want)
		checks(t, "two bad commits behind right ones", Plan{Commits: []Commit{{}, {}, c.first, {}, c.second}, Tags: names("")}, c.want)
	}
	checks(t, "a great Message and a bad tag", Plan{Commits: []Commit{bigMessage}, Tags: names("a..b")}, api.ErrBig)
	checks(t, "a great Message and a bad Head", Plan{Commits: []Commit{bigMessage}, Head: "x"}, api.ErrBig)
	for objects := -2; objects < 7; objects++ {
		want := api.ErrBig
		if objects < 0 || objects > 3 {
			want = api.ErrArg
		}
		if l, e := Build(commits(41), Style{Objects: objects}); e != want || l != nil {
			t.Errorf("Build of 41 commits, style %d: %d files, %d, not %d", objects, len(l), e, want)
		}
	}
}
