package graph

import (
	"math"
	"math/rand"
	"reflect"
	"slices"
	"strings"
	"testing"

	"cartulary/api"
)

// checks holds Check, and the errors of Places and Picture, against what the document asks of what is no history.
func checks(t *testing.T, what string, parents [][]int, want api.Errno) {
	t.Helper()
	if e := Check(parents); e != want {
		t.Errorf("%s: Check: %d, not %d", what, e, want)
	}
	at, rows, e := Places(parents)
	if want != api.OK && (at != nil || rows != nil || e != want) {
		t.Errorf("%s: Places: %v, %v, %d, not %d", what, at, rows, e, want)
	}
	lines, e := Picture(parents)
	if want != api.OK && (lines != nil || e != want) {
		t.Errorf("%s: Picture: %q, %d, not %d", what, lines, e, want)
	}
}

// shows holds Check, Places and Picture against what the document asks of a history.
func shows(t *testing.T, what string, parents [][]int, lanes []int, rows [][]int, lines ...string) {
	t.Helper()
	checks(t, what, parents, api.OK)
	var want []complex128
	for i, lane := range lanes {
		want = append(want, complex(float64(lane), float64(i)))
	}
	at, got, e := Places(parents)
	if e != api.OK || !slices.Equal(at, want) || !slices.EqualFunc(got, rows, slices.Equal) {
		t.Errorf("%s: Places(%v): %v, %v, %d, not %v, %v", what, parents, at, got, e, want, rows)
	}
	if got, e := Picture(parents); e != api.OK || !slices.Equal(got, lines) {
		t.Errorf("%s: Picture(%v): %q, %d, not %q", what, parents, got, e, lines)
	}
}

// lined: n commits, each the parent of the one ahead of it.
func lined(n int) [][]int {
	l := make([][]int, n)
	for i := range n - 1 {
		l[i] = []int{i + 1}
	}
	return l
}

// P18.1: no commits, 200 and 201, which counts ahead of what is no history.
func TestCheckRows(t *testing.T) {
	if MaxRows != 200 || MaxLanes != 40 {
		t.Errorf("MaxRows: %d, MaxLanes: %d", MaxRows, MaxLanes)
	}
	checks(t, "none", nil, api.OK)
	checks(t, "none, of an empty list", [][]int{}, api.OK)
	for n := 1; n <= 200; n++ {
		checks(t, "without parents", make([][]int, n), api.OK)
		checks(t, "a line", lined(n), api.OK)
	}
	for _, n := range []int{201, 202, 1000} {
		checks(t, "too many", make([][]int, n), api.ErrBig)
		checks(t, "too many", lined(n), api.ErrBig)
	}
	wrong := lined(201)
	wrong[0] = []int{-1, 0, 0}
	checks(t, "201 that are no history", wrong, api.ErrBig)
	checks(t, "200 that are none", wrong[:200], api.ErrForm)
	last := lined(200)
	last[199] = []int{200}
	checks(t, "the last one's parent is behind it", last, api.ErrForm)
}

// P18.1: parents that are their own number, smaller, not there, twice, wherever they stand.
func TestCheckParents(t *testing.T) {
	const n = 6
	for i := range n {
		for p := -2; p < n+3; p++ {
			want := api.OK
			if p <= i || p >= n {
				want = api.ErrForm
			}
			l := lined(n)
			l[i] = []int{p}
			checks(t, "one parent", l, want)
			l[i] = []int{p, p}
			checks(t, "twice", l, api.ErrForm)
			if i < 4 {
				if p == 5 {
					want = api.ErrForm
				}
				l[i] = []int{5, p}
				checks(t, "the second parent", l, want)
				l[i] = []int{p, 5}
				checks(t, "the first parent", l, want)
			}
		}
		l := lined(n)
		for _, p := range []int{math.MaxInt, math.MinInt, math.MaxInt32, 1 << 32, 1<<32 + 5, -5} {
			l[i] = []int{p}
			checks(t, "far away", l, api.ErrForm)
		}
	}
	checks(t, "twice with others between", [][]int{{1, 2, 3, 4, 1}, nil, nil, nil, nil}, api.ErrForm)
	checks(t, "falling", [][]int{{4, 3, 2, 1}, nil, nil, nil, nil}, api.OK)
	checks(t, "an empty list", [][]int{{}, {2}, {}}, api.OK)
	checks(t, "a great many", [][]int{make([]int, 1<<20), nil}, api.ErrForm)
	great := make([]int, 1<<20)
	for i := range great {
		great[i] = 1 + i%199
	}
	l := lined(200)
	l[0] = great
	checks(t, "a great many that are right, again and again", l, api.ErrForm)
}

// P18.1: the document's example; no commits; one; lines.
func TestPlaces(t *testing.T) {
	shows(t, "none", nil, nil, nil)
	shows(t, "one", [][]int{nil}, []int{0}, [][]int{{-1}}, "*")
	shows(t, "two", [][]int{{1}, nil}, []int{0, 0}, [][]int{{1}, {-1}}, "*", "*")
	shows(t, "two beginnings, one lane", [][]int{nil, nil, nil}, []int{0, 0, 0}, [][]int{{-1}, {-1}, {-1}}, "*", "*", "*")
	shows(t, "the example", [][]int{{1, 2}, {3}, {3}, nil}, []int{0, 0, 1, 0}, [][]int{{1, 2}, {3, 2}, {3, -1}, {-1, -1}}, "*", "*|", "|*", "*")
	shows(t, "parents the other way round", [][]int{{2, 1}, {3}, {3}, nil}, []int{0, 1, 0, 1}, [][]int{{2, 1}, {2, 3}, {-1, 3}, {-1, -1}}, "*", "|*", "*|", " *")
	shows(t, "two branches", [][]int{{2}, {2}, nil}, []int{0, 1, 0}, [][]int{{2}, {2, -1}, {-1, -1}}, "*", "|*", "*")
	shows(t, "three parents", [][]int{{3, 1, 2}, {3}, {3}, nil}, []int{0, 1, 2, 0}, [][]int{{3, 1, 2}, {3, -1, 2}, {3, -1, -1}, {-1, -1, -1}}, "*", "|*|", "| *", "*")
}

// P18.1: a lane that is free again is taken by what needs one, the first such lane ahead of others.
func TestFreeLanes(t *testing.T) {
	shows(t, "a commit takes it", [][]int{{4, 1}, nil, {4}, {4}, nil}, []int{0, 1, 1, 1, 0}, [][]int{{4, 1}, {4, -1}, {4, -1}, {4, -1}, {-1, -1}}, "*", "|*", "|*", "|*", "*")
	shows(t, "a second parent takes it", [][]int{{2, 1}, nil, {4, 3}, nil, nil}, []int{0, 1, 0, 1, 0}, [][]int{{2, 1}, {2, -1}, {4, 3}, {4, -1}, {-1, -1}}, "*", "|*", "*", "|*", "*")
	shows(t, "the first of two", [][]int{{5, 1, 2, 3}, nil, nil, {5}, {5}, nil}, []int{0, 1, 2, 3, 1, 0},
		[][]int{{5, 1, 2, 3}, {5, -1, 2, 3}, {5, -1, -1, 3}, {5, -1, -1, -1}, {5, -1, -1, -1}, {-1, -1, -1, -1}}, "*", "|*||", "| *|", "|  *", "|*", "*")
	// Commit 2's first parent has lane 0 already: its own lane 2 is free, but lane 1 is the first free one.
	shows(t, "a second parent beside the commit's own lane", [][]int{{4, 1, 2}, nil, {4, 3}, nil, nil}, []int{0, 1, 2, 1, 0},
		[][]int{{4, 1, 2}, {4, -1, 2}, {4, 3, -1}, {4, -1, -1}, {-1, -1, -1}}, "*", "|*|", "| *", "|*", "*")
	shows(t, "in the commit's own lane", [][]int{{3}, {3, 2}, nil, nil}, []int{0, 1, 1, 0}, [][]int{{3}, {3, 2}, {3, -1}, {-1, -1}}, "*", "|*", "|*", "*")
	// The first parent gets the commit's own lane, though one ahead of it is free.
	shows(t, "the first parent stays", [][]int{{1, 2}, nil, {3}, nil}, []int{0, 0, 1, 1}, [][]int{{1, 2}, {-1, 2}, {-1, 3}, {-1, -1}}, "*", "*|", " *", " *")
	shows(t, "the second one doesn't", [][]int{{1, 2}, nil, {3, 4}, nil, nil}, []int{0, 0, 1, 1, 0}, [][]int{{1, 2}, {-1, 2}, {4, 3}, {4, -1}, {-1, -1}}, "*", "*|", " *", "|*", "*")
}

// P18.1: lanes that would lead to one commit are one, whether it is a first parent or another one.
func TestOneLane(t *testing.T) {
	shows(t, "four to one", [][]int{{4}, {4}, {4}, {4}, nil}, []int{0, 1, 1, 1, 0}, [][]int{{4}, {4, -1}, {4, -1}, {4, -1}, {-1, -1}}, "*", "|*", "|*", "|*", "*")
	shows(t, "as a second parent", [][]int{{4}, {2, 4}, {3, 4}, {4}, nil}, []int{0, 1, 1, 1, 0}, [][]int{{4}, {4, 2}, {4, 3}, {4, -1}, {-1, -1}}, "*", "|*", "|*", "|*", "*")
	shows(t, "all of each other", [][]int{{1, 2, 3}, {2, 3}, {3}, nil}, []int{0, 0, 1, 2}, [][]int{{1, 2, 3}, {-1, 2, 3}, {-1, -1, 3}, {-1, -1, -1}}, "*", "*||", " *|", "  *")
}

// comb: a commit with n parents, and these.
func comb(n int) [][]int {
	l := make([][]int, n+1)
	for i := range n {
		l[0] = append(l[0], i+1)
	}
	return l
}

// P18.1: 40 lanes and 41, in one row or by and by; free ones are lanes too.
func TestLanes(t *testing.T) {
	for n := 1; n < 200; n++ {
		want := api.OK
		if n > 40 {
			want = api.ErrBig
		}
		for _, l := range [][][]int{comb(n), append([][]int{{1}}, shifted(comb(n), 1)...), stairs(n)} {
			if len(l) > 200 {
				continue
			}
			at, rows, e := Places(l)
			lines, f := Picture(l)
			if e != want || f != want || (at == nil) != (e != api.OK) || (rows == nil) != (e != api.OK) || (lines == nil) != (e != api.OK) {
				t.Errorf("%d lanes: %d places, %d rows, %d, %d lines, %d, not %d", n, len(at), len(rows), e, len(lines), f, want)
			}
			if e == api.OK && len(rows[len(rows)-1]) != n {
				t.Errorf("%d lanes: the last row %v", n, rows[len(rows)-1])
			}
		}
		if e := Check(comb(n)); e != api.OK {
			t.Errorf("Check of %d parents: %d", n, e)
		}
	}
	checks(t, "no history counts ahead of too many lanes", append(comb(41), nil, []int{43}), api.ErrForm)
}

// shifted: a history so many rows later.
func shifted(l [][]int, by int) [][]int {
	var later [][]int
	for _, parents := range l {
		var own []int
		for _, p := range parents {
			own = append(own, p+by)
		}
		later = append(later, own)
	}
	return later
}

// stairs: a history in which each of n commits has one lane more behind it.
func stairs(n int) [][]int {
	l := make([][]int, 2*n)
	for i := range n {
		l[i] = []int{n + i}
	}
	return l
}

// byWords: Places and Picture by the document's words.
func byWords(parents [][]int) (lanes []int, rows [][]int, lines []string, e api.Errno) {
	var to []int
	find := func(c int) int {
		for lane, x := range to {
			if x == c {
				return lane
			}
		}
		for lane, x := range to {
			if x < 0 {
				return lane
			}
		}
		to = append(to, -1)
		return len(to) - 1
	}
	for i, own := range parents {
		line := []string{}
		ahead := slices.Clone(to)
		lane := find(i)
		for range to {
			line = append(line, " ")
		}
		for k, x := range ahead {
			if x > i {
				line[k] = "|"
			}
		}
		line[lane] = "*"
		lines = append(lines, strings.TrimRight(strings.Join(line, ""), " "))
		for k, x := range to {
			if x == i {
				to[k] = -1
			}
		}
		for k, p := range own {
			if k == 0 && !slices.Contains(to, p) {
				to[lane] = p
			} else {
				taken := find(p)
				to[taken] = p
			}
		}
		if len(to) > 40 {
			return nil, nil, nil, api.ErrBig
		}
		lanes, rows = append(lanes, lane), append(rows, slices.Clone(to))
	}
	return lanes, rows, lines, api.OK
}

// someHistory: by chance, of n commits.
func someHistory(random *rand.Rand, n, most, far int) [][]int {
	l := make([][]int, n)
	for i := range l {
		for range random.Intn(most + 1) {
			p := i + 1 + random.Intn(far)
			if p < n && !slices.Contains(l[i], p) {
				l[i] = append(l[i], p)
			}
		}
	}
	return l
}

// P18.1: histories by chance, against the words; and what holds of every picture.
func TestByChance(t *testing.T) {
	random := rand.New(rand.NewSource(18))
	counted := map[api.Errno]int{}
	for range 3000 {
		l := someHistory(random, random.Intn(1+random.Intn(201)), 1+random.Intn(8), 1+random.Intn(150))
		lanes, rows, lines, e := byWords(l)
		counted[e]++
		if e != api.OK {
			tooWide(t, l)
			continue
		}
		shows(t, "by chance", l, lanes, rows, lines...)
		for i, row := range rows {
			seen := map[int]bool{}
			for _, to := range row {
				if to >= 0 && (to <= i || seen[to]) {
					t.Errorf("row %d: %v", i, row)
				}
				seen[to] = true
			}
		}
		for i, line := range lines {
			if strings.Count(line, "*") != 1 || strings.IndexByte(line, '*') != lanes[i] || strings.TrimRight(line, " ") != line || strings.Trim(line, "*| ") != "" {
				t.Errorf("line %d: %q", i, line)
			}
		}
	}
	if counted[api.OK] < 1000 || counted[api.ErrBig] < 100 {
		t.Errorf("the histories: %v", counted)
	}
}

// tooWide: a history with more lanes than there may be.
func tooWide(t *testing.T, l [][]int) {
	t.Helper()
	at, rows, e := Places(l)
	lines, f := Picture(l)
	if at != nil || rows != nil || lines != nil || e != api.ErrBig || f != api.ErrBig || Check(l) != api.OK {
		t.Errorf("too many lanes: %v, %v, %d, %q, %d", at, rows, e, lines, f)
	}
}

// P18.4: what is handed in, and the spare room behind it, stays as it is; whoever changes it or an answer changes no other answer, and no other list of the same one.
func TestMemory(t *testing.T) {
	random := rand.New(rand.NewSource(4))
	for range 100 {
		l := someHistory(random, 1+random.Intn(40), 3, 6)
		for i := range l {
			l[i] = append(l[i], 77, 78)[:len(l[i])]
		}
		kept := make([][]int, len(l))
		for i := range l {
			kept[i] = slices.Clone(l[i][:len(l[i])+2])
		}
		same := func() {
			t.Helper()
			for i := range l {
				if !slices.Equal(l[i][:len(l[i])+2], kept[i]) {
					t.Fatalf("changed: %v, not %v", l[i][:len(l[i])+2], kept[i])
				}
			}
		}
		Check(l)
		at, rows, _ := Places(l)
		lines, _ := Picture(l)
		same()
		lanes, wantRows, wantLines, _ := byWords(l)
		// Each row alone, with all room that it has.
		for i := range rows {
			if !slices.Equal(rows[i], wantRows[i]) {
				t.Fatalf("row %d: %v, not %v", i, rows[i], wantRows[i])
			}
			whole := rows[i][:cap(rows[i])]
			for k := range whole {
				whole[k] = -9
			}
		}
		clear(at[:cap(at)])
		clear(lines[:cap(lines)])
		same()
		shows(t, "again", l, lanes, wantRows, wantLines...)
		wayOne, wayTwo := Way(0, 3+4i), Way(0, 3+4i)
		clear(wayOne[:cap(wayOne)])
		if !reflect.DeepEqual(wayTwo, Way(0, 3+4i)) {
			t.Fatalf("Way: %v", wayTwo)
		}
	}
}

// P18.4: Turned leaves what is handed in as it is, and keeps none of it.
func TestTurnedMemory(t *testing.T) {
	for times := range 4 {
		whole := []complex128{1, 2i, 3 + 4i, 5, 6}
		l := whole[:3]
		turned := Turned(l, 0, times)
		again := Turned(l, 0, times)
		if !slices.Equal(whole, []complex128{1, 2i, 3 + 4i, 5, 6}) {
			t.Fatalf("changed: %v", whole)
		}
		kept := slices.Clone(turned)
		clear(whole)
		clear(again[:cap(again)])
		if !slices.Equal(turned, kept) {
			t.Fatalf("shared: %v, not %v", turned, kept)
		}
		clear(turned[:cap(turned)])
		if !slices.Equal(whole, make([]complex128, 5)) {
			t.Fatalf("shared: %v", whole)
		}
	}
}
