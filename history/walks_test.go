package history

import (
	"fmt"
	"math"
	"math/rand"
	"slices"
	"testing"

	"cartulary/api"
	"cartulary/odb"
)

// ancestors holds Ancestors against what the document asks.
func ancestors(t *testing.T, what string, d *odb.Odb, id string, most int, wantE api.Errno, want ...string) {
	t.Helper()
	if l, e := Ancestors(d, id, most); e != wantE || !slices.Equal(l, want) || e != api.OK && l != nil {
		t.Errorf("%s: Ancestors(%.50q, %d): %.300v, %d, not %.300v, %d", what, id, most, l, e, want, wantE)
	}
}

// before holds Before against what the document asks.
func before(t *testing.T, what string, d *odb.Odb, old, id string, most int, want bool, wantE api.Errno) {
	t.Helper()
	if is, e := Before(d, old, id, most); is != want || e != wantE {
		t.Errorf("%s: Before(%.50q, %.50q, %d): %v, %d, not %v, %d", what, old, id, most, is, e, want, wantE)
	}
}

// P17.2: the document's example, with every budget.
func TestExample(t *testing.T) {
	r := newRepo()
	root := r.commit("r")
	a, b := r.commit("a", root), r.commit("b", root)
	c := r.commit("c", a, b)
	other := r.commit("other")
	d := r.open(t)
	for _, most := range []int{4, 5, 400, math.MaxInt} {
		ancestors(t, "c", d, c, most, api.OK, c, a, b, root)
		before(t, "r of c", d, root, c, most, true, api.OK)
		before(t, "c of c", d, c, c, most, true, api.OK)
		before(t, "c of r", d, c, root, most, false, api.OK)
		before(t, "a of b", d, a, b, most, false, api.OK)
		before(t, "another one", d, other, c, most, false, api.OK)
		for _, old := range append(noNames, absent, c[:12], " "+c) {
			before(t, "no ancestor", d, old, c, most, false, api.OK)
		}
	}
	for _, most := range []int{3, 2, 1, 0, -1, math.MinInt} {
		ancestors(t, "c", d, c, most, api.ErrBudget)
		// Also where old is among those that came.
		for _, old := range []string{c, a, root, other, "", absent} {
			before(t, "too far", d, old, c, most, false, api.ErrBudget)
		}
	}
	ancestors(t, "r", d, root, 1, api.OK, root)
	ancestors(t, "a", d, a, 2, api.OK, a, root)
	before(t, "r of r", d, root, root, 1, true, api.OK)
}

// P17.2: the budget counts ahead of all that is wrong with the commit behind it.
func TestBudgetFirst(t *testing.T) {
	r := newRepo()
	blob := r.put(api.Blob, "hi")
	d := r.open(t)
	for id, want := range map[string]api.Errno{absent: api.ErrAbsent, "": api.ErrForm, "none": api.ErrForm, blob: api.ErrKind} {
		for _, most := range []int{0, -1, math.MinInt} {
			ancestors(t, "no budget", d, id, most, api.ErrBudget)
			before(t, "no budget", d, id, id, most, false, api.ErrBudget)
		}
		ancestors(t, "a budget of one", d, id, 1, want)
		before(t, "a budget of one", d, id, id, 1, false, want)
	}
}

// P17.2: a parent that isn't there, or is wrong, ahead of the budget's end and behind it.
func TestWrongParents(t *testing.T) {
	for _, n := range []int{1, 2, 5, 9} {
		r := newRepo()
		ends := map[string]api.Errno{absent: api.ErrAbsent, r.put(api.Blob, "hi"): api.ErrKind, r.put(api.Commit, "no"): api.ErrText, r.tag(absent, "commit"): api.ErrKind}
		tips := map[string]api.Errno{}
		for end, want := range ends {
			for i := range n {
				end = r.commit(fmt.Sprint(i), end)
			}
			tips[end] = want
		}
		d := r.open(t)
		for tip, want := range tips {
			for most := -1; most < 12; most++ {
				e := want
				if most <= n {
					e = api.ErrBudget
				}
				ancestors(t, fmt.Sprint(n, " ahead of a wrong one"), d, tip, most, e)
				before(t, fmt.Sprint(n, " ahead of a wrong one"), d, tip, tip, most, false, e)
			}
		}
	}
}

// P17.2: of several wrong ones the first in the list counts, level by level.
func TestFirstWrong(t *testing.T) {
	r := newRepo()
	blob := r.put(api.Blob, "hi")
	deep := r.commit("deep", absent)
	one := r.commit("one", deep, blob)
	two := r.commit("two", absent, blob)
	three := r.commit("three", blob, absent)
	d := r.open(t)
	ancestors(t, "the second parent is ahead of the first one's", d, one, 9, api.ErrKind)
	ancestors(t, "the first parent", d, two, 9, api.ErrAbsent)
	ancestors(t, "the first parent", d, three, 9, api.ErrKind)
	ancestors(t, "behind the budget", d, one, 2, api.ErrBudget)
}

// P17.2: parents that stand twice, and commits that are reached in several ways.
func TestTwice(t *testing.T) {
	r := newRepo()
	root := r.commit("r")
	a := r.commit("a", root, root)
	b := r.commit("b", root, a, root, a)
	c := r.commit("c", b, root, b, a)
	d := r.open(t)
	ancestors(t, "a", d, a, 2, api.OK, a, root)
	ancestors(t, "b", d, b, 3, api.OK, b, root, a)
	ancestors(t, "c", d, c, 4, api.OK, c, b, root, a)
	ancestors(t, "c", d, c, 3, api.ErrBudget)
}

// ancestorsByWords: the list is gone through itself for what is in it already.
func (r *repo) ancestorsByWords(id string, most int) ([]string, api.Errno) {
	list := []string{id}
	for i := 0; i < len(list); i++ {
		if i >= most || most < 1 {
			return nil, api.ErrBudget
		}
		parents, there := r.parents[list[i]]
		if !there {
			return nil, api.ErrAbsent
		}
		for _, p := range parents {
			if !slices.Contains(list, p) {
				list = append(list, p)
			}
		}
	}
	return list, api.OK
}

// P17.2: histories by chance, against the words.
func TestAncestorsByChance(t *testing.T) {
	random := rand.New(rand.NewSource(17))
	counted := map[api.Errno]int{}
	for range 120 {
		r := newRepo()
		var all []string
		for i := range 1 + random.Intn(25) {
			var parents []string
			for range min(random.Intn(5), i) {
				// Mostly late ones, so that the history is long.
				parents = append(parents, all[i-1-random.Intn(1+random.Intn(i))])
			}
			if random.Intn(60) == 0 {
				parents = slices.Insert(parents, random.Intn(len(parents)+1), absent)
			}
			all = append(all, r.commit(fmt.Sprint(i), parents...))
		}
		d := r.open(t)
		for most := -1; most < len(all)+2; most++ {
			id := all[len(all)-1-random.Intn(min(len(all), 5))]
			want, e := r.ancestorsByWords(id, most)
			counted[e]++
			ancestors(t, "by chance", d, id, most, e, want...)
			old := all[random.Intn(len(all))]
			before(t, "by chance", d, old, id, most, slices.Contains(want, old), e)
		}
	}
	if counted[api.OK] < 300 || counted[api.ErrBudget] < 300 || counted[api.ErrAbsent] < 50 {
		t.Errorf("the histories: %v", counted)
	}
}

// P17.2: a long history, each commit with all parents that it may have.
func TestLong(t *testing.T) {
	r := newRepo()
	var all []string
	for i := range 400 {
		parents := slices.Clone(all[max(0, i-16):])
		slices.Reverse(parents)
		all = append(all, r.commit(fmt.Sprint(i), parents...))
	}
	d := r.open(t)
	slices.Reverse(all)
	ancestors(t, "long", d, all[0], api.MaxNodes, api.OK, all...)
	ancestors(t, "long", d, all[0], api.MaxNodes-1, api.ErrBudget)
	before(t, "long", d, all[399], all[0], api.MaxNodes, true, api.OK)
	before(t, "long", d, all[0], all[399], 1, false, api.OK)
}
