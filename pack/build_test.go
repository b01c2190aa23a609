package pack

import (
	stdzlib "compress/zlib"
	"io"
	"math"
	"math/rand"
	"slices"
	"strconv"
	"strings"
	"testing"

	"cartulary/api"
	"cartulary/delta"
	"cartulary/zlib"
)

// blob: an item without a delta.
func blob(data string) Item {
	return Item{Object: api.Object{Kind: api.Blob, Data: data}}
}

// on: an item with a delta.
func on(base int, data string, byName bool) Item {
	return Item{Object: api.Object{Kind: api.Blob, Data: data}, Delta: true, Base: base, ByName: byName}
}

// builds holds Build against an error, "" beside it.
func builds(t *testing.T, want api.Errno, items ...Item) {
	t.Helper()
	if s, e := Build(items); s != "" || e != want {
		t.Errorf("Build of %d items: %d bytes, %d, not %d", len(items), len(s), e, want)
	}
}

// packed: the pack of these items, by the words of the document.
func packed(t *testing.T, items []Item) string {
	t.Helper()
	var entries []string
	var places []int
	at := 12
	for _, item := range items {
		kind, link, data := item.Object.Kind, "", item.Object.Data
		if item.Delta {
			base := items[item.Base].Object
			data = delta.Make(base.Data, data)
			kind, link = 6, ""
			if item.ByName {
				kind, link = 7, unhex(t, nameOf(base))
			} else {
				link = backOf(at - places[item.Base])
			}
		}
		places = append(places, at)
		entries = append(entries, openingOf(kind, len(data), 1)+link+zlib.Write(data))
		at += len(entries[len(entries)-1])
	}
	return packOf(uint32(len(items)), entries...)
}

// inflated: what a frame says, by the library.
func inflated(t *testing.T, frame string) string {
	t.Helper()
	r, err := stdzlib.NewReader(strings.NewReader(frame))
	if err != nil {
		t.Fatal(err)
	}
	b, err := io.ReadAll(r)
	if err != nil {
		t.Fatal(err)
	}
	return string(b)
}

// readBack: Build of the items is the pack by the document's words, and All reads it, entry by entry.
func readBack(t *testing.T, items []Item) {
	t.Helper()
	s, e := Build(items)
	if e != api.OK {
		t.Fatalf("Build of %d items: %d", len(items), e)
	}
	if s != packed(t, items) {
		t.Errorf("Build of %d items: %.80x", len(items), s)
	}
	counts(t, s, len(items), api.OK)
	l, e := All(s)
	if e != api.OK || len(l) != len(items) {
		t.Fatalf("All: %d entries, %d", len(l), e)
	}
	at := 12
	for i, item := range items {
		x := l[i]
		if x.At != at {
			t.Errorf("item %d: at %d, not %d", i, x.At, at)
		}
		at = x.Next
		told(t, items, l, i)
		frame := s[x.Next-len(zlib.Write(x.Data)) : x.Next]
		if frame != zlib.Write(x.Data) || inflated(t, frame) != x.Data {
			t.Errorf("item %d of %d: another frame", i, len(item.Object.Data))
		}
	}
	if at != len(s)-20 {
		t.Errorf("the last entry ends at %d of %d", at, len(s))
	}
}

// told: entry i tells item i.
func told(t *testing.T, items []Item, l []Entry, i int) {
	t.Helper()
	item, x := items[i], l[i]
	if !item.Delta {
		if x.Kind != item.Object.Kind || x.Data != item.Object.Data || x.Base != 0 || x.Id != "" {
			t.Errorf("item %d: %.100v", i, x)
		}
		return
	}
	base := items[item.Base].Object
	if data, e := delta.Apply(base.Data, x.Data, api.MaxBytes); data != item.Object.Data || e != api.OK {
		t.Errorf("item %d: the delta: %.40q, %d", i, data, e)
	}
	if item.ByName && (x.Kind != Named || x.Id != nameOf(base) || x.Base != 0) {
		t.Errorf("item %d by name: %.100v", i, x)
	}
	if !item.ByName && (x.Kind != Offset || x.Id != "" || x.Base != l[item.Base].At) {
		t.Errorf("item %d by place: %.100v", i, x)
	}
}

// P11.2: objects of each kind, with sizes about those that need another byte.
func TestBuildObjects(t *testing.T) {
	var items []Item
	for kind := 1; kind <= 4; kind++ {
		for _, n := range []int{0, 1, 14, 15, 16, 17, 127, 128, 2046, 2047, 2048, 2049, 32767, 32768, 64999, 65000} {
			items = append(items,
				Item{Object: api.Object{Kind: kind, Data: sample(n)}},
				Item{Object: api.Object{Kind: kind, Data: strings.Repeat("ab\x00", n)[:n]}})
		}
	}
	readBack(t, items)
	for _, item := range items {
		readBack(t, []Item{item})
	}
}

// P11.2: the openings are as short as can be.
func TestBuildOpenings(t *testing.T) {
	for n, want := range map[int]string{0: "\x30", 1: "\x31", 15: "\x3f", 16: "\xb0\x01", 100: "\xb4\x06", 2047: "\xbf\x7f", 2048: "\xb0\x80\x01", 65000: "\xb8\xde\x1f"} {
		s, e := Build([]Item{blob(strings.Repeat("a", n))})
		if e != api.OK || s[12:12+len(want)] != want || s[12+len(want):14+len(want)] != "\x78\x01" {
			t.Errorf("%d bytes: %x, %d, not %x", n, s[12:20], e, want)
		}
	}
}

// P11.2: deltas on any item ahead, by place and by name, also on deltas and on the item's own text.
func TestBuildDeltas(t *testing.T) {
	text := strings.Repeat("some lines of a text, ", 40)
	for _, byName := range []bool{false, true} {
		readBack(t, []Item{blob(text), on(0, text+"more", byName), on(1, text+"more and more", byName), on(0, "", byName), on(3, text, byName), on(0, text, byName), blob(""), on(6, "", byName)})
		readBack(t, []Item{blob(""), on(0, "", byName)})
		readBack(t, []Item{blob(""), on(0, "abc", byName), on(0, sample(2000), byName)})
		for kind := 1; kind <= 4; kind++ {
			readBack(t, []Item{
				{Object: api.Object{Kind: kind, Data: text}},
				{Object: api.Object{Kind: kind, Data: text + "!"}, Delta: true, ByName: byName},
			})
		}
	}
}

// P11.2: without Delta neither Base nor ByName is asked.
func TestBuildNoDelta(t *testing.T) {
	want, _ := Build([]Item{blob("a"), blob("b")})
	for _, base := range []int{math.MinInt, -1, 0, 1, 2, 99, math.MaxInt} {
		for _, byName := range []bool{false, true} {
			item := Item{Object: api.Object{Kind: api.Blob, Data: "b"}, Base: base, ByName: byName}
			if s, e := Build([]Item{blob("a"), item}); s != want || e != api.OK {
				t.Errorf("base %d: %x, %d", base, s, e)
			}
		}
	}
}

// P11.2: bases so far back that their numbers have one to four bytes.
func TestBuildFarBack(t *testing.T) {
	base := "a base with some text in it"
	for _, between := range []int{0, 1, 50, 90, 91, 92, 93, 94, 95, 96, 97, 98, 99, 100, 200, 16400} {
		readBack(t, []Item{blob(base), blob(sample(between)), on(0, base+"!", false), on(0, base+"?", true)})
	}
	for n := 16512 - 120; n < 16512; n++ {
		readBack(t, []Item{blob(base), blob(sample(n)), on(0, base+"!", false)})
	}
	items := []Item{blob(base)}
	for i := range 33 {
		items = append(items, blob(sample(65000-i)))
	}
	items = append(items, on(0, base+"!", false), on(33, items[33].Object.Data+"!", false))
	s, e := Build(items)
	l, e2 := All(s)
	if e != api.OK || e2 != api.OK || len(l) != 36 || l[34].Base != 12 || l[35].Base != l[33].At {
		t.Fatalf("%d, %d, %d entries", e, e2, len(l))
	}
	if link := s[l[34].At+1 : l[34].At+5]; link != backOf(l[34].At-12) || s[l[34].At+5] != 0x78 {
		t.Errorf("%d back: %x", l[34].At-12, link)
	}
}

// P11.2: as many items as may be, and one more.
func TestBuildMost(t *testing.T) {
	random := rand.New(rand.NewSource(1000))
	var items []Item
	for i := range 1000 {
		o := api.Object{Kind: 1 + i%4, Data: "the text of item number " + strconv.Itoa(i)}
		item := Item{Object: o}
		if i >= 4 && random.Intn(3) > 0 {
			item = Item{Object: o, Delta: true, Base: i%4 + 4*random.Intn(i/4), ByName: random.Intn(2) == 0}
		}
		items = append(items, item)
	}
	readBack(t, items)
	builds(t, api.ErrBig, append(items, blob(""))...)
	builds(t, api.ErrBig, append(items, on(-1, "", false))...)
	builds(t, api.ErrBig, make([]Item, 1001)...)
	builds(t, api.ErrKind, make([]Item, 1000)...)
	builds(t, api.ErrBig, make([]Item, 3000)...)
}

// P11.2: objects that aren't right, as items and as deltas.
func TestBuildCheck(t *testing.T) {
	big := strings.Repeat("a", 65001)
	for _, delta := range []bool{false, true} {
		for _, base := range []int{-1, 0, 1} {
			for _, kind := range []int{math.MinInt, -1, 0, 5, 6, 7, 8, 19, math.MaxInt} {
				builds(t, api.ErrKind, blob("a"), Item{Object: api.Object{Kind: kind, Data: "a"}, Delta: delta, Base: base})
				builds(t, api.ErrKind, blob("a"), Item{Object: api.Object{Kind: kind, Data: big}, Delta: delta, Base: base})
			}
			builds(t, api.ErrBig, blob("a"), Item{Object: api.Object{Kind: api.Blob, Data: big}, Delta: delta, Base: base})
			builds(t, api.ErrBig, blob("a"), Item{Object: api.Object{Kind: api.Tree, Data: big}, Delta: delta, Base: base})
		}
	}
	builds(t, api.ErrKind, Item{})
}

// P11.2: bases that are the item itself, behind it, or nowhere.
func TestBuildBase(t *testing.T) {
	for _, byName := range []bool{false, true} {
		for n := range 5 {
			for _, base := range []int{math.MinInt, -2, -1, n, n + 1, n + 2, 999, 1000, math.MaxInt} {
				var items []Item
				for range n {
					items = append(items, blob("a"))
				}
				items = append(items, on(base, "a", byName))
				builds(t, api.ErrArg, items...)
				builds(t, api.ErrArg, append(items, blob("a"), blob("a"), blob("a"))...)
				// Ahead of its kind.
				items[n].Object.Kind = api.Tree
				builds(t, api.ErrArg, append(items, blob("a"), blob("a"))...)
			}
		}
	}
}

// P11.2: bases of another kind.
func TestBuildOtherKind(t *testing.T) {
	for kind := 1; kind <= 4; kind++ {
		for other := 1; other <= 4; other++ {
			for _, byName := range []bool{false, true} {
				items := []Item{
					{Object: api.Object{Kind: kind, Data: "abc"}},
					{Object: api.Object{Kind: other, Data: "abc"}, Delta: true, ByName: byName},
				}
				if kind == other {
					readBack(t, items)
				} else {
					builds(t, api.ErrKind, items...)
				}
			}
		}
	}
	// Ahead of a delta that is too big.
	builds(t, api.ErrKind, blob(""), Item{Object: api.Object{Kind: api.Tree, Data: sample(65000)}, Delta: true})
}

// P11.2: deltas of more than MaxData bytes, and of just as many.
func TestBuildBigDelta(t *testing.T) {
	for _, byName := range []bool{false, true} {
		builds(t, api.ErrBig, blob(""), on(0, sample(65000), byName))
		builds(t, api.ErrBig, blob("another"), on(0, sample(64999), byName), blob("a"))
		most, exact := 0, false
		for n := 64400; n <= 64600; n++ {
			data := sample(n)
			size := len(delta.Make("", data))
			s, e := Build([]Item{blob(""), on(0, data, byName)})
			if size > 65000 {
				if s != "" || e != api.ErrBig {
					t.Errorf("a delta of %d bytes: %d", size, e)
				}
				continue
			}
			most, exact = n, exact || size == 65000
			if e != api.OK {
				t.Errorf("a delta of %d bytes: %d", size, e)
			}
		}
		if most < 64400 || most == 64600 || !exact {
			t.Errorf("%d bytes at most, %v", most, exact)
		}
		data := sample(most)
		readBack(t, []Item{blob(""), on(0, data, byName), on(1, data+"!", byName)})
	}
}

// P11.2: the first item that isn't right counts, whatever is wrong with those behind it.
func TestBuildOrder(t *testing.T) {
	wrong := map[api.Errno][]Item{
		api.ErrKind: {{}, {Object: api.Object{Kind: api.Tree}, Delta: true}},
		api.ErrArg:  {on(1, "", false), on(-1, "", true), on(2, sample(65000), false)},
		api.ErrBig:  {blob(sample(65001)), on(0, sample(65000), false)},
	}
	for first, ones := range wrong {
		for _, one := range ones {
			for _, others := range wrong {
				for _, other := range others {
					builds(t, first, blob(""), one, other)
				}
			}
		}
	}
}

// P11.3: Build changes nothing that it is handed, nor what stands behind it, and keeps nothing.
func TestBuildChangesNothing(t *testing.T) {
	room := []Item{blob("a base, a base, a base"), on(0, "a base, a base, and more", false), on(1, "a base, a base", true), {Base: 7}, {Base: 8}}
	want := slices.Clone(room)
	items := room[:3]
	s, e := Build(items)
	if e != api.OK || !slices.Equal(room, want) {
		t.Errorf("Build: %v, %d", room, e)
	}
	kept := strings.Clone(s)
	clear(room)
	if s != kept {
		t.Error("the pack changed with the items")
	}
	alls(t, s, api.OK, func() []Entry { l, _ := All(kept); return l }()...)
}

// P11.2: random items, by the document's words and read back.
func TestBuildRandom(t *testing.T) {
	random := rand.New(rand.NewSource(112))
	for range 150 {
		var items []Item
		for i := range random.Intn(30) {
			o := api.Object{Kind: 1 + random.Intn(4), Data: strings.Repeat("abcdefghijklmnopqrstuvwxyz"[random.Intn(9):], random.Intn(20)) + sample(random.Intn(99))}
			item := Item{Object: o, Base: random.Intn(9) - 4}
			if i > 0 && random.Intn(2) == 0 {
				base := random.Intn(i)
				o.Kind = items[base].Object.Kind
				item = Item{Object: o, Delta: true, Base: base, ByName: random.Intn(2) == 0}
			}
			items = append(items, item)
		}
		readBack(t, items)
	}
}
