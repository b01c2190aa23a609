package packidx

import (
	"math"
	"math/rand"
	"slices"
	"strings"
	"testing"

	"cartulary/api"
)

// builds holds Build against an error, "" beside it.
func builds(t *testing.T, rows []Row, sum string, far int, want api.Errno) {
	t.Helper()
	if s, e := Build(rows, sum, far); s != "" || e != want {
		t.Errorf("Build of %d rows: %d bytes, %d, not %d", len(rows), len(s), e, want)
	}
}

// readBack: Build makes the bytes that the document's words ask for, and Parse reads them.
func readBack(t *testing.T, rows []Row, sum string, far int) {
	t.Helper()
	s, e := Build(rows, sum, far)
	if e != api.OK {
		t.Fatalf("Build of %d rows: %d", len(rows), e)
	}
	if s != partsOf(rows, sum, far).text() {
		t.Errorf("Build of %d rows, far %d: other bytes", len(rows), far)
	}
	isRead(t, s, sorted(rows), sum)
}

// P12.2: rows in any order, as many as may be, and one more.
func TestBuildRows(t *testing.T) {
	random := rand.New(rand.NewSource(122))
	for _, n := range []int{0, 1, 2, 3, 10, 255, 256, 257, 999, 1000} {
		rows := someRows(n)
		for _, far := range []int{0, 13, 5000, 1 << 31} {
			readBack(t, rows, someSum, far)
			readBack(t, shuffled(random, rows), someSum, far)
			readBack(t, sorted(rows), nameOf(n), far)
		}
	}
	rows := someRows(1001)
	builds(t, rows, someSum, 1<<31, api.ErrBig)
	builds(t, someRows(3000), someSum, 0, api.ErrBig)
	// Ahead of all that isn't in form.
	rows[0] = Row{At: -1}
	builds(t, rows, "", 0, api.ErrBig)
	builds(t, rows[:1000], someSum, 0, api.ErrForm)
	builds(t, make([]Row, 1001), "", 0, api.ErrBig)
}

// P12.2: names at the edges of all names, and one for each first byte.
func TestBuildFirstBytes(t *testing.T) {
	var rows []Row
	for i := range 256 {
		rows = append(rows, Row{Id: "0123456789abcdef"[i/16:][:1] + "0123456789abcdef"[i%16:][:1] + someSum[2:], At: i})
		readBack(t, rows[i:], someSum, 1<<31)
	}
	readBack(t, rows, someSum, 1<<31)
	readBack(t, []Row{{Id: strings.Repeat("f", 40)}, {Id: strings.Repeat("0", 40)}}, strings.Repeat("0", 40), 1)
}

// P12.2: which places are far.
func TestBuildFar(t *testing.T) {
	places := []int{0, 1, 2, 12, 100, 1<<31 - 2, 1<<31 - 1, 1 << 31, 1<<31 + 1, 1<<32 - 1, 1 << 32, 1<<40 - 1, 1 << 40}
	if MaxPlace != 1<<40 {
		t.Errorf("MaxPlace: %d", MaxPlace)
	}
	var rows []Row
	for i, at := range places {
		rows = append(rows, Row{Id: nameOf(i), At: at, Crc: uint32(i)})
	}
	for _, far := range append(places, -1, -1<<40, math.MinInt, math.MaxInt, 3, 1<<40+1, 1<<50) {
		readBack(t, rows, someSum, far)
		n := 0
		for _, at := range places {
			if at >= far || at >= 1<<31 {
				n++
			}
		}
		if s, _ := Build(rows, someSum, far); len(s) != 1072+28*len(rows)+8*n {
			t.Errorf("far %d: %d bytes, %d far ones", far, len(s), n)
		}
	}
	// One far place for each row, also where two rows have one place.
	same := []Row{{Id: nameOf(1), At: 1 << 35}, {Id: nameOf(2), At: 1 << 35}, {Id: nameOf(3), At: 12}, {Id: nameOf(4), At: 12}}
	readBack(t, same, someSum, 1<<31)
	readBack(t, same, someSum, 12)
	if s, _ := Build(same, someSum, 12); len(s) != 1072+4*28+4*8 {
		t.Errorf("%d bytes", len(s))
	}
}

// P12.2: names that are none, or stand twice.
func TestBuildNames(t *testing.T) {
	good := someRows(5)
	for _, id := range []string{"", "e", someSum[:39], someSum + "0", strings.ToUpper(someSum), someSum[:39] + "g", "G" + someSum[1:], someSum[:20], strings.Repeat(" ", 40), strings.Repeat("\x00", 20), someSum + someSum} {
		builds(t, []Row{{Id: id}}, someSum, 0, api.ErrForm)
		builds(t, good, id, 0, api.ErrForm)
		builds(t, nil, id, 0, api.ErrForm)
		for i := range good {
			rows := slices.Clone(good)
			rows[i].Id = id
			builds(t, rows, someSum, 1<<31, api.ErrForm)
		}
	}
	for i := range good {
		for k := range good {
			rows := slices.Clone(good)
			rows[i].Id = rows[k].Id
			if i == k {
				readBack(t, rows, someSum, 0)
			} else {
				builds(t, rows, someSum, 0, api.ErrForm)
			}
			builds(t, append(slices.Clone(good), good[k]), someSum, 1<<31, api.ErrForm)
		}
	}
	// The pack's sum may be a row's name.
	readBack(t, good, good[2].Id, 1<<31)
}

// P12.2: places that may not be.
func TestBuildPlaces(t *testing.T) {
	for _, at := range []int{math.MinInt, -1 << 40, -2, -1, 1<<40 + 1, 1 << 41, math.MaxInt} {
		for _, far := range []int{math.MinInt, 0, 1 << 31, math.MaxInt} {
			builds(t, []Row{{Id: someSum, At: at}}, someSum, far, api.ErrForm)
			for i := range 3 {
				rows := someRows(3)
				rows[i].At = at
				builds(t, rows, someSum, far, api.ErrForm)
			}
		}
	}
	for _, at := range []int{0, 1 << 40} {
		readBack(t, []Row{{Id: someSum, At: at}}, someSum, 1<<31)
	}
}

// P12.3: Build changes nothing that it is handed, nor what stands behind it, and keeps nothing.
func TestBuildChangesNothing(t *testing.T) {
	room := shuffled(rand.New(rand.NewSource(123)), someRows(30))
	want := slices.Clone(room)
	s, e := Build(room[:20], someSum, 500)
	if e != api.OK || !slices.Equal(room, want) {
		t.Errorf("Build changed its rows: %d", e)
	}
	kept := strings.Clone(s)
	clear(room)
	if s != kept {
		t.Error("the index changed with the rows")
	}
	isRead(t, s, sorted(want[:20]), someSum)
	// Nor where it answers an error.
	room = slices.Clone(want)
	room[0].At = -1
	wrong := slices.Clone(room)
	builds(t, room[:20], someSum, 0, api.ErrForm)
	if !slices.Equal(room, wrong) {
		t.Error("Build changed rows that aren't in form")
	}
}

// P12.2: random rows, by the document's words and read back.
func TestBuildRandom(t *testing.T) {
	random := rand.New(rand.NewSource(121))
	for range 300 {
		var rows []Row
		for i := range random.Intn(60) {
			rows = append(rows, Row{Id: nameOf(i), At: random.Intn(1 << random.Intn(41)), Crc: random.Uint32()})
		}
		readBack(t, shuffled(random, rows), nameOf(random.Intn(99)), random.Intn(1<<random.Intn(42))-9)
	}
}
