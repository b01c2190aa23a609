package zip

import (
	"fmt"
	"math/rand"
	"slices"
	"testing"

	"cartulary/api"
)

// somePieces: files of an archive, stored or deflated, a few of which are wrong.
func somePieces(random *rand.Rand, wrong int) []piece {
	var pieces []piece
	for _, f := range someFiles(random, 6) {
		x := plain(f.Path, f.Data)
		if random.Intn(2) == 0 {
			x = squeezed(f.Path, f.Data)
		}
		if random.Intn(100) < wrong {
			spoil(random, &x)
		}
		pieces = append(pieces, x)
	}
	if len(pieces) > 1 && random.Intn(100) < wrong {
		i, j := random.Intn(len(pieces)), random.Intn(len(pieces))
		pieces[i].path = pieces[j].path
	}
	return pieces
}

// spoil makes one thing wrong that both heads tell.
func spoil(random *rand.Rand, x *piece) {
	switch random.Intn(6) {
	case 0:
		x.crc ^= 1 << random.Intn(32)
	case 1:
		x.size += random.Intn(3) - 1
	case 2:
		x.size = random.Intn(1 << 21)
	case 3:
		x.method = random.Intn(10)
	case 4:
		x.follow += "x"
	case 5:
		x.path = []string{"", "..", "a//", "~", "a"}[random.Intn(5)]
	}
	x.size = max(x.size, 0)
}

// cutOrTurn: a text in which perhaps something is wrong.
func cutOrTurn(random *rand.Rand, s string, wrong int) string {
	if s == "" || random.Intn(100) >= wrong {
		return s
	}
	at := random.Intn(len(s))
	switch random.Intn(4) {
	case 0:
		return s[:at]
	case 1:
		return s + s[at:]
	case 2:
		return s[:at] + s[at+1:]
	}
	return put(s, at, raw(byte(random.Intn(256))))
}

// P23.2, P23.3: archives of which much is wrong, held against the document's words; those that are taken with all files stored are Write of what they say.
func TestReadHostile(t *testing.T) {
	random := rand.New(rand.NewSource(6))
	told := map[api.Errno]int{}
	for range 20000 {
		wrong := []int{0, 10, 30}[random.Intn(3)]
		pieces := somePieces(random, wrong)
		locals, heads := laid(pieces...)
		s := joined(cutOrTurn(random, locals, wrong), cutOrTurn(random, heads, wrong), len(pieces))
		s = cutOrTurn(random, s, wrong/10)
		want, wantE := readByWords(s)
		files, e := Read(s)
		if e != wantE || !slices.Equal(files, want) {
			t.Fatalf("Read(%x): %.200v, %d, not %.200v, %d", s, fmt.Sprint(files), e, fmt.Sprint(want), wantE)
		}
		told[e]++
		if e == api.OK {
			oneArchive(t, s, files)
		}
	}
	for _, e := range []api.Errno{api.OK, api.ErrBig, api.ErrText, api.ErrForm, api.ErrSum, api.ErrEnd, api.ErrKind} {
		if told[e] < 30 {
			t.Errorf("error %d came %d times only", e, told[e])
		}
	}
}

// oneArchive holds an archive that Read took against Write of what it says: the same, if all files are stored.
func oneArchive(t *testing.T, s string, files []api.File) {
	t.Helper()
	again, e := Write(files)
	if e != api.OK {
		t.Fatalf("Write: %d", e)
	}
	deflated := 0
	for i := range files {
		// The files' heads stand at the end, the last one last.
		if method := s[methodOf(s, files, i)]; method == 8 {
			deflated++
		}
	}
	if (again == s) != (deflated == 0) {
		t.Fatalf("%d deflated: Write: %x, not %x", deflated, again, s)
	}
	if back, e := Read(again); e != api.OK || !slices.Equal(back, files) {
		t.Fatalf("Read of Write: %v, %d", back, e)
	}
}

// methodOf: where the central head of a file says its method.
func methodOf(s string, files []api.File, i int) int {
	at := len(s) - 22
	for _, f := range files[i:] {
		at -= centralSize + len(f.Path)
	}
	return at + inCentral + methodAt
}

// P23.3: of all archives that are unlike Write's in one byte, or in one byte of both heads, none is taken that says the same files stored.
func TestOneArchive(t *testing.T) {
	files := []api.File{{Path: "a", Data: "hi"}, {Path: "b/c"}, {Path: "d", Data: "\x03\x00"}}
	s, _ := Write(files)
	for at := range len(s) {
		for c := range 256 {
			if turned := put(s, at, raw(byte(c))); turned != s {
				if l, e := Read(turned); e == api.OK {
					t.Errorf("byte %d as %d: %v", at, c, l)
				}
			}
		}
	}
	place, head := 0, len(s)-22
	for _, f := range files {
		head -= centralSize + len(f.Path)
	}
	for _, f := range files {
		for k := range factsSize + len(f.Path) {
			inHead := head + inCentral + k
			if k >= factsSize {
				inHead = head + centralSize + k - factsSize
			}
			for c := range 256 {
				turned := put(put(s, place+inLocal+k, raw(byte(c))), inHead, raw(byte(c)))
				if l, e := Read(turned); e == api.OK {
					oneArchive(t, turned, l)
				}
			}
		}
		place += localSize + len(f.Path) + len(f.Data)
		head += centralSize + len(f.Path)
	}
}

// P23.2: no bytes, however they begin, bring a call to a panic.
func TestReadNoise(t *testing.T) {
	random := rand.New(rand.NewSource(7))
	for range 20000 {
		b := make([]byte, random.Intn(300))
		random.Read(b)
		s := string(b)
		if random.Intn(2) == 0 {
			cut := random.Intn(len(s) + 1)
			s = joined(s[:cut], s[cut:], random.Intn(5))
		}
		want, wantE := readByWords(s)
		if files, e := Read(s); e != wantE || !slices.Equal(files, want) {
			t.Fatalf("Read(%x): %v, %d, not %v, %d", s, files, e, want, wantE)
		}
	}
}
