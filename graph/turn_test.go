package graph

import (
	"math"
	"math/cmplx"
	"math/rand"
	"slices"
	"testing"
)

// goes holds Way against what the document asks.
func goes(t *testing.T, from, to complex128, want ...complex128) {
	t.Helper()
	if l := Way(from, to); !slices.Equal(l, want) {
		t.Errorf("Way(%v, %v): %v, not %v", from, to, l, want)
	}
}

// P18.2: the document's example, from and to alike, in one row, in one lane, both directions.
func TestWay(t *testing.T) {
	goes(t, 1+2i, 3i, 1+3i, 3i)
	goes(t, 0, 0)
	goes(t, 40+200i, 40+200i)
	goes(t, 5+7i, 5+7i)
	goes(t, 0, 3, 1, 2, 3)
	goes(t, 3, 0, 2, 1, 0)
	goes(t, 3+9i, 1+9i, 2+9i, 1+9i)
	goes(t, 2i, 5i, 3i, 4i, 5i)
	goes(t, 4, 4+1i, 4+1i)
	goes(t, 1+1i, 3+3i, 1+2i, 1+3i, 2+3i, 3+3i)
	goes(t, 3+1i, 1+3i, 3+2i, 3+3i, 2+3i, 1+3i)
	goes(t, 0, 1+1i, 1i, 1+1i)
	goes(t, 1, 1i, 1+1i, 1i)
}

// P18.2: all lanes with rows by chance, against the words; the longest ways.
func TestWayByWords(t *testing.T) {
	random := rand.New(rand.NewSource(2))
	holds := func(a, b, r, s int) {
		var want []complex128
		for row := r + 1; row <= s; row++ {
			want = append(want, complex(float64(a), float64(row)))
		}
		for lane := a + 1; lane <= b; lane++ {
			want = append(want, complex(float64(lane), float64(s)))
		}
		for lane := a - 1; lane >= b; lane-- {
			want = append(want, complex(float64(lane), float64(s)))
		}
		goes(t, complex(float64(a), float64(r)), complex(float64(b), float64(s)), want...)
	}
	for a := range 41 {
		for b := range 41 {
			r := random.Intn(201)
			holds(a, b, r, r)
			holds(a, b, r, r+random.Intn(201-r))
			holds(a, b, 0, 200)
			holds(a, b, 199, 200)
		}
	}
	for _, ends := range [][2]complex128{{0, 40 + 200i}, {40, 200i}} {
		if l := Way(ends[0], ends[1]); len(l) != MaxRows+MaxLanes || l[len(l)-1] != ends[1] || l[199] != ends[0]+200i {
			t.Errorf("Way%v: %d places", ends, len(l))
		}
	}
}

// odd are numbers that are no places.
func odd() []complex128 {
	var l []complex128
	for _, a := range []float64{0, 1, -1, 0.5, 1 << 20, 1e300, -1e300, math.MaxFloat64, math.SmallestNonzeroFloat64, math.Inf(1), math.Inf(-1), math.NaN(), math.Copysign(0, -1)} {
		for _, b := range []float64{0, 1, -1, 0.5, 1 << 40, 1e300, -1e300, math.Inf(1), math.Inf(-1), math.NaN()} {
			l = append(l, complex(a, b))
		}
	}
	return l
}

// P18.2: of other numbers it ends.
func TestWayEnds(t *testing.T) {
	for _, from := range odd() {
		for _, to := range odd() {
			Way(from, to)
		}
	}
	Way(5+9i, 2+3i)
}

// turnByWords: what a place becomes by the document's words, lane and row apart.
func turnByWords(z, about complex128, times int) complex128 {
	a, b := real(z)-real(about), imag(z)-imag(about)
	for times = (times%4 + 4) % 4; times > 0; times-- {
		a, b = -b, a
	}
	return complex(real(about)+a, imag(about)+b)
}

// P18.3: times below 0, 0, 1 to 4 and great ones.
func TestTurned(t *testing.T) {
	if l := Turned([]complex128{1}, 0, 1); !slices.Equal(l, []complex128{1i}) {
		t.Errorf("Turned: %v", l)
	}
	for times, want := range map[int]complex128{
		0: 3 + 5i, 1: -4 + 4i, 2: -3 - 3i, 3: 4 - 2i, 4: 3 + 5i, 5: -4 + 4i, 7: 4 - 2i, -1: 4 - 2i, -2: -3 - 3i, -3: -4 + 4i, -4: 3 + 5i, -5: 4 - 2i,
		1 << 40: 3 + 5i, 1<<40 + 1: -4 + 4i, math.MaxInt: 4 - 2i, math.MaxInt - 1: -3 - 3i, math.MinInt: 3 + 5i, math.MinInt + 1: -4 + 4i, math.MinInt + 3: 4 - 2i,
	} {
		if l := Turned([]complex128{3 + 5i, 1i}, 1i, times); !slices.Equal(l, []complex128{want, 1i}) {
			t.Errorf("Turned(.., i, %d): %v, not %v", times, l, want)
		}
	}
	for times := -5; times < 6; times++ {
		for _, l := range [][]complex128{nil, {}} {
			if l := Turned(l, 3i, times); len(l) != 0 {
				t.Errorf("Turned of none: %v", l)
			}
		}
	}
}

// P18.3: whole numbers by chance; four quarter turns change nothing, nor does turning to and fro.
func TestTurnedByChance(t *testing.T) {
	random := rand.New(rand.NewSource(3))
	whole := func() complex128 {
		const most = 1<<20 - 1
		return complex(float64(random.Intn(2*most+1)-most), float64(random.Intn(2*most+1)-most))
	}
	for range 2000 {
		about := whole()
		times := random.Intn(2000) - 1000
		var l, want []complex128
		for range random.Intn(5) {
			l = append(l, whole())
			want = append(want, turnByWords(l[len(l)-1], about, times))
		}
		if got := Turned(l, about, times); !slices.Equal(got, want) {
			t.Errorf("Turned(%v, %v, %d): %v, not %v", l, about, times, got, want)
		}
		if got := Turned(l, about, 4*times); !slices.Equal(got, l) {
			t.Errorf("Turned(%v, %v, %d): %v", l, about, 4*times, got)
		}
		if got := Turned(Turned(Turned(Turned(l, about, 1), about, 1), about, 1), about, 1); !slices.Equal(got, l) {
			t.Errorf("four turns of %v about %v: %v", l, about, got)
		}
		if got := Turned(Turned(l, about, times), about, -times); !slices.Equal(got, l) {
			t.Errorf("%v about %v, to and fro: %v", l, about, got)
		}
	}
}

// P18.3: of other numbers it ends, and answers as many.
func TestTurnedEnds(t *testing.T) {
	for _, about := range odd() {
		if l := Turned(odd(), about, 3); len(l) != len(odd()) {
			t.Errorf("Turned about %v: %d", about, len(l))
		}
	}
	if l := Turned([]complex128{1}, cmplx.NaN(), math.MaxInt); len(l) != 1 {
		t.Errorf("Turned: %v", l)
	}
}
