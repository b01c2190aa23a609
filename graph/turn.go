package graph

const (
	down     = 1i
	right    = 1
	left     = -1
	quarter  = 1i
	quarters = 4
)

// Way: the places by which a line leads from a commit to a parent: down along its lane as far as it goes, and then
// sideways, a step at a time.
func Way(from, to complex128) []complex128 {
	var way []complex128
	// From what is no place, no step may ever lead to the other one.
	for at := from; at != to && len(way) < MaxRows+MaxLanes; {
		at += step(at, to)
		way = append(way, at)
	}
	return way
}

// step: the next one on the way.
func step(at, to complex128) complex128 {
	switch {
	case imag(at) < imag(to):
		return down
	case real(at) < real(to):
		return right
	}
	return left
}

// Turned: a picture's places, a quarter turned about a point so many times.
func Turned(l []complex128, about complex128, times int) []complex128 {
	turn := turns(times)
	var turned []complex128
	for _, z := range l {
		turned = append(turned, about+(z-about)*turn)
	}
	return turned
}

// turns: by what a place is multiplied, to be turned so many quarters.
func turns(times int) complex128 {
	turn := complex128(1)
	// The rest of a number below 0 is below 0 too.
	for range (times%quarters + quarters) % quarters {
		turn *= quarter
	}
	return turn
}
