package packidx

import (
	"slices"
	"strings"

	"cartulary/api"
	"cartulary/pack"
	"cartulary/sha"
	"cartulary/sums"
)

// Build: the index of these rows; places from far on stand in the second table.
func Build(rows []Row, sum string, far int) (string, api.Errno) {
	if len(rows) > pack.MaxEntries {
		return "", api.ErrBig
	}
	rows = slices.Clone(rows)
	slices.SortFunc(rows, func(a, b Row) int { return strings.Compare(a.Id, b.Id) })
	if !inForm(rows) || !sums.Id(sum) {
		return "", api.ErrForm
	}
	var names, crcs strings.Builder
	for _, row := range rows {
		names.WriteString(raw(row.Id))
		crcs.WriteString(sums.Big(uint64(row.Crc), numberBytes))
	}
	places, distant := placesOf(rows, far)
	text := start + endsOf(rows) + names.String() + crcs.String() + places + distant + raw(sum)
	return text + sha.Sum1(text), api.OK
}

// inForm: are these rows, in the order of their texts, of names that stand there once, with places that may be?
func inForm(rows []Row) bool {
	for i, row := range rows {
		if !sums.Id(row.Id) || row.At < 0 || row.At > MaxPlace {
			return false
		}
		if i > 0 && row.Id == rows[i-1].Id {
			return false
		}
	}
	return true
}

// raw: the bytes of a name.
func raw(id string) string {
	name, _ := sums.Unhex(id)
	return name
}

// endsOf: for each first byte, of how many rows the name's first byte is at most that.
func endsOf(rows []Row) string {
	var ends strings.Builder
	n := 0
	for first := range counts {
		for n < len(rows) && int(raw(rows[n].Id)[0]) <= first {
			n++
		}
		ends.WriteString(sums.Big(uint64(n), numberBytes))
	}
	return ends.String()
}

// placesOf: the places, and the far ones.
func placesOf(rows []Row, far int) (places, distant string) {
	var near, beyond strings.Builder
	for _, row := range rows {
		place := row.At
		if place >= min(far, farFrom) {
			place = farFrom + beyond.Len()/farBytes
			beyond.WriteString(sums.Big(uint64(row.At), farBytes))
		}
		near.WriteString(sums.Big(uint64(place), numberBytes))
	}
	return near.String(), beyond.String()
}
