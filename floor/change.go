package floor

import (
	"slices"

	"aguador/api"
)

// copied returns floors that share no memory with others.
func copied(f api.Floors) api.Floors {
	f.Ids, f.Quarrels, f.Paid = slices.Clone(f.Ids), slices.Clone(f.Quarrels), slices.Clone(f.Paid)
	f.Bills = slices.Clone(f.Bills)
	for i := range f.Bills {
		f.Bills[i].Stakes = slices.Clone(f.Bills[i].Stakes)
	}
	return f
}

// put returns a list with a thing more, before all that is behind it.
func put[T any](l []T, x T, isBehind func(y T) bool) []T {
	at := slices.IndexFunc(l, isBehind)
	if at < 0 {
		at = len(l)
	}
	return slices.Insert(slices.Clone(l), at, x)
}

// checked returns floors that were changed, or an error if they are not valid any more.
func checked(f api.Floors, e api.Errno) (api.Floors, api.Errno) {
	if !valid(f) {
		return api.Floors{}, e
	}
	return f, api.OK
}
