package fire

import (
	"slices"

	"aguador/api"
)

// copied returns a bell that shares no memory with another one.
func copied(b api.Bell) api.Bell {
	b.Town.Places, b.Town.Links = slices.Clone(b.Town.Places), slices.Clone(b.Town.Links)
	b.Wells, b.Porters, b.Claims = slices.Clone(b.Wells), slices.Clone(b.Porters), slices.Clone(b.Claims)
	return b
}

// put returns a list with a thing more, before all that are behind it.
func put[T any](l []T, x T, isBehind func(y T) bool) []T {
	at := slices.IndexFunc(l, isBehind)
	if at < 0 {
		at = len(l)
	}
	return slices.Insert(slices.Clone(l), at, x)
}

// checked returns a bell that was changed, in memory of its own, or an error if it is not valid any more.
func checked(b api.Bell, e api.Errno) (api.Bell, api.Errno) {
	if !valid(b) {
		return api.Bell{}, e
	}
	return copied(b), api.OK
}
