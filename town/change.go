package town

import (
	"slices"

	"aguador/api"
	"aguador/jar"
)

// copied returns a supply that shares no memory with another one.
func copied(s api.Supply) api.Supply {
	s.Founts, s.Streets = slices.Clone(s.Founts), slices.Clone(s.Streets)
	for i := range s.Founts {
		x := &s.Founts[i].Spring
		x.Book, x.Readings = slices.Clone(x.Book), slices.Clone(x.Readings)
	}
	for i := range s.Streets {
		s.Streets[i].Draws = slices.Clone(s.Streets[i].Draws)
	}
	return s
}

// put returns the streets with one more, before all with a greater Id.
func put(l []api.Street, x api.Street) []api.Street {
	at := slices.IndexFunc(l, func(y api.Street) bool { return y.Id > x.Id })
	if at < 0 {
		at = len(l)
	}
	return slices.Insert(slices.Clone(l), at, x)
}

// wants returns what jars want together on a day. Houses do not know of each other, so that all want least together, and most.
func wants(jars []api.Jar, day int) (api.Span, api.Errno) {
	var all api.Span
	for _, j := range jars {
		x, e := jar.Wants(j, day)
		if e != api.OK {
			return api.Span{}, e
		}
		all = span(all.Lo+x.Lo, all.Hi+x.Hi)
	}
	return all, api.OK
}
