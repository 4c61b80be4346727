package climb

import "aguador/api"

// asked is what a call is told beside the town. Of its places the first one is where a walk begins, and the base of stops.
type asked struct {
	donkey             bool
	places             []int
	skin               api.Skin
	gait               api.Gait
	walk, stops, links []int
}

// question is what must hold before a call answers, and the error if it does not.
type question struct {
	holds func(m chart, x asked) bool
	err   api.Errno
}

// What a town can be asked, in the order in which the chapter names the errors.
const (
	askTown = iota
	askPlaces
	askSkin
	askGait
	askWalk
	askStops
	askLinks
	askCount
)

func questions() [askCount]question {
	return [...]question{
		askTown:   {func(m chart, _ asked) bool { return valid(m.Town) }, api.ErrTown},
		askPlaces: {func(m chart, x asked) bool { return arePlaces(m.Town, x.places...) }, api.ErrPlace},
		askSkin:   {func(_ chart, x asked) bool { return validSkin(x.skin) }, api.ErrSkin},
		askGait:   {func(_ chart, x asked) bool { return validGait(x.gait) }, api.ErrGait},
		askWalk:   {func(m chart, x asked) bool { return m.isWalk(x.places[0], x.walk) }, api.ErrWalk},
		askStops:  {func(m chart, x asked) bool { return areStops(m.Town, x.places[0], x.stops) }, api.ErrStops},
		askLinks:  {func(m chart, x asked) bool { return areLinks(m.Town, x.links) }, api.ErrLinks},
	}
}

// begin returns the map at work, or the first error of the questions that a call asks; whether the town is valid is always asked first, because the other questions rely on it.
func begin(t api.Town, x asked, more ...int) (chart, api.Errno) {
	m := chart{Town: t, donkey: x.donkey}
	all := questions()
	if q := all[askTown]; !q.holds(m, x) {
		return chart{}, q.err
	}
	for _, i := range more {
		if q := all[i]; !q.holds(m, x) {
			return chart{}, q.err
		}
	}
	return m, api.OK
}
