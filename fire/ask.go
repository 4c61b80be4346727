package fire

import "aguador/api"

// asked is what a call is told beside the bell: Ids of a porter and of a well, a number of skins, wages, and numbers of claims.
type asked struct {
	porter, well int
	skins        int
	fee, first   int
	numbers      []int
}

// question is what must hold before a call answers, and the error if it does not.
type question struct {
	holds func(w watch, x asked) bool
	err   api.Errno
}

// What a bell can be asked, in the order in which the chapter names the errors.
const (
	askBell = iota
	askPorter
	askWell
	askSkins
	askWages
	askMoreClaims
	askNumbers
	askMorePorters
	askCount
)

func questions() [askCount]question {
	return [...]question{
		askBell:        {func(w watch, _ asked) bool { return valid(w.Bell) }, api.ErrBell},
		askPorter:      {func(w watch, x asked) bool { return porterAt(w.Bell, x.porter) >= 0 }, api.ErrNone},
		askWell:        {func(w watch, x asked) bool { return wellAt(w.Bell, x.well) >= 0 }, api.ErrNone},
		askSkins:       {func(_ watch, x asked) bool { return x.skins >= 1 }, api.ErrArg},
		askWages:       {func(_ watch, x asked) bool { return within(span(0, api.MaxPence), x.fee, x.first) }, api.ErrFee},
		askMoreClaims:  {func(w watch, _ asked) bool { return len(w.Claims) < api.MaxClaims }, api.ErrFull},
		askNumbers:     {func(w watch, x asked) bool { return isRising(x.numbers) && areClaims(w.Bell, x.numbers...) }, api.ErrClaim},
		askMorePorters: {func(w watch, _ asked) bool { return len(w.Porters) < api.MaxPorters }, api.ErrFull},
	}
}

// begin returns the watch, or the first error of the questions that a call asks; whether the bell is valid is always asked first, because the other questions rely on it.
func begin(b api.Bell, x asked, more ...int) (watch, api.Errno) {
	w := watch{b, map[ends]api.Span{}}
	all := questions()
	if q := all[askBell]; !q.holds(w, x) {
		return watch{}, q.err
	}
	for _, i := range more {
		if q := all[i]; !q.holds(w, x) {
			return watch{}, q.err
		}
	}
	return w, api.OK
}
