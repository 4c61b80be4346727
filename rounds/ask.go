package rounds

import "aguador/api"

// asked is what a call is told beside the rounds: Ids of homes and carriers, homes of a route, a plan, and days on which a home is served.
type asked struct {
	homes, carriers []int
	route           []int
	plan            [][]int
	days            []int
}

// question is what must hold before a call answers, and the error if it does not.
type question struct {
	holds func(g guild, x asked) bool
	err   api.Errno
}

// What rounds can be asked, in the order in which the chapter names the errors.
const (
	askRounds = iota
	askHomes
	askCarriers
	askRoute
	askPlan
	askCustom
	askDays
	askTruth
	askTruths
	askMoreHomes
	askMoreCarriers
	askCount
)

func questions() [askCount]question {
	return [...]question{
		askRounds:       {func(g guild, _ asked) bool { return valid(g.Rounds) }, api.ErrRounds},
		askHomes:        {func(g guild, x asked) bool { return areHomes(g.Rounds, x.homes...) }, api.ErrNone},
		askCarriers:     {func(g guild, x asked) bool { return areCarriers(g.Rounds, x.carriers...) }, api.ErrNone},
		askRoute:        {func(g guild, x asked) bool { return isRising(x.route) && areHomes(g.Rounds, x.route...) }, api.ErrRoute},
		askPlan:         {func(g guild, x asked) bool { return isPlan(g.Rounds, x.plan) }, api.ErrPlan},
		askCustom:       {func(g guild, x asked) bool { return g.allows(x.plan) }, api.ErrPlan},
		askDays:         {func(g guild, x asked) bool { return isRising(x.days) && areDays(g.Rounds, x.days...) }, api.ErrPlan},
		askTruth:        {func(g guild, x asked) bool { return areTrue(g.homesOf(x.homes...)...) }, api.ErrBad},
		askTruths:       {func(g guild, _ asked) bool { return areTrue(g.Homes...) }, api.ErrBad},
		askMoreHomes:    {func(g guild, _ asked) bool { return len(g.Homes) < api.MaxHomes }, api.ErrFull},
		askMoreCarriers: {func(g guild, _ asked) bool { return len(g.Carriers) < api.MaxCarriers }, api.ErrFull},
	}
}

// begin returns the guild at work, or the first error of the questions that a call asks; whether the rounds are valid is always asked first, because the other questions rely on it.
func begin(r api.Rounds, x asked, more ...int) (guild, api.Errno) {
	g := guild{r, map[trip]route{}}
	all := questions()
	if q := all[askRounds]; !q.holds(g, x) {
		return guild{}, q.err
	}
	for _, i := range more {
		if q := all[i]; !q.holds(g, x) {
			return guild{}, q.err
		}
	}
	return g, api.OK
}
