package warden

import (
	"slices"

	"aguador/api"
)

// yes is how a file, and a line, tells that something is so; it tells no by 0.
const yes = 1

// The words of the rows of a file, in their order.
const (
	wordTown   = "town"
	wordDawn   = "dawn"
	wordMix    = "mix"
	wordRounds = "rounds"
	wordTally  = "tally"
	wordRates  = "rates"
	wordFloors = "floors"
	wordSupply = "supply"
	wordBell   = "bell"
	wordGuards = "guards"
	wordOrders = "orders"
	rowCount   = 11
)

// file returns that of a post.
func file(p api.Post) string {
	return rows(
		written(wordTown, ofTown(p.Town)...),
		written(wordDawn, ofDawn(p.Dawn)...),
		written(wordMix, ofMix(p.Mix)...),
		written(wordRounds, ofRounds(p.Rounds)...),
		written(wordTally, slices.Concat([]int{p.Tally.Id, p.Tally.House}, ofInts(p.Tally.Stock), ofInts(p.Tally.Foil))...),
		written(wordRates, p.Rates.Skin, p.Rates.Half, p.Rates.Barrel, p.Rates.Paid),
		written(wordFloors, ofFloors(p.Floors)...),
		written(wordSupply, ofSupply(p.Supply)...),
		written(wordBell, ofBell(p.Bell)...),
		written(wordGuards, ofList(p.Guards, func(x api.Guard) []int { return []int{x.Vessel, x.Fountain} })...),
		written(wordOrders, ofList(p.Orders, func(x api.Order) []int { return []int{x.Number, x.Kind, x.A, x.B} })...),
	)
}

// ofList returns how many things there are, and the numbers of each one.
func ofList[T any](l []T, of func(x T) []int) []int {
	n := []int{len(l)}
	for _, x := range l {
		n = append(n, of(x)...)
	}
	return n
}

func ofInts(l []int) []int { return ofList(l, func(n int) []int { return []int{n} }) }

func ofBool(is bool) int {
	if is {
		return yes
	}
	return 0
}

func ofTown(t api.Town) []int {
	links := ofList(t.Links, func(x api.Link) []int { return []int{x.Id, x.From, x.To, x.Steps, x.Paces} })
	return slices.Concat(ofInts(t.Places), links)
}

func ofDawn(d api.Dawn) []int {
	return slices.Concat(
		[]int{d.Open, d.Fill.Lo, d.Fill.Hi},
		ofInts(d.Ranks),
		ofList(d.Comers, func(x api.Comer) []int { return []int{x.Id, x.Guild, x.Come, x.Skins} }),
		ofList(d.Notes, func(x api.Begun) []int { return []int{x.Number, x.Comer, x.At.Lo, x.At.Hi} }),
	)
}

func ofMix(m api.Mix) []int {
	return slices.Concat(
		[]int{m.Fountains},
		ofList(m.Vessels, func(x api.Vessel) []int { return []int{x.Id, x.Size} }),
		ofList(m.Acts, func(x api.Act) []int { return []int{x.Kind, x.From, x.To, x.Drops} }),
		ofList(m.Tastes, func(x api.Taste) []int {
			return []int{x.Number, x.Vessel, x.After, x.Fountain, x.Drops.Lo, x.Drops.Hi}
		}),
	)
}

func ofRounds(r api.Rounds) []int {
	return slices.Concat(
		[]int{r.From, r.Days, r.Pints},
		ofList(r.Homes, func(x api.Home) []int {
			return slices.Concat([]int{x.Id, x.Place, ofBool(x.Pays)}, ofJar(x.Jar))
		}),
		ofList(r.Carriers, func(x api.Carrier) []int {
			return slices.Concat([]int{x.Id, x.Base, ofBool(x.Donkey), x.Skins}, ofInts(x.Homes))
		}),
	)
}

func ofJar(j api.Jar) []int {
	return slices.Concat(
		[]int{j.Full, j.Days, j.Start.Lo, j.Start.Hi, j.Use.Lo, j.Use.Hi, j.Week.Lo, j.Week.Hi, int(j.May)},
		ofList(j.Sights, func(x api.Sight) []int { return []int{x.Id, x.Day, x.Pints.Lo, x.Pints.Hi} }),
		ofList(j.Brings, func(x api.Bring) []int { return []int{x.Day, x.Pints} }),
	)
}

func ofFloors(f api.Floors) []int {
	return slices.Concat(
		ofInts(f.Ids),
		ofList(f.Quarrels, func(x api.Quarrel) []int { return []int{x.A, x.B} }),
		ofList(f.Bills, func(x api.Bill) []int {
			stakes := ofList(x.Stakes, func(y api.Stake) []int { return []int{y.Floor, y.Parts} })
			return slices.Concat([]int{x.Number, x.Payer, x.Pence}, stakes)
		}),
		ofList(f.Paid, func(x api.Payment) []int { return []int{x.From, x.To, x.Pence} }),
	)
}

func ofSupply(s api.Supply) []int {
	return slices.Concat(
		ofList(s.Founts, func(x api.Fount) []int { return slices.Concat([]int{x.Id}, ofSpring(x.Spring)) }),
		ofList(s.Streets, func(x api.Street) []int {
			return slices.Concat([]int{x.Id, x.Need.Lo, x.Need.Hi, x.Least}, ofInts(x.Draws))
		}),
	)
}

func ofSpring(s api.Spring) []int {
	return slices.Concat(
		[]int{s.Weeks, s.Most, s.Fall, s.Song.Lo, s.Song.Hi, s.Winter.Lo, s.Winter.Hi},
		ofList(s.Book, func(x api.Line) []int {
			return []int{x.Rain.Lo, x.Rain.Hi, x.Week, x.Gives.Lo, x.Gives.Hi}
		}),
		ofList(s.Readings, func(x api.Reading) []int {
			return []int{x.Number, x.Week, x.Bucket, x.Songs.Lo, x.Songs.Hi}
		}),
	)
}

func ofBell(b api.Bell) []int {
	return slices.Concat(
		[]int{b.Gait.Pace.Lo, b.Gait.Pace.Hi, b.Gait.Step.Lo, b.Gait.Step.Hi, b.Place},
		ofList(b.Wells, func(x api.Well) []int { return []int{x.Id, x.Place, x.Every} }),
		ofList(b.Porters, func(x api.Porter) []int { return []int{x.Id, x.At, ofBool(x.Full)} }),
		ofList(b.Claims, func(x api.Claim) []int { return []int{x.Number, x.Porter, x.Minute} }),
	)
}
