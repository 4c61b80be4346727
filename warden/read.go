package warden

import (
	"math"
	"strings"

	"aguador/api"
)

// parted returns the rows at the beginning of a summer, as many as a file has, and what is behind them.
func parted(s string) (begins, behind string) {
	at := 0
	for range rowCount {
		row, _, _ := strings.Cut(s[at:], "\n")
		at = min(at+len(row)+1, len(s))
	}
	return s[:at], s[at:]
}

// read returns the post of a file. What is told need not be valid, nor be all that stands there: it must come to this file.
func read(s string) api.Post {
	rest := s
	row := func(word string) teller {
		line, behind, ends := strings.Cut(rest, "\n")
		throwIf(!ends, api.ErrFile)
		is, numbers := told(line, math.MaxInt, api.ErrFile)
		throwIf(is != word, api.ErrFile)
		rest = behind
		return telling(numbers)
	}
	p := api.Post{
		Town:   toTown(row(wordTown)),
		Dawn:   toDawn(row(wordDawn)),
		Mix:    toMix(row(wordMix)),
		Rounds: toRounds(row(wordRounds)),
		Tally:  toTally(row(wordTally)),
		Rates:  toRates(row(wordRates)),
		Floors: toFloors(row(wordFloors)),
		Supply: toSupply(row(wordSupply)),
		Bell:   toBell(row(wordBell)),
		Guards: toGuards(row(wordGuards)),
		Orders: toOrders(row(wordOrders)),
	}
	p.Rounds.Town, p.Bell.Town = copiedTown(p.Town), copiedTown(p.Town)
	again, _ := Write(p)
	throwIf(again != s, api.ErrFile)
	return p
}

// teller tells the next number of a row.
type teller func() int

func telling(numbers []int) teller {
	return func() int {
		throwIf(len(numbers) == 0, api.ErrFile)
		n := numbers[0]
		numbers = numbers[1:]
		return n
	}
}

func (next teller) span() api.Span { return api.Span{Lo: next(), Hi: next()} }

// bool tells yes or no; a number that is neither does not come to this file again.
func (next teller) bool() bool { return next() == yes }

func (next teller) ints() []int { return toList(next, next) }

// toList returns as many things as the next number tells.
func toList[T any](next teller, one func() T) []T {
	var l []T
	for range next() {
		l = append(l, one())
	}
	return l
}

func toTown(next teller) api.Town {
	link := func() api.Link {
		return api.Link{Id: next(), From: next(), To: next(), Steps: next(), Paces: next()}
	}
	return api.Town{Places: next.ints(), Links: toList(next, link)}
}

func toDawn(next teller) api.Dawn {
	comer := func() api.Comer { return api.Comer{Id: next(), Guild: next(), Come: next(), Skins: next()} }
	note := func() api.Begun { return api.Begun{Number: next(), Comer: next(), At: next.span()} }
	return api.Dawn{
		Open: next(), Fill: next.span(), Ranks: next.ints(),
		Comers: toList(next, comer), Notes: toList(next, note),
	}
}

func toMix(next teller) api.Mix {
	vessel := func() api.Vessel { return api.Vessel{Id: next(), Size: next()} }
	act := func() api.Act { return api.Act{Kind: next(), From: next(), To: next(), Drops: next()} }
	taste := func() api.Taste {
		return api.Taste{Number: next(), Vessel: next(), After: next(), Fountain: next(), Drops: next.span()}
	}
	return api.Mix{
		Fountains: next(), Vessels: toList(next, vessel),
		Acts: toList(next, act), Tastes: toList(next, taste),
	}
}

// toRounds returns rounds without their town, which is told already.
func toRounds(next teller) api.Rounds {
	home := func() api.Home {
		return api.Home{Id: next(), Place: next(), Pays: next.bool(), Jar: toJar(next)}
	}
	carrier := func() api.Carrier {
		return api.Carrier{Id: next(), Base: next(), Donkey: next.bool(), Skins: next(), Homes: next.ints()}
	}
	return api.Rounds{
		From: next(), Days: next(), Pints: next(),
		Homes: toList(next, home), Carriers: toList(next, carrier),
	}
}

func toJar(next teller) api.Jar {
	sight := func() api.Sight { return api.Sight{Id: next(), Day: next(), Pints: next.span()} }
	bring := func() api.Bring { return api.Bring{Day: next(), Pints: next()} }
	return api.Jar{
		Full: next(), Days: next(),
		Start: next.span(), Use: next.span(), Week: next.span(),
		// A number that is too great for it does not come to this file again.
		May:    uint8(next()),
		Sights: toList(next, sight), Brings: toList(next, bring),
	}
}

func toTally(next teller) api.Tally {
	return api.Tally{Id: next(), House: next(), Stock: next.ints(), Foil: next.ints()}
}

func toRates(next teller) api.Rates {
	return api.Rates{Skin: next(), Half: next(), Barrel: next(), Paid: next()}
}

func toFloors(next teller) api.Floors {
	quarrel := func() api.Quarrel { return api.Quarrel{A: next(), B: next()} }
	stake := func() api.Stake { return api.Stake{Floor: next(), Parts: next()} }
	bill := func() api.Bill {
		return api.Bill{Number: next(), Payer: next(), Pence: next(), Stakes: toList(next, stake)}
	}
	payment := func() api.Payment { return api.Payment{From: next(), To: next(), Pence: next()} }
	return api.Floors{
		Ids: next.ints(), Quarrels: toList(next, quarrel),
		Bills: toList(next, bill), Paid: toList(next, payment),
	}
}

func toSupply(next teller) api.Supply {
	fount := func() api.Fount { return api.Fount{Id: next(), Spring: toSpring(next)} }
	street := func() api.Street {
		return api.Street{Id: next(), Need: next.span(), Least: next(), Draws: next.ints()}
	}
	return api.Supply{Founts: toList(next, fount), Streets: toList(next, street)}
}

func toSpring(next teller) api.Spring {
	line := func() api.Line { return api.Line{Rain: next.span(), Week: next(), Gives: next.span()} }
	reading := func() api.Reading {
		return api.Reading{Number: next(), Week: next(), Bucket: next(), Songs: next.span()}
	}
	return api.Spring{
		Weeks: next(), Most: next(), Fall: next(),
		Song: next.span(), Winter: next.span(),
		Book: toList(next, line), Readings: toList(next, reading),
	}
}

// toBell returns a bell without its town, which is told already.
func toBell(next teller) api.Bell {
	well := func() api.Well { return api.Well{Id: next(), Place: next(), Every: next()} }
	porter := func() api.Porter { return api.Porter{Id: next(), At: next(), Full: next.bool()} }
	claim := func() api.Claim { return api.Claim{Number: next(), Porter: next(), Minute: next()} }
	return api.Bell{
		Gait: api.Gait{Pace: next.span(), Step: next.span()}, Place: next(),
		Wells: toList(next, well), Porters: toList(next, porter), Claims: toList(next, claim),
	}
}

func toGuards(next teller) []api.Guard {
	return toList(next, func() api.Guard { return api.Guard{Vessel: next(), Fountain: next()} })
}

func toOrders(next teller) []api.Order {
	return toList(next, func() api.Order {
		return api.Order{Number: next(), Kind: next(), A: next(), B: next()}
	})
}
