package mix

import (
	"slices"

	"aguador/api"
)

// outside is where a drop is that is in no vessel yet, or in none any more.
const outside = -1

// drops is how many each vessel holds, in the order of the vessels.
type drops [api.MaxVessels]int

// deed is what acts of a kind do: whether one can be done when vessels hold so much, and how many drops of a fountain it can move when From holds so many of it, and so many others.
type deed struct {
	can   func(m api.Mix, x api.Act, held drops) bool
	moves func(x api.Act, fountain, of, others int) api.Span
}

// deeds has what acts do, by their kinds.
func deeds() [api.ActRinse + 1]deed {
	return [...]deed{
		api.ActFill:  {canFill, fills},
		api.ActPour:  {canPour, takes},
		api.ActLose:  {canLose, takes},
		api.ActRinse: {canRinse, rinses},
	}
}

// index returns which one of the vessels it is, from 0 on: outside if it is none.
func index(m api.Mix, id int) int {
	at := slices.IndexFunc(m.Vessels, func(v api.Vessel) bool { return v.Id == id })
	if at < 0 {
		return outside
	}
	return at
}

// isThere reports whether From is a vessel that holds the drops of the act.
func isThere(m api.Mix, x api.Act, held drops) bool {
	from := index(m, x.From)
	return from != outside && within(span(1, held[from]), x.Drops)
}

// hasRoom reports whether To is a vessel that has room for the drops of the act.
func hasRoom(m api.Mix, x api.Act, held drops) bool {
	to := index(m, x.To)
	return to != outside && within(span(1, m.Vessels[to].Size-held[to]), x.Drops)
}

func canFill(m api.Mix, x api.Act, held drops) bool {
	return areFountains(m, x.From) && hasRoom(m, x, held)
}

func canPour(m api.Mix, x api.Act, held drops) bool {
	return x.From != x.To && isThere(m, x, held) && hasRoom(m, x, held)
}

func canLose(m api.Mix, x api.Act, held drops) bool { return x.To == 0 && isThere(m, x, held) }

func canRinse(m api.Mix, x api.Act, _ drops) bool {
	return x.To == 0 && x.Drops == 0 && areVessels(m, x.From)
}

func fills(x api.Act, fountain, _, _ int) api.Span {
	if x.From != fountain {
		return span(0, 0)
	}
	return span(x.Drops, x.Drops)
}

func takes(x api.Act, _, of, others int) api.Span {
	return span(max(0, x.Drops-others), min(x.Drops, of))
}

func rinses(_ api.Act, _, of, _ int) api.Span { return span(of, of) }

// canDo reports whether an act can be done when vessels hold so much.
func canDo(m api.Mix, x api.Act, held drops) bool {
	return within(span(api.ActFill, api.ActRinse), x.Kind) && deeds()[x.Kind].can(m, x, held)
}

// ends returns out of which vessel an act moves drops, and into which one.
func ends(m api.Mix, x api.Act) (from, to int) {
	if x.Kind == api.ActFill {
		return outside, index(m, x.To)
	}
	return index(m, x.From), index(m, x.To)
}

// moved returns what vessels hold after an act that moves so many of the drops.
func moved(m api.Mix, x api.Act, held drops, n int) drops {
	from, to := ends(m, x)
	if from != outside {
		held[from] -= n
	}
	if to != outside {
		held[to] += n
	}
	return held
}

// follow returns what vessels hold before all acts, and after each one, up to the first one that cannot be done.
func follow(m api.Mix) []drops {
	held := drops{}
	l := []drops{held}
	for _, x := range m.Acts {
		if !canDo(m, x, held) {
			break
		}
		n := x.Drops
		if x.Kind == api.ActRinse {
			n = held[index(m, x.From)]
		}
		held = moved(m, x, held, n)
		l = append(l, held)
	}
	return l
}
