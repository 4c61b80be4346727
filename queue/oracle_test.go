package queue_test

import (
	"slices"

	"aguador/api"
)

// fact is one truth: who fills when, in order.
type fact []api.Turn

func (f fact) order() (l []int) {
	for _, x := range f {
		l = append(l, x.Comer)
	}
	return l
}

// at is which one in the order a comer is, from 0 on.
func (f fact) at(id int) int {
	return slices.IndexFunc(f, func(x api.Turn) bool { return x.Comer == id })
}

// longest is the longest time that any comer waits.
func (f fact) longest(d api.Dawn) (n int) {
	for _, c := range d.Comers {
		n = max(n, f[f.at(c.Id)].Begin-c.Come)
	}
	return n
}

// done is how many have ended by a minute.
func (f fact) done(minute int) (n int) {
	for _, x := range f {
		if x.End <= minute {
			n++
		}
	}
	return n
}

// guildAhead is the guild whose turn it is, of those of the least rank of which somebody waits.
func guildAhead(d api.Dawn, waiting []api.Comer, filled fact) int {
	least := api.MaxGuilds
	for _, c := range waiting {
		least = min(least, d.Ranks[c.Guild-1])
	}
	best, earliest := 0, 0
	for guild := len(d.Ranks); guild > 0; guild-- {
		if d.Ranks[guild-1] != least || !slices.ContainsFunc(waiting, func(c api.Comer) bool { return c.Guild == guild }) {
			continue
		}
		last := -1
		for _, x := range filled {
			if isOf(d, x.Comer, guild) {
				last = x.Begin
			}
		}
		if best == 0 || last <= earliest {
			best, earliest = guild, last
		}
	}
	return best
}

func isOf(d api.Dawn, id, guild int) bool {
	return slices.ContainsFunc(d.Comers, func(c api.Comer) bool { return c.Id == id && c.Guild == guild })
}

// served goes through the minutes, one by one.
func served(d api.Dawn, minutes []int) fact {
	var f fact
	for minute := d.Open; len(f) < len(d.Comers); minute++ {
		if len(f) > 0 && minute < f[len(f)-1].End {
			continue
		}
		var waiting []api.Comer
		for _, c := range d.Comers {
			if c.Come <= minute && f.at(c.Id) < 0 {
				waiting = append(waiting, c)
			}
		}
		if len(waiting) == 0 {
			continue
		}
		guild := guildAhead(d, waiting, f)
		next := api.Comer{Come: api.MaxMinute + 1}
		for _, c := range waiting {
			if c.Guild == guild && c.Come < next.Come {
				next = c
			}
		}
		f = append(f, api.Turn{Comer: next.Id, Begin: minute, End: minute + minutes[slices.Index(d.Comers, next)]})
	}
	return f
}

// isNoted reports whether all notes are true.
func (f fact) isNoted(d api.Dawn) bool {
	for _, x := range d.Notes {
		begin := f[f.at(x.Comer)].Begin
		if begin < x.At.Lo || begin > x.At.Hi {
			return false
		}
	}
	return true
}

// facts lists all truths, one by one.
func facts(d api.Dawn) []fact {
	var all []fact
	var fill func(minutes []int)
	fill = func(minutes []int) {
		i := len(minutes)
		if i == len(d.Comers) {
			if f := served(d, minutes); f.isNoted(d) {
				all = append(all, f)
			}
			return
		}
		for n := d.Comers[i].Skins * d.Fill.Lo; n <= d.Comers[i].Skins*d.Fill.Hi; n++ {
			fill(append(slices.Clone(minutes), n))
		}
	}
	fill(nil)
	return all
}

// ordersOf is the orders of some truths, each once, in order.
func ordersOf(all []fact) (l [][]int) {
	for _, f := range all {
		l = append(l, f.order())
	}
	slices.SortFunc(l, slices.Compare[[]int])
	return slices.CompactFunc(l, slices.Equal[[]int])
}

// spanOf is the span of what truths, of which there is one at least, tell.
func spanOf(all []fact, tells func(f fact) int) api.Span {
	x := span(tells(all[0]), tells(all[0]))
	for _, f := range all {
		x = span(min(x.Lo, tells(f)), max(x.Hi, tells(f)))
	}
	return x
}

// knownOf is what is known of something in truths, of which there is one at least.
func knownOf(all []fact, is func(f fact) bool) uint8 {
	many := 0
	for _, f := range all {
		if is(f) {
			many++
		}
	}
	switch many {
	case 0:
		return api.KnownNo
	case len(all):
		return api.KnownYes
	}
	return api.KnownOpen
}

// less returns the dawn without the notes of which the bit is set.
func less(d api.Dawn, bits int) (api.Dawn, []int) {
	var kept []api.Begun
	var numbers []int
	for i, x := range d.Notes {
		if bits>>i&1 == 0 {
			kept = append(kept, x)
		} else {
			numbers = append(numbers, x.Number)
		}
	}
	d.Notes = kept
	return d, numbers
}

// falseOnes is what Wrong has to return, by all lists of notes.
func falseOnes(d api.Dawn) ([]int, api.Errno) {
	bare, _ := less(d, 1<<len(d.Notes)-1)
	all := facts(bare)
	var best []int
	found := false
	for bits := range 1 << len(d.Notes) {
		rest, l := less(d, bits)
		if found && (len(l) > len(best) || len(l) == len(best) && slices.Compare(l, best) > 0) {
			continue
		}
		if slices.ContainsFunc(all, func(f fact) bool { return f.isNoted(rest) }) {
			best, found = l, true
		}
	}
	if len(best) > api.MaxStruck {
		return nil, api.ErrMany
	}
	return best, api.OK
}

// dice is a row of numbers that looks thrown, the same in each run.
type dice struct{ state uint64 }

// upTo returns a number from lo to hi.
func (d *dice) upTo(lo, hi int) int {
	d.state = d.state*6364136223846793005 + 1442695040888963407
	return lo + int(d.state>>33)%(hi-lo+1)
}

func (d *dice) span(lo, hi int) api.Span {
	a, b := d.upTo(lo, hi), d.upTo(lo, hi)
	return span(min(a, b), max(a, b))
}

// note is mostly near to when some comer begins.
func (d *dice) note(x api.Dawn, number int) api.Begun {
	c := x.Comers[d.upTo(0, len(x.Comers)-1)]
	lo := max(x.Open, c.Come) + d.upTo(-4, 7)
	return note(number, c.Id, max(0, lo), max(0, lo)+d.upTo(0, 8))
}

// dawn is a small one, so that all its truths can be listed.
func (d *dice) dawn(comers, notes int) api.Dawn {
	x := api.Dawn{Open: d.upTo(0, 4), Fill: span(d.upTo(1, 2), d.upTo(2, 4))}
	for range d.upTo(2, 5) {
		x.Ranks = append(x.Ranks, d.upTo(1, 4))
	}
	for i := range max(d.upTo(0, comers), d.upTo(0, comers)) {
		x.Comers = append(x.Comers, comer(4*i+d.upTo(1, 4), d.upTo(1, len(x.Ranks)), d.upTo(0, 10), 1+d.upTo(0, 4)/4))
	}
	for i := range d.upTo(0, notes) {
		if len(x.Comers) > 0 {
			x.Notes = append(x.Notes, d.note(x, 3*i+d.upTo(1, 3)))
		}
	}
	return x
}
