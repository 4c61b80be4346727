package spring_test

import (
	"slices"

	"aguador/api"
)

// fact is one truth: a rain, and what the spring gives week by week.
type fact struct {
	rain  int
	gives []int
}

func (f fact) sum() int {
	sum := 0
	for _, pints := range f.gives {
		sum += pints
	}
	return sum
}

// isTrue is the definition of a true reading, without a division.
func isTrue(s api.Spring, x api.Reading, pints int) bool {
	return pints > 0 && 3600*x.Bucket >= pints*x.Songs.Lo*s.Song.Lo && 3600*x.Bucket <= pints*x.Songs.Hi*s.Song.Hi
}

// agrees reports whether the last week of what is given contradicts nothing.
func agrees(s api.Spring, rain int, gives []int) bool {
	week := len(gives) - 1
	pints := gives[week]
	if week > 0 && (pints > gives[week-1] || pints < gives[week-1]-s.Fall) {
		return false
	}
	for _, x := range s.Book {
		if x.Week == week && x.Rain.Lo <= rain && rain <= x.Rain.Hi && (pints < x.Gives.Lo || pints > x.Gives.Hi) {
			return false
		}
	}
	for _, x := range s.Readings {
		if x.Week == week && !isTrue(s, x, pints) {
			return false
		}
	}
	return true
}

// facts lists all truths, one by one, by their rains.
func facts(s api.Spring) []fact {
	var all []fact
	var gives []int
	var grow func(rain int)
	grow = func(rain int) {
		if len(gives) == s.Weeks {
			all = append(all, fact{rain, slices.Clone(gives)})
			return
		}
		for pints := 0; pints <= s.Most; pints++ {
			gives = append(gives, pints)
			if agrees(s, rain, gives) {
				grow(rain)
			}
			gives = gives[:len(gives)-1]
		}
	}
	for rain := s.Winter.Lo; rain <= s.Winter.Hi; rain++ {
		grow(rain)
	}
	return all
}

// spanOf is the span of what some truths, of which there is one at least, give in a week.
func spanOf(all []fact, week int) api.Span {
	x := span(all[0].gives[week], all[0].gives[week])
	for _, f := range all {
		x = span(min(x.Lo, f.gives[week]), max(x.Hi, f.gives[week]))
	}
	return x
}

// leftAfter is how much all spans leave together at most, once it is known what a week gives.
func leftAfter(s api.Spring, all []fact, week int) int {
	worst := 0
	for pints := 0; pints <= s.Most; pints++ {
		var some []fact
		for _, f := range all {
			if f.gives[week] == pints {
				some = append(some, f)
			}
		}
		sum := 0
		for w := 0; w < s.Weeks && len(some) > 0; w++ {
			sum += spanOf(some, w).Hi - spanOf(some, w).Lo
		}
		worst = max(worst, sum)
	}
	return worst
}

// less returns the spring without the readings of which the bit is set.
func less(s api.Spring, bits int) (api.Spring, []int) {
	var kept []api.Reading
	var numbers []int
	for i, x := range s.Readings {
		if bits>>i&1 == 0 {
			kept = append(kept, x)
		} else {
			numbers = append(numbers, x.Number)
		}
	}
	s.Readings = kept
	return s, numbers
}

// falseOnes is what Wrong has to return, by all lists of readings.
func falseOnes(s api.Spring) ([]int, api.Errno) {
	if bare, _ := less(s, 1<<len(s.Readings)-1); len(facts(bare)) == 0 {
		return nil, api.ErrNone
	}
	var best []int
	found := false
	for bits := 0; bits < 1<<len(s.Readings); bits++ {
		rest, l := less(s, bits)
		if found && (len(l) > len(best) || len(l) == len(best) && slices.Compare(l, best) > 0) {
			continue
		}
		if len(facts(rest)) > 0 {
			best, found = l, true
		}
	}
	if len(best) > api.MaxMore {
		return nil, api.ErrMany
	}
	return best, api.OK
}

// dice is a row of numbers that looks thrown, the same in each run.
type dice struct{ state uint64 }

// upTo returns a number from lo to hi.
func (d *dice) upTo(lo, hi int) int {
	d.state = d.state*6364136223846793005 + 1442695040888963407
	return lo + int(d.state>>33)%(hi-lo+1)
}

func (d *dice) span(lo, hi int) api.Span {
	a, b := d.upTo(lo, hi), d.upTo(lo, hi)
	return span(min(a, b), max(a, b))
}

func (d *dice) line(s api.Spring) api.Line {
	return api.Line{Rain: d.span(0, 4), Week: d.upTo(0, s.Weeks-1), Gives: d.span(0, s.Most+1)}
}

// reading is mostly near to what some giving would tell.
func (d *dice) reading(s api.Spring, number int) api.Reading {
	x := api.Reading{Number: number, Week: d.upTo(0, s.Weeks-1), Bucket: d.upTo(1, 2)}
	songs := 3600 * x.Bucket / (d.upTo(1, max(1, s.Most)) * s.Song.Lo)
	x.Songs.Lo = min(max(0, songs-d.upTo(0, 20)), 98)
	x.Songs.Hi = max(min(songs+d.upTo(0, 10), 99), x.Songs.Lo, 1)
	return x
}

// spring is a small one, so that all its truths can be listed.
func (d *dice) spring() api.Spring {
	s := api.Spring{Weeks: d.upTo(1, 4), Most: d.upTo(0, 6), Fall: d.upTo(0, 3), Winter: d.span(0, 4)}
	s.Song = span(d.upTo(100, 130), d.upTo(130, 160))
	for range d.upTo(0, 4) {
		s.Book = append(s.Book, d.line(s))
	}
	for i := range d.upTo(0, 4) {
		s.Readings = append(s.Readings, d.reading(s, 3*i+d.upTo(1, 3)))
	}
	return s
}
