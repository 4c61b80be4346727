package book

import "aguador/api"

func springRecord(x api.Spring) string {
	s := written(api.OfSpring, x.Weeks, x.Most, x.Fall, x.Song.Lo, x.Song.Hi, x.Winter.Lo, x.Winter.Hi, len(x.Book))
	for _, l := range x.Book {
		s += written(l.Rain.Lo, l.Rain.Hi, l.Week, l.Gives.Lo, l.Gives.Hi)
	}
	s += written(len(x.Readings))
	for _, r := range x.Readings {
		s += written(r.Number, r.Week, r.Bucket, r.Songs.Lo, r.Songs.Hi)
	}
	return s
}

func townRecord(x api.Town) string {
	s := written(api.OfTown, len(x.Places)) + written(x.Places...) + written(len(x.Links))
	for _, l := range x.Links {
		s += written(l.Id, l.From, l.To, l.Steps, l.Paces)
	}
	return s
}

func jarRecord(x api.Jar) string {
	s := written(api.OfJar, x.Full, x.Days, x.Start.Lo, x.Start.Hi, x.Use.Lo, x.Use.Hi, x.Week.Lo, x.Week.Hi, int(x.May), len(x.Sights))
	for _, z := range x.Sights {
		s += written(z.Id, z.Day, z.Pints.Lo, z.Pints.Hi)
	}
	s += written(len(x.Brings))
	for _, b := range x.Brings {
		s += written(b.Day, b.Pints)
	}
	return s
}

func tallyRecord(x api.Tally) string {
	return written(api.OfTally, x.Id, x.House, len(x.Stock)) + written(x.Stock...) + written(len(x.Foil)) + written(x.Foil...)
}

// fromRecord returns the one thing of a kind whose record it is. What is told of the numbers behind the kind need not be valid, nor be all that they tell: it must come to this record.
func fromRecord[T any](s string, record func(x T) (string, api.Errno), tell func(next func() int) T) (T, api.Errno) {
	if _, e := Numbers(s); e != api.OK {
		var none T
		return none, e
	}
	return readBack(s, api.ErrRecord, record, func(r *reader) T {
		r.next()
		return tell(r.next)
	})
}

func toSpring(next func() int) api.Spring {
	span := func() api.Span { return api.Span{Lo: next(), Hi: next()} }
	line := func() api.Line { return api.Line{Rain: span(), Week: next(), Gives: span()} }
	reading := func() api.Reading {
		return api.Reading{Number: next(), Week: next(), Bucket: next(), Songs: span()}
	}
	return api.Spring{
		Weeks: next(), Most: next(), Fall: next(),
		Song: span(), Winter: span(),
		Book: list(next, line), Readings: list(next, reading),
	}
}

func toTown(next func() int) api.Town {
	link := func() api.Link {
		return api.Link{Id: next(), From: next(), To: next(), Steps: next(), Paces: next()}
	}
	return api.Town{Places: list(next, next), Links: list(next, link)}
}

func toJar(next func() int) api.Jar {
	span := func() api.Span { return api.Span{Lo: next(), Hi: next()} }
	sight := func() api.Sight { return api.Sight{Id: next(), Day: next(), Pints: span()} }
	bring := func() api.Bring { return api.Bring{Day: next(), Pints: next()} }
	return api.Jar{
		Full: next(), Days: next(),
		Start: span(), Use: span(), Week: span(),
		May:    uint8(next()),
		Sights: list(next, sight), Brings: list(next, bring),
	}
}

func toTally(next func() int) api.Tally {
	return api.Tally{Id: next(), House: next(), Stock: list(next, next), Foil: list(next, next)}
}
