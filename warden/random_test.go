package warden_test

import (
	"slices"

	"aguador/api"
	"aguador/mix"
)

// What is made here has small numbers, and few things with few Ids, so that it has often to do with each other.

func (r *dice) town() (t api.Town) {
	for id := range r.upTo(2, 4) {
		t.Places = append(t.Places, id+1)
	}
	for id := range r.upTo(0, 6) {
		from := r.one(t.Places)
		to := r.one(t.Places)
		if from != to {
			t.Links = append(t.Links, api.Link{Id: id + 1, From: from, To: to, Steps: r.one(ints(0, 0, 9)), Paces: r.upTo(1, 20)})
		}
	}
	return t
}

func (r *dice) dawn() api.Dawn {
	d := api.Dawn{Open: r.upTo(0, 3), Fill: r.span(1, 3)}
	for range r.upTo(1, 3) {
		d.Ranks = append(d.Ranks, r.upTo(1, 2))
	}
	ids := r.some(1, 2, 3, 4)
	for _, id := range ids {
		d.Comers = append(d.Comers, api.Comer{Id: id, Guild: r.upTo(1, len(d.Ranks)), Come: r.upTo(0, 6), Skins: r.upTo(1, 2)})
	}
	for _, n := range r.some(1, 5) {
		if len(ids) > 0 && r.oneIn(2) {
			d.Notes = append(d.Notes, api.Begun{Number: n, Comer: r.one(ids), At: r.span(0, 12)})
		}
	}
	return d
}

// act is one with vessels, or none.
func (r *dice) act() api.Act {
	x := api.Act{Kind: r.one(ints(1, 1, 2, 2, 3, 4)), From: r.upTo(1, 3), To: r.upTo(1, 3), Drops: r.upTo(1, 3)}
	if x.Kind > api.ActPour {
		x.To = 0
	}
	if x.Kind == api.ActRinse {
		x.Drops = 0
	}
	return x
}

// mix has as many acts as can be done of some.
func (r *dice) mix() api.Mix {
	m := api.Mix{Fountains: r.upTo(1, 3)}
	for _, id := range ints(1, 2, 3)[r.one(ints(0, 0, 0, 1, 2, 3)):] {
		m.Vessels = append(m.Vessels, api.Vessel{Id: id, Size: r.upTo(3, 8)})
	}
	for range r.upTo(0, 20) {
		if next, e := mix.Do(m, r.act()); e == api.OK {
			m = next
		}
	}
	for _, n := range r.some(2, 3) {
		x := api.Taste{Number: n, Vessel: r.upTo(1, 3), After: r.upTo(0, 4), Fountain: r.upTo(1, 3), Drops: r.span(0, 4)}
		if next, e := mix.Put(m, x); e == api.OK && r.oneIn(2) {
			m = next
		}
	}
	return m
}

func (r *dice) home(id int, t api.Town, from, days int) api.Home {
	full := r.upTo(4, 9)
	j := api.Jar{Full: full, Days: from + days + r.upTo(0, 1), Start: r.span(0, full), Use: r.span(0, 3), Week: span(0, r.upTo(8, 35)), May: uint8(r.upTo(0, 1))}
	if from > 0 && r.oneIn(2) {
		j.Sights = []api.Sight{{Id: r.upTo(1, 3), Day: r.upTo(0, from-1), Pints: r.span(0, full)}}
	}
	if r.oneIn(2) {
		j.Brings = []api.Bring{{Day: r.upTo(0, from), Pints: r.upTo(1, 4)}}
	}
	return api.Home{Id: id, Place: r.one(t.Places), Pays: r.oneIn(2), Jar: j}
}

func (r *dice) rounds(t api.Town) api.Rounds {
	x := api.Rounds{Town: t, From: r.upTo(0, 2), Days: r.upTo(1, 2), Pints: r.upTo(1, 3)}
	ids := r.some(1, 2, 3)
	for _, id := range ids {
		x.Homes = append(x.Homes, r.home(id, t, x.From, x.Days))
	}
	for _, id := range r.some(1, 2, 3) {
		x.Carriers = append(x.Carriers, api.Carrier{Id: id, Base: r.one(t.Places), Donkey: r.oneIn(2), Skins: r.upTo(1, 4), Homes: r.some(ids...)})
	}
	return x
}

func (r *dice) notches() (l []int) {
	for range r.one(ints(0, 1, 2, 3, 3, 4, 12)) {
		l = append(l, r.upTo(1, 4))
	}
	return l
}

func (r *dice) bill(number int, ids []int) api.Bill {
	x := api.Bill{Number: number, Payer: r.one(ids), Pence: r.upTo(1, 100)}
	for _, id := range append(r.some(ids[1:]...), ids[0]) {
		x.Stakes = append(x.Stakes, api.Stake{Floor: id, Parts: r.upTo(1, 4)})
	}
	slices.SortFunc(x.Stakes, func(a, b api.Stake) int { return a.Floor - b.Floor })
	return x
}

func (r *dice) floors() api.Floors {
	f := api.Floors{Ids: r.some(1, 2, 3, 4)}
	for i, a := range f.Ids {
		for _, b := range f.Ids[i+1:] {
			if r.oneIn(4) {
				f.Quarrels = append(f.Quarrels, api.Quarrel{A: a, B: b})
			}
		}
	}
	for _, n := range r.some(1, 2, 3) {
		if len(f.Ids) > 0 {
			f.Bills = append(f.Bills, r.bill(n, f.Ids))
		}
	}
	for range r.upTo(0, 2) {
		if len(f.Ids) > 1 {
			f.Paid = append(f.Paid, api.Payment{From: f.Ids[0], To: f.Ids[1], Pence: r.upTo(1, 40)})
		}
	}
	return f
}

func (r *dice) spring() api.Spring {
	s := api.Spring{Weeks: r.upTo(1, 3), Most: r.upTo(5, 12), Fall: r.upTo(0, 4), Song: r.span(55, 70), Winter: r.span(0, 2)}
	if r.oneIn(2) {
		s.Book = []api.Line{{Rain: r.span(0, 2), Week: r.upTo(0, s.Weeks-1), Gives: r.span(2, 12)}}
	}
	if r.oneIn(3) {
		s.Readings = []api.Reading{{Number: r.upTo(1, 3), Week: r.upTo(0, s.Weeks-1), Bucket: 1, Songs: r.span(4, 20)}}
	}
	return s
}

func (r *dice) supply() (s api.Supply) {
	ids := append(r.some(1, 2), 3)
	for _, id := range ids {
		s.Founts = append(s.Founts, api.Fount{Id: id, Spring: r.spring()})
	}
	for _, id := range r.some(1, 2, 3) {
		need := r.span(0, 9)
		s.Streets = append(s.Streets, api.Street{Id: id, Need: need, Least: r.upTo(0, need.Lo), Draws: r.some(ids...)})
	}
	return s
}

func (r *dice) bell(t api.Town) api.Bell {
	b := api.Bell{Town: t, Gait: api.Gait{Pace: r.span(0, 20), Step: r.span(0, 5)}, Place: r.one(t.Places)}
	for _, id := range r.some(1, 2, 3) {
		b.Wells = append(b.Wells, api.Well{Id: id, Place: r.one(t.Places), Every: r.upTo(1, 4)})
	}
	ids := r.some(1, 2, 3, 4)
	for _, id := range ids {
		b.Porters = append(b.Porters, api.Porter{Id: id, At: r.one(t.Places), Full: r.oneIn(3)})
	}
	for _, n := range r.some(1, 2) {
		if len(ids) > 0 {
			b.Claims = append(b.Claims, api.Claim{Number: n, Porter: r.one(ids), Minute: r.upTo(0, 12)})
		}
	}
	return b
}

// order is of any kind, about something that there may be.
func (r *dice) order(number int) api.Order {
	kind := r.upTo(1, 8)
	a := []span2{{}, {1, 3}, {1, 4}, {1, 3}, {1, 3}, {0, 3}, {1, 4}, {0, 3}, {0, 4}}[kind]
	b := []span2{{}, {0, 14}, {0, 25}, {1, 3}, {0, 1}, {0, 1}, {0, 40}, {0, 1}, {0, 9}}[kind]
	return order(number, kind, r.upTo(a[0], a[1]), r.upTo(b[0], b[1]))
}

// span2 is the least and the greatest of some numbers.
type span2 [2]int

// post is a valid one.
func (r *dice) post() api.Post {
	t := r.town()
	p := api.Post{
		Town: t, Dawn: r.dawn(), Mix: r.mix(), Rounds: r.rounds(t),
		Tally:  api.Tally{Id: r.upTo(1, 9), House: r.upTo(1, 9), Stock: r.notches(), Foil: r.notches()},
		Rates:  api.Rates{Skin: r.upTo(0, 9), Half: r.upTo(0, 9), Barrel: r.upTo(0, 1000), Paid: r.upTo(0, 99)},
		Floors: r.floors(), Supply: r.supply(), Bell: r.bell(t),
	}
	for _, v := range p.Mix.Vessels {
		for _, f := range r.some(1, 2, 3) {
			if r.oneIn(2) && isSafe(p.Mix, guard(v.Id, f)) {
				p.Guards = append(p.Guards, guard(v.Id, f))
				break
			}
		}
	}
	for _, n := range r.some(1, 2, 3, 4, 5, 6, 7, 8) {
		p.Orders = append(p.Orders, r.order(n))
	}
	return copied(p)
}

// deed is a valid one, of any verb, about something that there may be.
func (r *dice) deed() api.Deed {
	verb := r.upTo(api.VerbRead, api.VerbAsk)
	d := deed(verb, r.args(verb)...)
	if len(d.Args) > 0 && r.oneIn(15) {
		d.Args[r.upTo(0, len(d.Args)-1)] = r.one(ints(0, 1, 5, 12, 13, 9999, 10000, 1000000, 1000001, 999999999))
	}
	if _, is := deedOf(lineOf(d)); !is {
		return r.deed()
	}
	return d
}

func (r *dice) args(verb int) []int {
	n := func(l ...span2) (all []int) {
		for _, x := range l {
			all = append(all, r.upTo(x[0], x[1]))
		}
		return all
	}
	ends := func(l []int, lo, hi int) []int {
		x := r.span(lo, hi)
		return append(l, x.Lo, x.Hi)
	}
	id, flag := span2{1, 4}, span2{0, 1}
	switch verb {
	case api.VerbRead:
		return ends(n(span2{1, 3}, id, span2{0, 2}, span2{1, 2}), 0, 30)
	case api.VerbNote:
		return ends(n(span2{1, 5}, id), 0, 20)
	case api.VerbCome:
		return n(span2{1, 7}, span2{1, 3}, span2{0, 9}, span2{1, 2})
	case api.VerbPour:
		from := r.upTo(1, 3)
		return ints(from, 1+(from+r.upTo(0, 1))%3, r.upTo(1, 2))
	case api.VerbTaste:
		return ends(n(id, span2{1, 3}, span2{0, 4}, span2{1, 3}), 0, 4)
	case api.VerbSee:
		return ends(n(span2{1, 3}, id, span2{0, 2}), 0, 5)
	case api.VerbHire:
		return append(n(id, span2{1, 4}, flag, span2{1, 4}), r.some(1, 2, 3)...)
	case api.VerbNotch:
		return n(span2{0, 5})
	case api.VerbBill:
		l := n(span2{1, 5}, id, span2{1, 100})
		for _, floor := range r.some(1, 2, 3, 4) {
			l = append(l, floor, r.upTo(1, 9))
		}
		return l
	case api.VerbPay:
		return n(id, id, span2{0, 60})
	case api.VerbNeed:
		return append(ends(n(span2{1, 3}), 0, 12), r.upTo(0, 3))
	case api.VerbClaim:
		return n(id, id, span2{0, 12})
	case api.VerbJoin:
		return n(span2{1, 7}, id, flag)
	case api.VerbOrder:
		x := r.order(r.upTo(1, 9))
		return ints(x.Number, x.Kind, x.A, x.B)
	case api.VerbDrop:
		return n(span2{1, 9})
	case api.VerbAsk:
		x := r.order(1)
		return ints(x.Kind, x.A, x.B)
	}
	// An act, someone's dismissal, a well, a link, a guard: Ids, and drops.
	l := n(span2{1, 3}, span2{1, 3}, span2{1, 4})
	return l[:map[int]int{api.VerbLose: 2, api.VerbRinse: 1, api.VerbDismiss: 1, api.VerbStop: 1, api.VerbClose: 1, api.VerbGuard: 2, api.VerbFill: 3}[verb]]
}

// someDeeds is so many, or fewer.
func (r *dice) someDeeds(most int) (l []api.Deed) {
	for range r.upTo(0, most) {
		l = append(l, r.deed())
	}
	return l
}
