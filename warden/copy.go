package warden

import (
	"slices"

	"aguador/api"
)

func copiedTown(t api.Town) api.Town {
	t.Places, t.Links = slices.Clone(t.Places), slices.Clone(t.Links)
	return t
}

func copiedRounds(r api.Rounds) api.Rounds {
	r.Town = copiedTown(r.Town)
	r.Homes, r.Carriers = slices.Clone(r.Homes), slices.Clone(r.Carriers)
	for i := range r.Homes {
		x := &r.Homes[i].Jar
		x.Sights, x.Brings = slices.Clone(x.Sights), slices.Clone(x.Brings)
	}
	for i := range r.Carriers {
		r.Carriers[i].Homes = slices.Clone(r.Carriers[i].Homes)
	}
	return r
}

func copiedFloors(f api.Floors) api.Floors {
	f.Ids, f.Quarrels = slices.Clone(f.Ids), slices.Clone(f.Quarrels)
	f.Bills, f.Paid = slices.Clone(f.Bills), slices.Clone(f.Paid)
	for i := range f.Bills {
		f.Bills[i].Stakes = slices.Clone(f.Bills[i].Stakes)
	}
	return f
}

func copiedSupply(s api.Supply) api.Supply {
	s.Founts, s.Streets = slices.Clone(s.Founts), slices.Clone(s.Streets)
	for i := range s.Founts {
		x := &s.Founts[i].Spring
		x.Book, x.Readings = slices.Clone(x.Book), slices.Clone(x.Readings)
	}
	for i := range s.Streets {
		s.Streets[i].Draws = slices.Clone(s.Streets[i].Draws)
	}
	return s
}

// copied returns a post that shares no memory with another one.
func copied(p api.Post) api.Post {
	p.Town = copiedTown(p.Town)
	d, m, b := &p.Dawn, &p.Mix, &p.Bell
	d.Ranks, d.Comers, d.Notes = slices.Clone(d.Ranks), slices.Clone(d.Comers), slices.Clone(d.Notes)
	m.Vessels, m.Acts, m.Tastes = slices.Clone(m.Vessels), slices.Clone(m.Acts), slices.Clone(m.Tastes)
	p.Rounds = copiedRounds(p.Rounds)
	p.Tally.Stock, p.Tally.Foil = slices.Clone(p.Tally.Stock), slices.Clone(p.Tally.Foil)
	p.Floors = copiedFloors(p.Floors)
	p.Supply = copiedSupply(p.Supply)
	b.Town = copiedTown(b.Town)
	b.Wells, b.Porters, b.Claims = slices.Clone(b.Wells), slices.Clone(b.Porters), slices.Clone(b.Claims)
	p.Guards, p.Orders = slices.Clone(p.Guards), slices.Clone(p.Orders)
	return p
}
