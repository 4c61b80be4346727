package warden

import (
	"slices"

	"aguador/api"
	"aguador/climb"
	"aguador/fire"
	"aguador/floor"
	"aguador/jar"
	"aguador/mix"
	"aguador/queue"
	"aguador/rounds"
	"aguador/spring"
	"aguador/tally"
	"aguador/town"
)

// What each verb does is told the numbers that it needs, and may write to the post.

// fount returns the fountain of the supply with an Id.
func (d *day) fount(id int) *api.Fount {
	at := first(d.Supply.Founts, api.ErrNone, func(x api.Fount) bool { return x.Id == id })
	return &d.Supply.Founts[at]
}

func (d *day) read(n []int) {
	x := d.fount(n[0])
	reading := api.Reading{Number: n[1], Week: n[2], Bucket: n[3], Songs: span(n[4], n[5])}
	x.Spring = must(spring.Add(x.Spring, reading))
}

func (d *day) note(n []int) {
	d.Dawn = must(queue.Put(d.Dawn, api.Begun{Number: n[0], Comer: n[1], At: span(n[2], n[3])}))
}

func (d *day) come(n []int) {
	d.Dawn = must(queue.Add(d.Dawn, api.Comer{Id: n[0], Guild: n[1], Come: n[2], Skins: n[3]}))
}

// act does an act with vessels, unless a guarded one would not be safe then.
func (d *day) act(x api.Act) {
	d.Mix = must(mix.Do(d.Mix, x))
	throwIf(!areSafe(d.Post), api.ErrMixed)
}

func (d *day) fill(n []int) {
	d.act(api.Act{Kind: api.ActFill, From: n[0], To: n[1], Drops: n[2]})
}

func (d *day) pour(n []int) {
	d.act(api.Act{Kind: api.ActPour, From: n[0], To: n[1], Drops: n[2]})
}

func (d *day) lose(n []int) { d.act(api.Act{Kind: api.ActLose, From: n[0], Drops: n[1]}) }

func (d *day) rinse(n []int) { d.act(api.Act{Kind: api.ActRinse, From: n[0]}) }

func (d *day) taste(n []int) {
	x := api.Taste{Number: n[0], Vessel: n[1], After: n[2], Fountain: n[3], Drops: span(n[4], n[5])}
	d.Mix = must(mix.Put(d.Mix, x))
	throwIf(!areSafe(d.Post), api.ErrMixed)
}

func (d *day) see(n []int) {
	at := first(d.Rounds.Homes, api.ErrNone, func(x api.Home) bool { return x.Id == n[0] })
	home := &d.Rounds.Homes[at]
	home.Jar = must(jar.See(home.Jar, api.Sight{Id: n[1], Day: n[2], Pints: span(n[3], n[4])}))
	throwIf(rounds.Check(d.Rounds) != api.OK, api.ErrRounds)
}

func (d *day) hire(n []int) {
	x := api.Carrier{Id: n[0], Base: n[1], Donkey: n[2] == yes, Skins: n[3], Homes: n[4:]}
	d.Rounds = must(rounds.Hire(d.Rounds, x))
}

func (d *day) dismiss(n []int) { d.Rounds = must(rounds.Dismiss(d.Rounds, n[0])) }

func (d *day) notch(n []int) { d.Tally = must(tally.Notch(d.Tally, n[0])) }

func (d *day) bill(n []int) {
	x := api.Bill{Number: n[0], Payer: n[1], Pence: n[2]}
	for pair := range slices.Chunk(n[3:], 2) {
		x.Stakes = append(x.Stakes, api.Stake{Floor: pair[0], Parts: pair[1]})
	}
	d.Floors = must(floor.Add(d.Floors, x))
}

func (d *day) pay(n []int) {
	// The floors of a quarrel are in increasing order.
	quarrel := api.Quarrel{A: min(n[0], n[1]), B: max(n[0], n[1])}
	throwIf(slices.Contains(d.Floors.Quarrels, quarrel), api.ErrQuarrel)
	d.Floors = must(floor.Pay(d.Floors, api.Payment{From: n[0], To: n[1], Pence: n[2]}))
}

func (d *day) need(n []int) {
	at := first(d.Supply.Streets, api.ErrNone, func(x api.Street) bool { return x.Id == n[0] })
	street := &d.Supply.Streets[at]
	street.Need, street.Least = span(n[1], n[2]), n[3]
	throwIf(town.Check(d.Supply) != api.OK, api.ErrStreet)
}

func (d *day) claim(n []int) {
	d.Bell = must(fire.Put(d.Bell, api.Claim{Number: n[0], Porter: n[1], Minute: n[2]}))
}

func (d *day) join(n []int) {
	d.Bell = must(fire.Join(d.Bell, api.Porter{Id: n[0], At: n[1], Full: n[2] == yes}))
}

func (d *day) stop(n []int) { d.Bell = must(fire.Stop(d.Bell, n[0])) }

func (d *day) close(n []int) {
	for _, x := range []*api.Town{&d.Town, &d.Rounds.Town, &d.Bell.Town} {
		*x = must(climb.Close(*x, n))
	}
}

// pure returns what is known of a vessel after all acts.
func (d *day) pure(vessel, fountain int) (uint8, api.Errno) {
	return mix.Pure(d.Mix, vessel, len(d.Mix.Acts), fountain)
}

func (d *day) guard(n []int) {
	x := api.Guard{Vessel: n[0], Fountain: n[1]}
	throwIf(must(d.pure(x.Vessel, x.Fountain)) != api.KnownYes, api.ErrMixed)
	throwIf(slices.ContainsFunc(d.Guards, func(y api.Guard) bool { return y.Vessel == x.Vessel }), api.ErrGuard)
	d.Guards = put(d.Guards, x, func(y api.Guard) bool { return y.Vessel > x.Vessel })
}

func (d *day) order(n []int) {
	throwIf(len(d.Orders) == api.MaxOrders, api.ErrFull)
	x := api.Order{Number: n[0], Kind: n[1], A: n[2], B: n[3]}
	d.Orders = put(d.Orders, x, func(y api.Order) bool { return y.Number > x.Number })
	throwIf(!validOrders(d.Orders), api.ErrStand)
}

func (d *day) drop(n []int) {
	at := first(d.Orders, api.ErrNone, func(x api.Order) bool { return x.Number == n[0] })
	d.Orders = slices.Delete(d.Orders, at, at+1)
}

func (d *day) ask(n []int) {
	x := api.Order{Kind: n[0], A: n[1], B: n[2]}
	throwIf(!couldBe(x), api.ErrStand)
	d.says = "not"
	if value, is := d.holds(x); is {
		d.says = written("so", value)
	}
}
