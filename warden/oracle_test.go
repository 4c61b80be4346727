package warden_test

import (
	"fmt"
	"reflect"
	"regexp"
	"slices"
	"strconv"
	"strings"

	"aguador/api"
	"aguador/climb"
	"aguador/fire"
	"aguador/floor"
	"aguador/jar"
	"aguador/mix"
	"aguador/queue"
	"aguador/rounds"
	"aguador/spring"
	"aguador/tally"
	"aguador/town"
	"aguador/warden"
)

// dice is a source of numbers that are always the same.
type dice struct{ state uint64 }

func (r *dice) upTo(lo, hi int) int {
	r.state = r.state*6364136223846793005 + 1442695040888963407
	return lo + int(r.state>>33)%(hi-lo+1)
}

func (r *dice) one(l []int) int { return l[r.upTo(0, len(l)-1)] }

// oneIn is so once in so many times.
func (r *dice) oneIn(n int) bool { return r.upTo(1, n) == 1 }

// span is one of numbers from lo to hi.
func (r *dice) span(lo, hi int) api.Span {
	x := r.upTo(lo, hi)
	return span(x, r.upTo(x, hi))
}

// some is some of the numbers, in their order.
func (r *dice) some(l ...int) (some []int) {
	for _, n := range l {
		if r.oneIn(2) {
			some = append(some, n)
		}
	}
	return some
}

// patterns has what may stand behind each verb's word, in the order of the verbs.
func patterns() [][2]string {
	n, flag := "( (0|[1-9][0-9]{0,8}))", "( [01])"
	so := func(many int) string { return n + "{" + strconv.Itoa(many) + "}" }
	return [][2]string{
		{"read", so(6)}, {"note", so(4)}, {"come", so(4)}, {"fill", so(3)}, {"pour", so(3)}, {"lose", so(2)}, {"rinse", so(1)}, {"taste", so(6)}, {"see", so(5)},
		{"hire", n + n + flag + n + n + "{0,4}"}, {"dismiss", so(1)}, {"notch", so(1)}, {"bill", so(3) + "(" + n + n + "){1,6}"}, {"pay", so(3)}, {"need", so(4)}, {"claim", so(3)},
		{"join", n + n + flag}, {"stop", so(1)}, {"close", so(1)}, {"guard", so(2)}, {"order", so(4)}, {"drop", so(1)}, {"ask", so(3)},
	}
}

// compiled has the patterns of all verbs' lines.
var compiled = func() (l []*regexp.Regexp) {
	for _, x := range patterns() {
		l = append(l, regexp.MustCompile("^"+x[0]+x[1]+"$"))
	}
	return l
}()

// deedOf is the deed of a line, by the patterns of all verbs.
func deedOf(line string) (d api.Deed, is bool) {
	for i, x := range compiled {
		if x.MatchString(line) {
			d.Verb = i + 1
			for _, s := range strings.Fields(line)[1:] {
				n, _ := strconv.Atoi(s)
				d.Args = append(d.Args, n)
			}
			return d, true
		}
	}
	return d, false
}

// lineOf is what would be spoken for a deed, be it valid or not.
func lineOf(d api.Deed) string {
	if d.Verb < 1 || d.Verb > 23 {
		return ""
	}
	s := patterns()[d.Verb-1][0]
	for _, n := range d.Args {
		s += fmt.Sprintf(" %d", n)
	}
	return s
}

// numbersOf is all numbers of a value, field by field, in the order of the types' fields, with how many there are in each list before it; towns within are left out.
func numbersOf(v reflect.Value) (l []string) {
	switch v.Kind() {
	case reflect.Bool:
		return []string{map[bool]string{false: "0", true: "1"}[v.Bool()]}
	case reflect.Int, reflect.Uint8:
		return []string{fmt.Sprint(v.Interface())}
	case reflect.Slice:
		l = append(l, fmt.Sprint(v.Len()))
		for i := range v.Len() {
			l = append(l, numbersOf(v.Index(i))...)
		}
	case reflect.Struct:
		for i := range v.NumField() {
			if v.Type().Field(i).Name != "Town" {
				l = append(l, numbersOf(v.Field(i))...)
			}
		}
	}
	return l
}

// fileOf is the file of a post, valid or not: a row for each field.
func fileOf(p api.Post) (s string) {
	v := reflect.ValueOf(p)
	for i := range v.NumField() {
		row := append([]string{strings.ToLower(v.Type().Field(i).Name)}, numbersOf(v.Field(i))...)
		s += strings.Join(row, " ") + "\n"
	}
	return s
}

// fit reads the numbers of a value, and says whether there are as many as it needs, and how many are left.
func fit(v reflect.Value, l []int) ([]int, bool) {
	ok := true
	switch {
	case v.Kind() == reflect.Struct:
		for i := 0; i < v.NumField() && ok; i++ {
			if v.Type().Field(i).Name != "Town" {
				l, ok = fit(v.Field(i), l)
			}
		}
		return l, ok
	case len(l) == 0:
		return nil, false
	case v.Kind() == reflect.Slice:
		many := l[0]
		l = l[1:]
		for i := 0; i < many && ok; i++ {
			one := reflect.New(v.Type().Elem()).Elem()
			l, ok = fit(one, l)
			v.Set(reflect.Append(v, one))
		}
		return l, ok
	case v.Kind() == reflect.Bool:
		v.SetBool(l[0] == 1)
		ok = l[0] <= 1
	case v.Kind() == reflect.Uint8:
		v.SetUint(uint64(uint8(l[0])))
		ok = l[0] <= 255
	default:
		v.SetInt(int64(l[0]))
	}
	return l[1:], ok
}

// postOf is the post of a file, valid or not; false if it is that of none.
func postOf(s string) (p api.Post, is bool) {
	v := reflect.ValueOf(&p).Elem()
	lines := strings.Split(s, "\n")
	if len(lines) != v.NumField()+1 || lines[v.NumField()] != "" {
		return p, false
	}
	for i := range v.NumField() {
		words := strings.Split(lines[i], " ")
		var l []int
		for _, x := range words[1:] {
			n, e := strconv.Atoi(x)
			if e != nil || strconv.Itoa(n) != x || n < 0 {
				return p, false
			}
			l = append(l, n)
		}
		left, ok := fit(v.Field(i), l)
		if words[0] != strings.ToLower(v.Type().Field(i).Name) || !ok || len(left) > 0 {
			return p, false
		}
	}
	q := copied(p)
	p.Rounds.Town, p.Bell.Town = q.Town, copied(p).Town
	return p, true
}

// isSafe reports whether all that a vessel holds is of a fountain for sure.
func isSafe(m api.Mix, x api.Guard) bool {
	known, e := mix.Pure(m, x.Vessel, len(m.Acts), x.Fountain)
	return e == api.OK && known == api.KnownYes
}

func areSafe(p api.Post) bool {
	for _, x := range p.Guards {
		if !isSafe(p.Mix, x) {
			return false
		}
	}
	return true
}

// holding is whether an order holds, and its value, by the layers.
func holding(p api.Post, x api.Order) (value int, is bool) {
	after := len(p.Mix.Acts)
	switch x.Kind {
	case api.OrderFails:
		for _, f := range p.Supply.Founts {
			if f.Id == x.A {
				week, e := spring.Fails(f.Spring, x.B)
				return week, e == api.OK
			}
		}
		return 0, false
	case api.OrderLate:
		known, e := queue.Sure(p.Dawn, x.A, x.B)
		ends, _ := queue.Ends(p.Dawn, x.A)
		return ends.Hi, e == api.OK && known != api.KnownYes
	case api.OrderMixed:
		known, e := mix.Pure(p.Mix, x.A, after, x.B)
		n, _ := mix.Holds(p.Mix, x.A, after)
		return n, e == api.OK && known != api.KnownYes
	case api.OrderDry:
		day, e := rounds.Dry(p.Rounds, x.A, nil)
		return day, e == api.OK
	case api.OrderFalse:
		n, _ := tally.False(p.Tally)
		return n, n > x.A
	case api.OrderOwes:
		net, _ := floor.Net(p.Floors)
		at := slices.Index(p.Floors.Ids, x.A)
		if at < 0 {
			return 0, false
		}
		return -net[at], net[at] < 0 && -net[at] > x.B
	case api.OrderShare:
		known, e := town.Enough(p.Supply, x.A)
		return int(known), e == api.OK && known != api.KnownYes
	}
	n, _ := fire.By(p.Bell, x.B)
	return n, n < x.A
}

// done is what becomes of a post, in memory of its own, and by which error the deed is denied.
func done(old api.Post, d api.Deed) (api.Post, api.Errno) {
	p, n := copied(old), slices.Clone(d.Args)
	e := api.OK
	switch {
	case d.Verb <= api.VerbCome:
		e = doneAtFountain(&p, d.Verb, n)
	case d.Verb <= api.VerbTaste:
		e = doneWithVessels(&p, d.Verb, n)
	case d.Verb <= api.VerbDismiss:
		e = doneInRounds(&p, d.Verb, n)
	case d.Verb <= api.VerbNeed:
		e = doneInHouses(&p, d.Verb, n)
	case d.Verb <= api.VerbClose:
		e = doneAtBell(&p, d.Verb, n)
	default:
		e = doneByWarden(&p, d.Verb, n)
	}
	if e != api.OK {
		return copied(old), e
	}
	return p, e
}

func doneAtFountain(p *api.Post, verb int, n []int) (e api.Errno) {
	switch verb {
	case api.VerbRead:
		for i, x := range p.Supply.Founts {
			if x.Id == n[0] {
				p.Supply.Founts[i].Spring, e = spring.Add(x.Spring, api.Reading{Number: n[1], Week: n[2], Bucket: n[3], Songs: span(n[4], n[5])})
				return e
			}
		}
		return api.ErrNone
	case api.VerbNote:
		p.Dawn, e = queue.Put(p.Dawn, api.Begun{Number: n[0], Comer: n[1], At: span(n[2], n[3])})
	default:
		p.Dawn, e = queue.Add(p.Dawn, api.Comer{Id: n[0], Guild: n[1], Come: n[2], Skins: n[3]})
	}
	return e
}

func doneWithVessels(p *api.Post, verb int, n []int) (e api.Errno) {
	switch verb {
	case api.VerbFill:
		p.Mix, e = mix.Do(p.Mix, api.Act{Kind: 1, From: n[0], To: n[1], Drops: n[2]})
	case api.VerbPour:
		p.Mix, e = mix.Do(p.Mix, api.Act{Kind: 2, From: n[0], To: n[1], Drops: n[2]})
	case api.VerbLose:
		p.Mix, e = mix.Do(p.Mix, api.Act{Kind: 3, From: n[0], Drops: n[1]})
	case api.VerbRinse:
		p.Mix, e = mix.Do(p.Mix, api.Act{Kind: 4, From: n[0]})
	default:
		p.Mix, e = mix.Put(p.Mix, api.Taste{Number: n[0], Vessel: n[1], After: n[2], Fountain: n[3], Drops: span(n[4], n[5])})
	}
	if e == api.OK && !areSafe(*p) {
		return api.ErrMixed
	}
	return e
}

func doneInRounds(p *api.Post, verb int, n []int) (e api.Errno) {
	switch verb {
	case api.VerbSee:
		for i, x := range p.Rounds.Homes {
			if x.Id != n[0] {
				continue
			}
			p.Rounds.Homes[i].Jar, e = jar.See(x.Jar, api.Sight{Id: n[1], Day: n[2], Pints: span(n[3], n[4])})
			if e == api.OK && rounds.Check(p.Rounds) != api.OK {
				return api.ErrRounds
			}
			return e
		}
		return api.ErrNone
	case api.VerbHire:
		p.Rounds, e = rounds.Hire(p.Rounds, api.Carrier{Id: n[0], Base: n[1], Donkey: n[2] == 1, Skins: n[3], Homes: n[4:]})
	default:
		p.Rounds, e = rounds.Dismiss(p.Rounds, n[0])
	}
	return e
}

func doneInHouses(p *api.Post, verb int, n []int) (e api.Errno) {
	switch verb {
	case api.VerbNotch:
		p.Tally, e = tally.Notch(p.Tally, n[0])
	case api.VerbBill:
		x := api.Bill{Number: n[0], Payer: n[1], Pence: n[2]}
		for i := 3; i < len(n); i += 2 {
			x.Stakes = append(x.Stakes, api.Stake{Floor: n[i], Parts: n[i+1]})
		}
		p.Floors, e = floor.Add(p.Floors, x)
	case api.VerbPay:
		for _, x := range p.Floors.Quarrels {
			if x.A == n[0] && x.B == n[1] || x.A == n[1] && x.B == n[0] {
				return api.ErrQuarrel
			}
		}
		p.Floors, e = floor.Pay(p.Floors, api.Payment{From: n[0], To: n[1], Pence: n[2]})
	default:
		for i, x := range p.Supply.Streets {
			if x.Id == n[0] {
				p.Supply.Streets[i] = api.Street{Id: x.Id, Need: span(n[1], n[2]), Least: n[3], Draws: x.Draws}
				if town.Check(p.Supply) != api.OK {
					return api.ErrStreet
				}
				return api.OK
			}
		}
		return api.ErrNone
	}
	return e
}

func doneAtBell(p *api.Post, verb int, n []int) (e api.Errno) {
	switch verb {
	case api.VerbClaim:
		p.Bell, e = fire.Put(p.Bell, api.Claim{Number: n[0], Porter: n[1], Minute: n[2]})
	case api.VerbJoin:
		p.Bell, e = fire.Join(p.Bell, api.Porter{Id: n[0], At: n[1], Full: n[2] == 1})
	case api.VerbStop:
		p.Bell, e = fire.Stop(p.Bell, n[0])
	default:
		var t api.Town
		t, e = climb.Close(p.Town, n)
		p.Town, p.Rounds.Town, p.Bell.Town = t, t, t
	}
	return e
}

func doneByWarden(p *api.Post, verb int, n []int) api.Errno {
	switch verb {
	case api.VerbGuard:
		if _, e := mix.Pure(p.Mix, n[0], len(p.Mix.Acts), n[1]); e != api.OK {
			return e
		}
		if !isSafe(p.Mix, guard(n[0], n[1])) {
			return api.ErrMixed
		}
		for _, x := range p.Guards {
			if x.Vessel == n[0] {
				return api.ErrGuard
			}
		}
		p.Guards = append(p.Guards, guard(n[0], n[1]))
		slices.SortFunc(p.Guards, func(a, b api.Guard) int { return a.Vessel - b.Vessel })
	case api.VerbOrder:
		if len(p.Orders) == 8 {
			return api.ErrFull
		}
		was := slices.ContainsFunc(p.Orders, func(x api.Order) bool { return x.Number == n[0] })
		if was || n[0] < 1 || n[0] > 9999 || n[1] < 1 || n[1] > 8 || n[2] > 1000000 || n[3] > 1000000 {
			return api.ErrStand
		}
		p.Orders = append(p.Orders, order(n[0], n[1], n[2], n[3]))
		slices.SortFunc(p.Orders, func(a, b api.Order) int { return a.Number - b.Number })
	case api.VerbDrop:
		for i, x := range p.Orders {
			if x.Number == n[0] {
				p.Orders = slices.Delete(p.Orders, i, i+1)
				return api.OK
			}
		}
		return api.ErrNone
	default:
		if n[0] < 1 || n[0] > 8 || n[1] > 1000000 || n[2] > 1000000 {
			return api.ErrStand
		}
	}
	return api.OK
}

// held is the values of the orders of a post that hold, by their Numbers.
func held(p api.Post) map[int]int {
	l := map[int]int{}
	for _, x := range p.Orders {
		if value, is := holding(p, x); is {
			l[x.Number] = value
		}
	}
	return l
}

// numbered is the Numbers of orders, each once.
func numbered(orders []api.Order) (l []int) {
	for _, x := range orders {
		l = append(l, x.Number)
	}
	slices.Sort(l)
	return slices.Compact(l)
}

// answered is what is said of a deed by which one post became another one.
func answered(old, now api.Post, d api.Deed, why api.Errno) string {
	if why != api.OK {
		return fmt.Sprintf("no %d", int(why))
	}
	s := "ok"
	if d.Verb == api.VerbAsk {
		s = "not"
		if value, is := holding(old, order(1, d.Args[0], d.Args[1], d.Args[2])); is {
			s = fmt.Sprintf("so %d", value)
		}
	}
	before, after := held(old), held(now)
	for _, x := range numbered(append(slices.Clone(old.Orders), now.Orders...)) {
		_, was := before[x]
		value, is := after[x]
		if is && !was {
			s += fmt.Sprintf(" warn %d %d", x, value)
		}
		if was && !is {
			s += fmt.Sprintf(" calm %d", x)
		}
	}
	return s
}

// carried is what comes of a summer: its file, then line by line.
func carried(s string) (answers, after string, e api.Errno) {
	lines := strings.SplitAfter(s, "\n")
	rows := min(11, len(lines))
	p, is := postOf(strings.Join(lines[:rows], ""))
	if !is || warden.Check(p) != api.OK {
		return "", "", api.ErrFile
	}
	many := 0
	for _, x := range lines[rows:] {
		if x == "" {
			continue // nothing is behind the last byte 10
		}
		d, is := deedOf(strings.TrimSuffix(x, "\n"))
		if !is || !strings.HasSuffix(x, "\n") {
			return "", "", api.ErrSpeak
		}
		many++
		if many <= 40 {
			next, why := done(p, d)
			answers += answered(p, next, d, why) + "\n"
			p = next
		}
	}
	if many > 40 {
		return "", "", api.ErrMany
	}
	return answers, fileOf(p), api.OK
}
