package spring_test

import (
	"slices"
	"testing"

	"aguador/api"
	"aguador/spring"
)

// small calls a test with springs of which all truths are listed.
func small(t *testing.T, some func(s api.Spring, all []fact, d *dice)) {
	t.Helper()
	d := &dice{state: 7}
	withTruth := 0
	for range 3000 {
		s := d.spring()
		if e := spring.Check(s); e != api.OK {
			t.Fatal(s, e)
		}
		all := facts(s)
		if len(all) > 0 {
			withTruth++
		}
		some(s, all, d)
		if t.Failed() {
			t.Fatal(s)
		}
	}
	if withTruth < 500 || withTruth > 2500 {
		t.Error("too few springs with a truth, or without one:", withTruth)
	}
}

// P1.1, P1.2, P1.10, P1.11: what is told is just what comes about.
func TestAllTruths(t *testing.T) {
	small(t, func(s api.Spring, all []fact, _ *dice) {
		can, e := spring.Can(s)
		if can != (len(all) > 0) || e != api.OK {
			t.Error("Can", can, e)
		}
		var rains []int
		for _, f := range all {
			if !slices.Contains(rains, f.rain) {
				rains = append(rains, f.rain)
			}
		}
		l, e := spring.Rains(s)
		if !slices.Equal(l, rains) || (e == api.OK) != can || !can && e != api.ErrBad {
			t.Error("Rains", l, e)
		}
		for week := range s.Weeks {
			x, e := spring.Gives(s, week)
			if !can {
				if (x != api.Span{}) || e != api.ErrBad {
					t.Error("Gives", x, e)
				}
				continue
			}
			if x != spanOf(all, week) || e != api.OK {
				t.Error("Gives", week, x, e)
			}
		}
	})
}

// P1.2: what is known of each need.
func TestKnownInAllTruths(t *testing.T) {
	small(t, func(s api.Spring, all []fact, _ *dice) {
		for week := range s.Weeks {
			for need := -1; need <= s.Most+1; need++ {
				k, e := spring.Known(s, week, need)
				enough := 0
				for _, f := range all {
					if f.gives[week] >= need {
						enough++
					}
				}
				want := uint8(api.KnownOpen)
				switch {
				case len(all) == 0:
					if k != 0 || e != api.ErrBad {
						t.Error("Known", k, e)
					}
					continue
				case enough == len(all):
					want = api.KnownYes
				case enough == 0:
					want = api.KnownNo
				}
				if k != want || e != api.OK {
					t.Error("Known", week, need, k, e)
				}
			}
		}
	})
}

// P1.3, P1.13: the first week, in some truth and in each.
func TestFailsInAllTruths(t *testing.T) {
	small(t, func(s api.Spring, all []fact, _ *dice) {
		for need := -1; need <= s.Most+1; need++ {
			perhaps, surely := s.Weeks, s.Weeks
			for week := s.Weeks - 1; week >= 0; week-- {
				short := 0
				for _, f := range all {
					if f.gives[week] < need {
						short++
					}
				}
				if short > 0 {
					perhaps = week
				}
				if short == len(all) {
					surely = week
				}
			}
			a, e := spring.Fails(s, need)
			b, f := spring.Surely(s, need)
			if len(all) == 0 {
				if a != 0 || b != 0 || e != api.ErrBad || f != api.ErrBad {
					t.Error("without a truth", a, e, b, f)
				}
				continue
			}
			if w, x := weekOrNone(perhaps, s.Weeks); a != w || e != x {
				t.Error("Fails", need, a, e)
			}
			if w, x := weekOrNone(surely, s.Weeks); b != w || f != x {
				t.Error("Surely", need, b, f)
			}
			if e == api.ErrNone && f == api.OK || e == api.OK && f == api.OK && b < a {
				t.Error("surely before perhaps", need, a, e, b, f)
			}
		}
	})
}

func weekOrNone(week, weeks int) (int, api.Errno) {
	if week == weeks {
		return 0, api.ErrNone
	}
	return week, api.OK
}

// P1.4, P1.10: the truths that give least and most.
func TestPoorAndRichOfAllTruths(t *testing.T) {
	small(t, func(s api.Spring, all []fact, _ *dice) {
		rain, l, e := spring.Poor(s)
		wet, m, f := spring.Rich(s)
		if len(all) == 0 {
			if rain != 0 || wet != 0 || len(l)+len(m) != 0 || e != api.ErrBad || f != api.ErrBad {
				t.Error("without a truth", rain, l, e, wet, m, f)
			}
			return
		}
		poor, rich := all[0], all[0]
		for _, f := range all {
			if f.sum() < poor.sum() {
				poor = f
			}
			if f.sum() > rich.sum() {
				rich = f
			}
		}
		if rain != poor.rain || !slices.Equal(l, poor.gives) || e != api.OK {
			t.Error("Poor", rain, l, e, poor)
		}
		if wet != rich.rain || !slices.Equal(m, rich.gives) || f != api.OK {
			t.Error("Rich", wet, m, f, rich)
		}
	})
}

// P1.5, P1.15: how long a bucket takes.
func TestFillInAllTruths(t *testing.T) {
	small(t, func(s api.Spring, all []fact, d *dice) {
		for week := range s.Weeks {
			bucket := d.upTo(1, 40)
			x, e := spring.Fill(s, week, bucket)
			if len(all) == 0 || spanOf(all, week).Lo == 0 {
				want := api.ErrBad
				if len(all) > 0 {
					want = api.ErrNone
				}
				if (x != api.Span{}) || e != want {
					t.Error("Fill", x, e)
				}
				continue
			}
			lo, hi := false, false
			for _, f := range all {
				seconds := 3600 * bucket
				pints := f.gives[week]
				if seconds < x.Lo*pints || seconds > x.Hi*pints {
					t.Error("Fill leaves out", f, x)
				}
				lo = lo || seconds < (x.Lo+1)*pints
				hi = hi || seconds > (x.Hi-1)*pints
			}
			if !lo || !hi || e != api.OK {
				t.Error("Fill tells too much", week, bucket, x, e)
			}
			larger, e := spring.Fill(s, week, min(bucket+1, 40))
			if larger.Lo < x.Lo || larger.Hi < x.Hi || e != api.OK {
				t.Error("a larger bucket takes less", x, larger, e)
			}
		}
	})
}

// P1.6, P1.16: the week that would tell most.
func TestLookInAllTruths(t *testing.T) {
	small(t, func(s api.Spring, all []fact, _ *dice) {
		week, left, e := spring.Look(s)
		if len(all) == 0 {
			if week != 0 || left != 0 || e != api.ErrBad {
				t.Error("Look", week, left, e)
			}
			return
		}
		want, least := 0, leftAfter(s, all, 0)
		for w := 1; w < s.Weeks; w++ {
			if n := leftAfter(s, all, w); n < least {
				want, least = w, n
			}
		}
		if week != want || left != least || e != api.OK {
			t.Error("Look", week, left, e, want, least)
		}
	})
}

// P1.7: what a reading tells alone.
func TestReadOfAllGivings(t *testing.T) {
	small(t, func(s api.Spring, _ []fact, d *dice) {
		x := d.reading(s, d.upTo(1, 12))
		want, e := span(0, 0), api.ErrNone
		for pints := s.Most; pints >= 0; pints-- {
			if !isTrue(s, x, pints) {
				continue
			}
			if e != api.OK {
				want.Hi = pints
			}
			want.Lo, e = pints, api.OK
		}
		if g, f := spring.Read(s, x); g != want || f != e {
			t.Error("Read", x, g, f, want, e)
		}
	})
}

// P1.7, P1.17: what a week rests on.
func TestRestsInAllTruths(t *testing.T) {
	small(t, func(s api.Spring, all []fact, _ *dice) {
		for week := range s.Weeks {
			l, e := spring.Rests(s, week)
			if len(all) == 0 {
				if len(l) != 0 || e != api.ErrBad {
					t.Error("Rests", l, e)
				}
				continue
			}
			var want []int
			for i, x := range s.Readings {
				if rest, _ := less(s, 1<<i); spanOf(facts(rest), week) != spanOf(all, week) {
					want = append(want, x.Number)
				}
			}
			if !slices.Equal(l, want) || e != api.OK {
				t.Error("Rests", week, l, e, want)
			}
		}
	})
}

// P1.8, P1.14: the fewest false readings.
func TestWrongOfAllLists(t *testing.T) {
	lengths := map[int]int{}
	small(t, func(s api.Spring, _ []fact, _ *dice) {
		l, e := spring.Wrong(s)
		want, f := falseOnes(s)
		if !slices.Equal(l, want) || e != f {
			t.Error("Wrong", l, e, want, f)
		}
		if e == api.OK {
			lengths[len(l)]++
		} else {
			lengths[-int(e)]++
		}
	})
	for _, n := range ints(0, 1, 2, -int(api.ErrMany), -int(api.ErrNone)) {
		if lengths[n] < 5 {
			t.Error("too few springs of a kind:", n, lengths)
		}
	}
}

// P1.12: one reading more, or one line more, never widens what is known.
func TestMoreNeverWidens(t *testing.T) {
	narrower := 0
	small(t, func(s api.Spring, all []fact, d *dice) {
		more, e := spring.Add(s, d.reading(s, 100))
		also, f := spring.Write(s, d.line(s))
		if e != api.OK || f != api.OK {
			t.Error("Add or Write", e, f)
		}
		for _, y := range []api.Spring{more, also} {
			can, _ := spring.Can(y)
			if can && len(all) == 0 {
				t.Error("a truth more", y)
			}
			if !can {
				continue
			}
			old, _ := spring.Rains(s)
			rains, _ := spring.Rains(y)
			for _, rain := range rains {
				if !slices.Contains(old, rain) {
					t.Error("a rain more", rain, y)
				}
			}
			for week := range s.Weeks {
				a, _ := spring.Gives(s, week)
				b, _ := spring.Gives(y, week)
				if b.Lo < a.Lo || b.Hi > a.Hi {
					t.Error("wider", week, a, b, y)
				}
				if a != b {
					narrower++
				}
			}
		}
	})
	if narrower < 500 {
		t.Error("too few narrow anything:", narrower)
	}
}
