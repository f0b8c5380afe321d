package tests

import (
	"cmp"
	"iter"
	"reflect"
	"slices"
	"testing"

	"loop.example/stringline/impl"
)

// small is a line of the dice with so many legs at the most.
func (d *dice) small(legs int) impl.Line {
	for {
		l := d.line()
		if countAll(l) <= legs {
			return l
		}
	}
}

func countAll(l impl.Line) int {
	n := 0
	for _, t := range l.Trains {
		n += len(t.Legs)
	}
	return n
}

// better is the document's order of plans that can be.
func better(a, b impl.Best) bool {
	byRows := slices.CompareFunc(a.Plan.Starts, b.Plan.Starts, slices.Compare[[]int])
	return !b.Ok || cmp.Or(cmp.Compare(a.Cost, b.Cost), byRows) < 0
}

// orders goes through all orders of a line.
func orders(l impl.Line, yield func(order []int)) {
	left := make([]int, len(l.Trains))
	for i, t := range l.Trains {
		left[i] = len(t.Legs)
	}
	var goOn func(order []int)
	goOn = func(order []int) {
		if len(order) == countAll(l) {
			yield(order)
		}
		for i := range left {
			if left[i] > 0 {
				left[i]--
				goOn(append(order, i))
				left[i]++
			}
		}
	}
	goOn(nil)
}

// bestOfOrders places all orders, one after the other; it counts those that have no plan.
func bestOfOrders(l impl.Line, place func(impl.Line, []int) impl.Placed) (best impl.Best, without int) {
	orders(l, func(order []int) {
		placed := place(l, order)
		if placed.Code != 0 {
			without++
			return
		}
		if b := (impl.Best{Ok: true, Cost: impl.Cost(l, placed.Plan), Plan: placed.Plan}); better(b, best) {
			best = b
		}
	})
	return best, without
}

// TestSolveByOrders: no order has a better plan, and one has this.
func TestSolveByOrders(t *testing.T) {
	d := dice(4)
	late, without := 0, 0
	for range 400 {
		l := d.small(6)
		got := solved(t, l)
		want, none := bestOfOrders(l, wordsPlace)
		if got.Cost != want.Cost || !sameRows(got.Plan.Starts, want.Plan.Starts) {
			t.Fatalf("%+v: %+v, want %+v", l, got, want)
		}
		without += none
		if got.Cost > impl.Least(l) {
			late++
		}
	}
	if late < 50 || without < 500 {
		t.Errorf("only %d lines on which trains wait, only %d orders without a plan", late, without)
	}
}

// TestSolveAllOrders: the same on lines with as many trains and legs as there may be.
func TestSolveAllOrders(t *testing.T) {
	d := dice(5)
	for _, c := range []struct{ stations, tracks, gap int }{{2, 2, 0}, {3, 1, 2}, {4, 2, 1}} {
		l := impl.Line{Tracks: slices.Repeat([]int{c.tracks}, c.stations), Gap: c.gap}
		for range 5 {
			l.Trains = append(l.Trains, d.train(c.stations, 2))
		}
		got := solved(t, l)
		want, _ := bestOfOrders(l, impl.Place)
		if got.Cost != want.Cost || !sameRows(got.Plan.Starts, want.Plan.Starts) {
			t.Fatalf("%+v: %+v, want %+v", l, got, want)
		}
	}
}

// goes is a train by its numbers; each leg is where to, its run and its stay.
func goes(from, ready, due, weight int, legs ...[3]int) impl.Train {
	t := impl.Train{From: from, Ready: ready, Due: due, Weight: weight}
	for _, x := range legs {
		t.Legs = append(t.Legs, impl.Leg{To: x[0], Run: x[1], Stay: x[2]})
	}
	return t
}

// TestSolveNearlyAlike: on each line two orders come to nearly the same, but for one thing on which what follows hangs.
func TestSolveNearlyAlike(t *testing.T) {
	for name, l := range map[string]impl.Line{
		"a station left a tick ago": {Tracks: []int{1, 1}, Trains: []impl.Train{
			goes(0, 1, 5, 2, [3]int{1, 1, 0}),
			goes(0, 3, 2, 1, [3]int{1, 1, 2}, [3]int{0, 2, 0}),
			goes(1, 3, 8, 2, [3]int{0, 1, 2}),
		}},
		"a station left in this tick": {Tracks: []int{2, 2, 1}, Trains: []impl.Train{
			goes(0, 1, 7, 3, [3]int{1, 2, 1}),
			goes(0, 1, 1, 1, [3]int{1, 1, 2}),
			goes(2, 3, 5, 1, [3]int{1, 1, 2}, [3]int{2, 1, 1}),
			goes(0, 2, 0, 2, [3]int{1, 1, 0}, [3]int{0, 1, 0}),
		}},
		"a train that stays yet": {Tracks: []int{2, 1, 1}, Trains: []impl.Train{
			goes(0, 3, 28, 1, [3]int{1, 1, 1}, [3]int{0, 2, 7}),
			goes(1, 5, 10, 1, [3]int{0, 3, 6}, [3]int{1, 1, 3}, [3]int{2, 2, 6}),
			goes(1, 2, 24, 1, [3]int{2, 3, 6}, [3]int{1, 3, 8}),
		}},
		"a train that runs yet": {Tracks: []int{2, 1, 1}, Trains: []impl.Train{
			goes(2, 1, 3, 3, [3]int{1, 2, 2}),
			goes(0, 0, 11, 3, [3]int{1, 3, 1}),
			goes(0, 2, 5, 3, [3]int{1, 2, 2}),
			goes(1, 0, 7, 2, [3]int{0, 2, 2}, [3]int{1, 1, 2}, [3]int{2, 2, 0}),
			goes(2, 1, 12, 2, [3]int{1, 2, 1}),
		}},
		"a gap that has not passed": {Tracks: []int{2, 1, 2}, Gap: 2, Trains: []impl.Train{
			goes(1, 2, 0, 2, [3]int{2, 4, 3}),
			goes(2, 4, 0, 2, [3]int{1, 2, 2}),
			goes(1, 0, 0, 1, [3]int{0, 3, 4}, [3]int{1, 1, 0}, [3]int{2, 1, 1}),
			goes(1, 1, 0, 1, [3]int{0, 1, 1}, [3]int{1, 2, 1}, [3]int{2, 4, 2}),
		}},
	} {
		got := solved(t, l)
		want, _ := bestOfOrders(l, impl.Place)
		if got.Cost != want.Cost || !sameRows(got.Plan.Starts, want.Plan.Starts) {
			t.Errorf("%s: %+v, want %+v", name, got, want)
		}
	}
}

// tiny is a line of at most four legs with numbers so small that all its plans can be gone through.
func (d *dice) tiny() impl.Line {
	l := impl.Line{Gap: d.upTo(2)}
	for range 2 + d.upTo(2) {
		l.Tracks = append(l.Tracks, 1+d.upTo(2))
	}
	for _, legs := range [][]int{{1, 1}, {2, 1}, {1, 2}, {1, 1, 1}, {2, 2}, {3, 1}}[d.upTo(6)] {
		t := d.train(len(l.Tracks), legs)
		t.Ready, t.Due = d.upTo(3), d.upTo(6)
		for k := range t.Legs {
			t.Legs[k].Run, t.Legs[k].Stay = 1+d.upTo(2), d.upTo(2)
		}
		l.Trains = append(l.Trains, t)
	}
	return l
}

// lastTick is behind all that a best plan of a tiny line can ask for.
const lastTick = 20

// plans goes through all plans up to a tick, in whatever order their legs begin; the rows are the same ones each time.
func plans(l impl.Line, yield func(p impl.Plan)) {
	starts := make([][]int, len(l.Trains))
	var goOn func(train int)
	goOn = func(train int) {
		if train == len(l.Trains) {
			yield(impl.Plan{Starts: starts})
			return
		}
		t, row := l.Trains[train], starts[train]
		if len(row) == len(t.Legs) {
			goOn(train + 1)
			return
		}
		for tick := canBegin(t, row, len(row)); tick <= lastTick; tick++ {
			starts[train] = append(row, tick)
			goOn(train)
		}
		starts[train] = row
	}
	goOn(0)
}

func bestOfPlans(l impl.Line) impl.Best {
	var best impl.Best
	plans(l, func(p impl.Plan) {
		b := impl.Best{Ok: true, Plan: p}
		for i, t := range l.Trains {
			last := len(t.Legs) - 1
			b.Cost += t.Weight * max(0, p.Starts[i][last]+t.Legs[last].Run-t.Due)
		}
		if better(b, best) && wordsCheck(l, p) == (impl.Clash{}) {
			best = b
			best.Plan = copied(p)
		}
	})
	return best
}

// TestSolveByPlans: no plan at all is better.
func TestSolveByPlans(t *testing.T) {
	d := dice(6)
	late := 0
	for range 300 {
		l := d.tiny()
		got, want := solved(t, l), bestOfPlans(l)
		if got.Cost != want.Cost || !sameRows(got.Plan.Starts, want.Plan.Starts) {
			t.Fatalf("%+v: %+v, want %+v", l, got, want)
		}
		if got.Cost > impl.Least(l) {
			late++
		}
	}
	if late < 50 {
		t.Errorf("only %d lines on which trains wait", late)
	}
}

// TestSomePlanCanBe: one train behind the other always can be, so every right line has a best plan.
func TestSomePlanCanBe(t *testing.T) {
	d := dice(7)
	for range 300 {
		l := d.line()
		var order []int
		for i, x := range l.Trains {
			order = append(order, slices.Repeat([]int{i}, len(x.Legs))...)
		}
		placed := impl.Place(l, order)
		if placed.Code != 0 {
			t.Fatalf("%+v: %+v", l, placed)
		}
		if got := solved(t, l); got.Cost > impl.Cost(l, placed.Plan) {
			t.Fatalf("%+v: %+v, but %+v", l, got, placed)
		}
	}
}

// plansNearby are plans of so many lines at the most, near one that can be.
func (d *dice) plansNearby(lines int) iter.Seq2[impl.Line, impl.Plan] {
	return func(yield func(impl.Line, impl.Plan) bool) {
		for range lines {
			l := d.line()
			placed := impl.Place(l, d.order(l))
			if placed.Code == 0 && !yield(l, d.shaken(placed.Plan)) {
				return
			}
		}
	}
}

// TestOrderByWords: Order tells the order, and its plan is nowhere later than the plan it was told of.
func TestOrderByWords(t *testing.T) {
	d := dice(8)
	can, sooner := 0, 0
	for l, p := range d.plansNearby(6000) {
		asWas := copied(p)
		order := impl.Order(l, p)
		if !reflect.DeepEqual(p, asWas) {
			t.Fatal("written into")
		}
		if wordsCheck(l, p) != (impl.Clash{}) {
			if len(order) != 0 {
				t.Fatalf("%+v, %v cannot be: %v", l, p, order)
			}
			continue
		}
		can++
		if !isOrderOf(l, p, order) {
			t.Fatalf("%+v, %v: %v", l, p, order)
		}
		own := impl.Place(l, order)
		if own.Code != 0 || !nowhereLater(own.Plan, p) {
			t.Fatalf("%+v, %v: %+v", l, p, own)
		}
		if !sameRows(own.Plan.Starts, p.Starts) {
			sooner++
		}
		if got := impl.Solve(l); impl.Cost(l, p) < got.Cost {
			t.Fatalf("%+v: %v costs less than %+v", l, p, got)
		}
	}
	if can < 500 || sooner < 100 {
		t.Errorf("only %d plans that can be, only %d that can be sooner", can, sooner)
	}
}

// isOrderOf asks each place of an order: it begins behind the one before it, or at once with a higher number.
func isOrderOf(l impl.Line, p impl.Plan, order []int) bool {
	if len(order) != countAll(l) {
		return false
	}
	next := make([]int, len(l.Trains))
	latest, last := -1, -1
	for _, i := range order {
		if i < 0 || i >= len(next) || next[i] == len(p.Starts[i]) {
			return false
		}
		start := p.Starts[i][next[i]]
		if start < latest || start == latest && i <= last {
			return false
		}
		next[i]++
		latest, last = start, i
	}
	return true
}

func nowhereLater(a, b impl.Plan) bool {
	for i, row := range a.Starts {
		for k, start := range row {
			if start > b.Starts[i][k] {
				return false
			}
		}
	}
	return true
}

// isThere tells whether a train is at a place of its way in a tick.
func isThere(t impl.Train, row []int, place, tick int) bool {
	if place == len(row) {
		return tick == row[place-1]+t.Legs[place-1].Run
	}
	from := t.Ready
	if place > 0 {
		from = row[place-1] + t.Legs[place-1].Run
	}
	return from <= tick && tick <= row[place]
}

func placeAt(t impl.Train, place int) int {
	if place == 0 {
		return t.From
	}
	return t.Legs[place-1].To
}

// wordsMeets is Meets as its chapter tells it, tick by tick.
func wordsMeets(l impl.Line, p impl.Plan) []impl.Meet {
	var out []impl.Meet
	for a, x := range l.Trains {
		for b, y := range l.Trains {
			for i := range len(x.Legs) + 1 {
				for k := range len(y.Legs) + 1 {
					var ticks []int
					for tick := range 300 {
						if isThere(x, p.Starts[a], i, tick) && isThere(y, p.Starts[b], k, tick) {
							ticks = append(ticks, tick)
						}
					}
					if a < b && placeAt(x, i) == placeAt(y, k) && len(ticks) > 0 {
						out = append(out, impl.Meet{A: a, B: b, At: placeAt(x, i), From: ticks[0], To: ticks[len(ticks)-1]})
					}
				}
			}
		}
	}
	return out
}

func TestMeetsByWords(t *testing.T) {
	d := dice(9)
	can, some, single := 0, 0, 0
	for l, p := range d.plansNearby(3000) {
		asWas := copied(p)
		got := impl.Meets(l, p)
		if !reflect.DeepEqual(p, asWas) {
			t.Fatal("written into")
		}
		var want []impl.Meet
		if wordsCheck(l, p) == (impl.Clash{}) {
			can++
			want = wordsMeets(l, p)
		}
		if !slices.Equal(got, want) {
			t.Fatalf("%+v, %v: %v, want %v", l, p, got, want)
		}
		some += len(got)
		for _, m := range got {
			if m.From == m.To {
				single++
			}
		}
	}
	if can < 300 || some < 300 || single < 100 {
		t.Errorf("only %d plans that can be, only %d meetings, only %d in one tick", can, some, single)
	}
}

// TestSolveLater: all of a line later has the best plan as much later.
func TestSolveLater(t *testing.T) {
	d := dice(10)
	for range 150 {
		l := d.line()
		got := solved(t, l)
		most := 100000
		for _, x := range l.Trains {
			most = min(most, 100000-x.Ready, 100000-x.Due)
		}
		for _, by := range []int{1, 1 + d.upTo(1000), most} {
			later := solved(t, changed(l, func(l *impl.Line) {
				for i := range l.Trains {
					l.Trains[i].Ready += by
					l.Trains[i].Due += by
				}
			}))
			want := copied(got.Plan)
			for _, row := range want.Starts {
				for k := range row {
					row[k] += by
				}
			}
			if later.Cost != got.Cost || !sameRows(later.Plan.Starts, want.Starts) {
				t.Fatalf("%+v, %d later: %+v, want %d %v", l, by, later, got.Cost, want.Starts)
			}
		}
	}
}

// easier are all lines that a line becomes by a track more, a shorter run or stay, a smaller gap, or a train less.
func easier(l impl.Line) []impl.Line {
	var out []impl.Line
	for s := range l.Tracks {
		out = append(out, changed(l, func(l *impl.Line) { l.Tracks[s]++ }))
	}
	if l.Gap > 0 {
		out = append(out, changed(l, func(l *impl.Line) { l.Gap-- }))
	}
	for i, t := range l.Trains {
		out = append(out, changed(l, func(l *impl.Line) { l.Trains = slices.Delete(l.Trains, i, i+1) }))
		for k, leg := range t.Legs {
			if leg.Run > 1 {
				out = append(out, changed(l, func(l *impl.Line) { l.Trains[i].Legs[k].Run-- }))
			}
			if leg.Stay > 0 {
				out = append(out, changed(l, func(l *impl.Line) { l.Trains[i].Legs[k].Stay-- }))
			}
		}
	}
	return out
}

func TestSolveEasier(t *testing.T) {
	d := dice(11)
	less := 0
	for range 60 {
		l := d.line()
		got := solved(t, l)
		for _, x := range easier(l) {
			b := solved(t, x)
			if b.Cost > got.Cost {
				t.Fatalf("%+v: %+v, but easier %+v: %+v", l, got, x, b)
			}
			if b.Cost < got.Cost {
				less++
			}
		}
	}
	if less < 100 {
		t.Errorf("only %d lines cost less", less)
	}
}
