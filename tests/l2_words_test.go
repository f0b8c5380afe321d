package tests

import (
	"reflect"
	"slices"
	"testing"

	"loop.example/stringline/impl"
)

// dice makes many lines, always the same ones.
type dice uint64

func (d *dice) upTo(n int) int {
	*d = *d*6364136223846793005 + 1442695040888963407
	return int(uint64(*d)>>33) % n
}

// line is a right line with small numbers, so that its trains come upon one another.
func (d *dice) line() impl.Line {
	l := impl.Line{Gap: d.upTo(4)}
	for range 2 + d.upTo(3) {
		l.Tracks = append(l.Tracks, 1+d.upTo(3))
	}
	legs := 10
	for range 1 + d.upTo(5) {
		n := 1 + d.upTo(4)
		if n > legs {
			break
		}
		legs -= n
		l.Trains = append(l.Trains, d.train(len(l.Tracks), n))
	}
	return l
}

func (d *dice) train(stations, legs int) impl.Train {
	t := impl.Train{From: d.upTo(stations), Ready: d.upTo(12), Due: d.upTo(40), Weight: 1 + d.upTo(5)}
	at := t.From
	for range legs {
		switch {
		case at == 0:
			at++
		case at == stations-1 || d.upTo(2) == 0:
			at--
		default:
			at++
		}
		t.Legs = append(t.Legs, impl.Leg{To: at, Run: 1 + d.upTo(6), Stay: d.upTo(3)})
	}
	return t
}

// order is each train as often as it has legs, shuffled; now and then one of them is another.
func (d *dice) order(l impl.Line) []int {
	var out []int
	for i, t := range l.Trains {
		out = append(out, slices.Repeat([]int{i}, len(t.Legs))...)
	}
	for i := range out {
		j := i + d.upTo(len(out)-i)
		out[i], out[j] = out[j], out[i]
	}
	if d.upTo(8) == 0 {
		out[d.upTo(len(out))] = d.upTo(len(l.Trains)+2) - 1
	}
	if d.upTo(8) == 0 {
		out = out[:d.upTo(len(out)+1)]
	}
	return out
}

// legAt is a leg with all that the document's words ask of it.
type legAt struct {
	train, leg, low, to, start, run, leaves int
}

// never stands for a leg whose next one is not placed yet.
const never = 1 << 30

func legsBegun(l impl.Line, starts [][]int) []legAt {
	var out []legAt
	for i, row := range starts {
		t := l.Trains[i]
		at := t.From
		for k, start := range row {
			x := legAt{i, k, min(at, t.Legs[k].To), t.Legs[k].To, start, t.Legs[k].Run, never}
			if k+1 < len(row) {
				x.leaves = row[k+1]
			} else if k+1 == len(t.Legs) {
				x.leaves = start + x.run
			}
			out = append(out, x)
			at = x.to
		}
	}
	return out
}

func canBegin(t impl.Train, row []int, leg int) int {
	if leg == 0 {
		return t.Ready + t.Legs[0].Stay
	}
	return row[leg-1] + t.Legs[leg-1].Run + t.Legs[leg].Stay
}

// wordsCheck is Check as its chapter tells it, for a plan that has as many rows and places as it should.
func wordsCheck(l impl.Line, p impl.Plan) impl.Clash {
	legs := legsBegun(l, p.Starts)
	for _, x := range legs {
		if x.start < canBegin(l.Trains[x.train], p.Starts[x.train], x.leg) {
			return impl.Clash{Code: 2, Train: x.train, Leg: x.leg}
		}
	}
	for _, x := range legs {
		for _, y := range legs {
			if y.train != x.train && y.low == x.low &&
				(y.start < x.start || y.start == x.start && y.train < x.train) &&
				x.start < y.start+y.run+l.Gap {
				return impl.Clash{Code: 3, Train: x.train, Leg: x.leg, With: y.train}
			}
		}
	}
	for _, x := range legs {
		n := 1
		for _, y := range legs {
			itself := y.train == x.train && y.leg == x.leg
			if !itself && y.to == x.to && (y.start < x.start || y.start == x.start && y.train <= x.train) && y.leaves >= x.start {
				n++
			}
		}
		if n > l.Tracks[x.to] {
			return impl.Clash{Code: 4, Train: x.train, Leg: x.leg}
		}
	}
	return impl.Clash{}
}

// tickByTick asks in each tick who has each track, and how many have one of each station.
func tickByTick(l impl.Line, p impl.Plan) bool {
	legs := legsBegun(l, p.Starts)
	last := 0
	for _, x := range legs {
		if x.start < canBegin(l.Trains[x.train], p.Starts[x.train], x.leg) {
			return false
		}
		last = max(last, x.start+x.run+l.Gap)
	}
	for tick := range last + 1 {
		has := make([]int, len(l.Tracks))
		room := slices.Clone(l.Tracks)
		for _, x := range legs {
			if x.start <= tick && tick < x.start+x.run+l.Gap {
				if has[x.low] != 0 && has[x.low] != x.train+1 {
					return false
				}
				has[x.low] = x.train + 1
			}
			if x.start <= tick && tick <= x.leaves {
				room[x.to]--
			}
		}
		if slices.Min(room) < 0 {
			return false
		}
	}
	return true
}

// beyond is behind all that a line of the dice can ask for.
const beyond = 1000

// wordsPlace is Place as its chapter tells it: it tries one tick after the other.
func wordsPlace(l impl.Line, order []int) impl.Placed {
	starts := make([][]int, len(l.Trains))
	latest := 0
	for at, i := range order {
		if i < 0 || i >= len(l.Trains) || len(starts[i]) == len(l.Trains[i].Legs) {
			return impl.Placed{Code: 2, At: at}
		}
		tick := max(latest, canBegin(l.Trains[i], starts[i], len(starts[i])))
		for tick < beyond && !isFree(l, starts, i, tick) {
			tick++
		}
		if tick == beyond {
			return impl.Placed{Code: 3, At: at}
		}
		starts[i] = append(starts[i], tick)
		latest = tick
	}
	for i, t := range l.Trains {
		if len(starts[i]) < len(t.Legs) {
			return impl.Placed{Code: 4, At: len(order)}
		}
	}
	return impl.Placed{Plan: impl.Plan{Starts: starts}}
}

func isFree(l impl.Line, starts [][]int, train, tick int) bool {
	leg := len(starts[train])
	t := l.Trains[train]
	from, to := t.From, t.Legs[leg].To
	if leg > 0 {
		from = t.Legs[leg-1].To
	}
	have := 0
	for _, y := range legsBegun(l, starts) {
		if y.train != train && y.low == min(from, to) && y.start <= tick && tick < y.start+y.run+l.Gap {
			return false
		}
		if y.to == to && y.start <= tick && tick <= y.leaves {
			have++
		}
	}
	return have < l.Tracks[to]
}

func follows(p impl.Plan, order []int) bool {
	next := make([]int, len(p.Starts))
	latest := 0
	for _, i := range order {
		start := p.Starts[i][next[i]]
		if start < latest {
			return false
		}
		latest = start
		next[i]++
	}
	return true
}

// TestPlaceByWords holds Place against its words, and its plans against Check and against each tick.
func TestPlaceByWords(t *testing.T) {
	d := dice(1)
	var codes [5]int
	for range 6000 {
		l := d.line()
		order := d.order(l)
		asWas := slices.Clone(order)
		got, want := impl.Place(l, order), wordsPlace(l, order)
		if got.Code != want.Code || got.At != want.At || !sameRows(got.Plan.Starts, want.Plan.Starts) {
			t.Fatalf("%+v, %v: %+v, want %+v", l, order, got, want)
		}
		codes[got.Code]++
		if !slices.Equal(order, asWas) {
			t.Fatal("written into")
		}
		if got.Code != 0 {
			continue
		}
		if clash := impl.Check(l, got.Plan); clash != (impl.Clash{}) || !tickByTick(l, got.Plan) {
			t.Fatalf("%+v, %v: %+v cannot be: %+v", l, order, got, clash)
		}
		if !follows(got.Plan, order) {
			t.Fatalf("%+v, %v: %+v does not follow", l, order, got)
		}
	}
	for _, code := range []int{0, 2, 3, 4} {
		if codes[code] < 100 {
			t.Errorf("code %d came only %d times", code, codes[code])
		}
	}
}

// wider is a line with, at times, a track more at each station: its plans are too much for the first.
func (d *dice) wider(l impl.Line) impl.Line {
	l.Tracks = slices.Clone(l.Tracks)
	more := d.upTo(2)
	for s := range l.Tracks {
		l.Tracks[s] += more
	}
	return l
}

// shaken moves some starts of a plan a little.
func (d *dice) shaken(p impl.Plan) impl.Plan {
	var out impl.Plan
	by := 1 + d.upTo(6)
	for _, row := range p.Starts {
		row = slices.Clone(row)
		late := 0
		for k := range row {
			if d.upTo(3) == 0 {
				late += d.upTo(by)
			}
			row[k] += late
		}
		if d.upTo(12) == 0 {
			k := d.upTo(len(row))
			row[k] = max(0, row[k]-1)
		}
		out.Starts = append(out.Starts, row)
	}
	return out
}

func copied(p impl.Plan) impl.Plan {
	var out impl.Plan
	for _, row := range p.Starts {
		out.Starts = append(out.Starts, slices.Clone(row))
	}
	return out
}

// TestCheckByWords holds Check, Arrives and Cost against their words, on plans that nearly can be.
func TestCheckByWords(t *testing.T) {
	d := dice(2)
	var codes [5]int
	for range 6000 {
		l := d.line()
		placed := wordsPlace(d.wider(l), d.order(l))
		if placed.Code != 0 {
			continue
		}
		p := d.shaken(placed.Plan)
		asWas := copied(p)
		got, want := impl.Check(l, p), wordsCheck(l, p)
		if got != want {
			t.Fatalf("%+v, %v: %+v, want %+v", l, p, got, want)
		}
		if (got == impl.Clash{}) != tickByTick(l, p) {
			t.Fatalf("%+v, %v: %+v, but not by ticks", l, p, got)
		}
		codes[got.Code]++
		wantCost := 0
		for i, x := range l.Trains {
			last := len(x.Legs) - 1
			end := p.Starts[i][last] + x.Legs[last].Run
			if arrives := impl.Arrives(l, p, i); arrives != end {
				t.Fatalf("%+v, %v: train %d at %d, want %d", l, p, i, arrives, end)
			}
			wantCost += x.Weight * max(0, end-x.Due)
		}
		if got.Code != 0 {
			wantCost = -1
		}
		if cost := impl.Cost(l, p); cost != wantCost {
			t.Fatalf("%+v, %v: costs %d, want %d", l, p, cost, wantCost)
		}
		if !reflect.DeepEqual(p, asWas) {
			t.Fatal("written into")
		}
	}
	for _, code := range []int{0, 2, 3, 4} {
		if codes[code] < 100 {
			t.Errorf("code %d came only %d times", code, codes[code])
		}
	}
}
