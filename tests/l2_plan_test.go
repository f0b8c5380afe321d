package tests

import (
	"math"
	"reflect"
	"slices"
	"strconv"
	"testing"

	"loop.example/stringline/impl"
)

// upAndDown has A up from 0 and B down from 2, and room for both at 1. A can begin at 6 and 12 behind that, B at 4 and 6 behind that.
func upAndDown() impl.Line {
	return impl.Line{Tracks: []int{1, 2, 1}, Gap: 3, Trains: []impl.Train{
		{From: 0, Ready: 5, Due: 20, Weight: 2, Legs: []impl.Leg{{To: 1, Run: 10, Stay: 1}, {To: 2, Run: 8, Stay: 2}}},
		{From: 2, Ready: 0, Due: 30, Weight: 7, Legs: []impl.Leg{{To: 1, Run: 6, Stay: 4}, {To: 0, Run: 9}}},
	}}
}

// behind has so many trains up from 0 over 1 to 2, with a long stay at 1, and so many tracks at 1.
func behind(trains, tracks, gap int) impl.Line {
	l := impl.Line{Tracks: []int{1, tracks, 5}, Gap: gap}
	for range trains {
		l.Trains = append(l.Trains, impl.Train{Weight: 1, Legs: []impl.Leg{{To: 1, Run: 5}, {To: 2, Run: 4, Stay: 20}}})
	}
	return l
}

// backAndForth has A at 0, 1, 0 and 1 again, B from 2 to its end at 1, where there is one track.
func backAndForth() impl.Line {
	return impl.Line{Tracks: []int{1, 1, 1}, Gap: 100, Trains: []impl.Train{
		{Weight: 1, Legs: []impl.Leg{{To: 1, Run: 10}, {To: 0, Run: 10}, {To: 1, Run: 10}}},
		{From: 2, Weight: 1, Legs: []impl.Leg{{To: 1, Run: 5}}},
	}}
}

// oneLeg has trains of one leg each, that all can begin at 0.
func oneLeg(tracks []int, gap int, ways ...[2]int) impl.Line {
	l := impl.Line{Tracks: tracks, Gap: gap}
	for _, w := range ways {
		l.Trains = append(l.Trains, impl.Train{From: w[0], Weight: 1, Legs: []impl.Leg{{To: w[1], Run: 10}}})
	}
	return l
}

func plan(rows ...[]int) impl.Plan {
	return impl.Plan{Starts: rows}
}

type checkCase struct {
	name string
	l    impl.Line
	p    impl.Plan
	want impl.Clash
}

func runCheckCases(t *testing.T, cases []checkCase) {
	t.Helper()
	for _, c := range cases {
		t.Run(c.name, func(t *testing.T) {
			if got := impl.Check(c.l, c.p); got != c.want {
				t.Errorf("Check: %+v, want %+v", got, c.want)
			}
			if got := impl.Cost(c.l, c.p); (got == -1) != (c.want != impl.Clash{}) || got < -1 {
				t.Errorf("Cost: %d", got)
			}
			for i := range c.l.Trains {
				if got := impl.Arrives(c.l, c.p, i); (got == -1) != (c.want.Code == 1) || got < -1 {
					t.Errorf("Arrives %d: %d", i, got)
				}
			}
		})
	}
}

func TestCheckSoonest(t *testing.T) {
	can := impl.Clash{}
	l := upAndDown()
	runCheckCases(t, []checkCase{
		{"all as soon as they can", l, plan([]int{6, 18}, []int{4, 19}), can},
		{"all later", l, plan([]int{106, 118}, []int{104, 119}), can},
		{"first leg one ahead", l, plan([]int{5, 18}, []int{4, 19}), impl.Clash{Code: 2}},
		{"second leg one ahead", l, plan([]int{6, 17}, []int{4, 19}), impl.Clash{Code: 2, Leg: 1}},
		{"first leg later, second one ahead of that", l, plan([]int{7, 18}, []int{4, 20}), impl.Clash{Code: 2, Leg: 1}},
		{"first leg of the second train one ahead", l, plan([]int{6, 18}, []int{3, 19}), impl.Clash{Code: 2, Train: 1}},
		{"second leg of the second train just then", l, plan([]int{22, 34}, []int{4, 10}), can},
		{"second leg of the second train one ahead", l, plan([]int{22, 34}, []int{4, 9}), impl.Clash{Code: 2, Train: 1, Leg: 1}},
		{"second leg ahead of the first", l, plan([]int{50, 20}, []int{4, 10}), impl.Clash{Code: 2, Leg: 1}},
		{"legs at once", l, plan([]int{50, 50}, []int{4, 10}), impl.Clash{Code: 2, Leg: 1}},
	})
}

func TestCheckTracks(t *testing.T) {
	can := impl.Clash{}
	wide := []int{9, 9, 9}
	meet, follow := oneLeg(wide, 3, [2]int{0, 1}, [2]int{1, 0}), oneLeg(wide, 3, [2]int{0, 1}, [2]int{0, 1})
	apart := oneLeg(wide, 3, [2]int{0, 1}, [2]int{1, 2})
	three := oneLeg(wide, 3, [2]int{0, 1}, [2]int{1, 0}, [2]int{0, 1})
	var cases []checkCase
	for name, l := range map[string]impl.Line{"meet": meet, "follow": follow} {
		cases = append(cases,
			checkCase{name + ", run and gap have passed", l, plan([]int{0}, []int{13}), can},
			checkCase{name + ", one tick ahead", l, plan([]int{0}, []int{12}), impl.Clash{Code: 3, Train: 1}},
			checkCase{name + ", the lower behind", l, plan([]int{13}, []int{0}), can},
			checkCase{name + ", the lower behind, one tick ahead", l, plan([]int{12}, []int{0}), impl.Clash{Code: 3, With: 1}},
			checkCase{name + ", at once", l, plan([]int{7}, []int{7}), impl.Clash{Code: 3, Train: 1}},
			checkCase{name + ", one tick behind", l, plan([]int{7}, []int{8}), impl.Clash{Code: 3, Train: 1}},
		)
	}
	none := oneLeg(wide, 0, [2]int{0, 1}, [2]int{1, 0})
	runCheckCases(t, append(cases, []checkCase{
		{"gap 0, run has passed", none, plan([]int{0}, []int{10}), can},
		{"gap 0, one tick ahead", none, plan([]int{0}, []int{9}), impl.Clash{Code: 3, Train: 1}},
		{"gap 0, at once", none, plan([]int{0}, []int{0}), impl.Clash{Code: 3, Train: 1}},
		{"two tracks at once", apart, plan([]int{0}, []int{0}), can},
		{"the first such train", three, plan([]int{9}, []int{8}, []int{7}), impl.Clash{Code: 3, With: 1}},
		{"not one that began later", three, plan([]int{9}, []int{10}, []int{8}), impl.Clash{Code: 3, With: 2}},
		{"not one that has passed", three, plan([]int{20}, []int{7}, []int{19}), impl.Clash{Code: 3, With: 2}},
		{"all at once", three, plan([]int{0}, []int{0}, []int{0}), impl.Clash{Code: 3, Train: 1}},
		{"the last with the lower one at once", three, plan([]int{50}, []int{0}, []int{0}), impl.Clash{Code: 3, Train: 2, With: 1}},
		{"its own train asks for no gap", backAndForth(), plan([]int{0, 10, 20}, []int{50}), can},
		{"one that came twice, its second leg", upAndDownTwice(), plan([]int{0, 10}, []int{122}), impl.Clash{Code: 3, Train: 1}},
		{"one that came twice, passed", upAndDownTwice(), plan([]int{0, 10}, []int{123}), can},
	}...))
}

// upAndDownTwice has A on the track between 0 and 1 there and back, and B behind it, with a gap of 100.
func upAndDownTwice() impl.Line {
	l := oneLeg([]int{2, 2}, 100, [2]int{0, 1}, [2]int{0, 1})
	l.Trains[0].Legs = append(l.Trains[0].Legs, impl.Leg{To: 0, Run: 13})
	return l
}

func TestCheckStations(t *testing.T) {
	can := impl.Clash{}
	narrow := upAndDown()
	narrow.Tracks[1] = 1
	both := func(tracks int) impl.Line { return oneLeg([]int{1, tracks, 1}, 0, [2]int{0, 1}, [2]int{2, 1}) }
	runCheckCases(t, []checkCase{
		{"just full", upAndDown(), plan([]int{6, 18}, []int{4, 19}), can},
		{"one too many, the lower came later", narrow, plan([]int{6, 18}, []int{4, 19}), impl.Clash{Code: 4}},
		{"one too many, the lower came first", narrow, plan([]int{6, 18}, []int{7, 19}), impl.Clash{Code: 4, Train: 1}},
		{"at once, just full", both(2), plan([]int{5}, []int{5}), can},
		{"at once, one too many", both(1), plan([]int{5}, []int{5}), impl.Clash{Code: 4, Train: 1}},
		{"left with the next leg ahead of this tick", behind(2, 1, 0), plan([]int{0, 25}, []int{26, 51}), can},
		{"left with the next leg in this tick", behind(2, 1, 0), plan([]int{0, 25}, []int{25, 50}), impl.Clash{Code: 4, Train: 1}},
		{"left by the higher in this tick", behind(2, 1, 0), plan([]int{25, 50}, []int{0, 25}), impl.Clash{Code: 4}},
		{"left at the end ahead of this tick", both(1), plan([]int{0}, []int{11}), can},
		{"left at the end in this tick", both(1), plan([]int{0}, []int{10}), impl.Clash{Code: 4, Train: 1}},
		{"three, just full", behind(3, 3, 0), plan([]int{0, 25}, []int{5, 30}, []int{10, 35}), can},
		{"three, one too many", behind(3, 2, 0), plan([]int{0, 25}, []int{5, 30}, []int{10, 35}), impl.Clash{Code: 4, Train: 2}},
		{"three, the first has left", behind(3, 2, 0), plan([]int{0, 25}, []int{5, 30}, []int{26, 51}), can},
		{"From asks for no track", oneLeg([]int{1, 1, 1}, 0, [2]int{1, 0}, [2]int{1, 2}, [2]int{0, 1}), plan([]int{30}, []int{30}, []int{0}), can},
	})
}

func TestCheckBackAtStation(t *testing.T) {
	can := impl.Clash{}
	l := backAndForth()
	runCheckCases(t, []checkCase{
		{"while the other is away", l, plan([]int{0, 10, 20}, []int{11}), can},
		{"in the tick in which it leaves", l, plan([]int{0, 10, 20}, []int{10}), impl.Clash{Code: 4, Train: 1}},
		{"the other left ahead of when it comes back", l, plan([]int{0, 10, 20}, []int{14}), can},
		{"the other leaves when it comes back", l, plan([]int{0, 10, 20}, []int{15}), impl.Clash{Code: 4, Leg: 2}},
		{"it is back at once", l, plan([]int{0, 10, 20}, []int{20}), impl.Clash{Code: 4, Train: 1}},
		{"at its end in this tick", l, plan([]int{0, 10, 20}, []int{30}), impl.Clash{Code: 4, Train: 1}},
		{"behind its end", l, plan([]int{0, 10, 20}, []int{31}), can},
	})
}

func TestCheckFirst(t *testing.T) {
	l := upAndDown()
	narrow := upAndDown()
	narrow.Tracks = []int{1, 1, 1}
	runCheckCases(t, []checkCase{
		{"a start that is none, and all others", narrow, plan([]int{0, 0}, []int{0, 1000001}), impl.Clash{Code: 1}},
		{"too soon in the last leg, and a track and a station", narrow, plan([]int{6, 18}, []int{6, 11}), impl.Clash{Code: 2, Train: 1, Leg: 1}},
		{"too soon in both trains", l, plan([]int{6, 17}, []int{3, 19}), impl.Clash{Code: 2, Leg: 1}},
		{"too soon in both legs", l, plan([]int{40, 60}, []int{3, 8}), impl.Clash{Code: 2, Train: 1}},
		{"a track in the last leg, and a station in the first", narrow, plan([]int{6, 18}, []int{4, 18}), impl.Clash{Code: 3, Train: 1, Leg: 1}},
		{"tracks in both trains", l, plan([]int{6, 18}, []int{16, 22}), impl.Clash{Code: 3, Leg: 1, With: 1}},
		{"tracks in both legs", behind(2, 5, 50), plan([]int{0, 25}, []int{10, 40}), impl.Clash{Code: 3, Train: 1}},
		{"stations in two trains", behind(3, 1, 0), plan([]int{12, 40}, []int{6, 33}, []int{0, 25}), impl.Clash{Code: 4}},
	})
}

func TestCheckShape(t *testing.T) {
	can, wrong := impl.Clash{}, impl.Clash{Code: 1}
	l := upAndDown()
	cases := []checkCase{
		{"zero values", impl.Line{}, impl.Plan{}, wrong},
		{"no plan", l, impl.Plan{}, wrong},
		{"no trains, no plan", impl.Line{Tracks: ones(2)}, impl.Plan{}, can},
		{"no trains, an empty list", impl.Line{Tracks: ones(2)}, plan(), can},
		{"no trains, a row", impl.Line{Tracks: ones(2)}, plan(nil), wrong},
		{"a row too few", l, plan([]int{6, 18}), wrong},
		{"a row too many", l, plan([]int{6, 18}, []int{4, 19}, []int{}), wrong},
		{"empty rows", l, plan(nil, nil), wrong},
		{"a place too few", l, plan([]int{6, 18}, []int{4}), wrong},
		{"a place too many", l, plan([]int{6, 18}, []int{4, 19, 40}), wrong},
		{"a place in the wrong row", l, plan([]int{6}, []int{4, 19, 40}), wrong},
	}
	spoils := map[string]func(*impl.Line){
		"size":   func(l *impl.Line) { l.Gap = 10001 },
		"tracks": func(l *impl.Line) { l.Tracks[2] = 0 },
		"train":  func(l *impl.Line) { l.Trains[1].Weight = 0 },
		"legs":   func(l *impl.Line) { l.Trains[0].Legs[1].To = 1 },
	}
	for name, spoil := range spoils {
		bad := upAndDown()
		spoil(&bad)
		cases = append(cases, checkCase{"a line that is not right: " + name, bad, plan([]int{6, 18}, []int{4, 19}), wrong})
	}
	runCheckCases(t, cases)
}

// TestCheckTicks holds a start against its limits, ahead in the first row and behind in the last.
func TestCheckTicks(t *testing.T) {
	l := oneLeg([]int{1, 1, 1}, 0, [2]int{0, 1}, [2]int{1, 2})
	wrong := impl.Clash{Code: 1}
	var cases []checkCase
	for start, want := range map[int]impl.Clash{
		0: {}, 1: {}, 1000000: {}, -1: wrong, 1000001: wrong, math.MinInt: wrong, math.MaxInt: wrong,
	} {
		name := strconv.Itoa(start)
		cases = append(cases,
			checkCase{"first " + name, l, plan([]int{start}, []int{40}), want},
			checkCase{"last " + name, l, plan([]int{40}, []int{start}), want})
	}
	late := shuttle(2)
	one := impl.Line{Tracks: ones(2), Trains: []impl.Train{late}}
	cases = append(cases,
		checkCase{"second leg at the last tick", one, plan([]int{999990, 1000000}), impl.Clash{}},
		checkCase{"second leg beyond it", one, plan([]int{999991, 1000001}), wrong})
	runCheckCases(t, cases)
}

func TestArrives(t *testing.T) {
	l := upAndDown()
	for _, c := range []struct {
		p      impl.Plan
		a, b   int
		reason string
	}{
		{plan([]int{6, 18}, []int{4, 19}), 26, 28, "a plan that can be"},
		{plan([]int{0, 1}, []int{4, 19}), 9, 28, "too soon"},
		{plan([]int{6, 18}, []int{4, 18}), 26, 27, "a track"},
		{plan([]int{50, 1000000}, []int{70, 0}), 1000008, 9, "far"},
		{plan([]int{6, 18}, []int{4}), -1, -1, "a place too few"},
		{plan([]int{6, 18}, []int{4, -1}), -1, -1, "a start that is none"},
	} {
		if a, b := impl.Arrives(l, c.p, 0), impl.Arrives(l, c.p, 1); a != c.a || b != c.b {
			t.Errorf("%s: %d %d", c.reason, a, b)
		}
		for _, i := range []int{-1, 2, math.MinInt, math.MaxInt} {
			if got := impl.Arrives(l, c.p, i); got != -1 {
				t.Errorf("%s: train %d: %d", c.reason, i, got)
			}
		}
	}
	l.Tracks[1] = 1
	if got := impl.Arrives(l, plan([]int{6, 18}, []int{4, 19}), 0); got != 26 {
		t.Errorf("a station: %d", got)
	}
	l.Gap = -1
	if got := impl.Arrives(l, plan([]int{6, 18}, []int{4, 19}), 0); got != -1 {
		t.Errorf("a line that is not right: %d", got)
	}
	if got := impl.Arrives(impl.Line{}, impl.Plan{}, 0); got != -1 {
		t.Errorf("zero values: %d", got)
	}
	if got := impl.Arrives(impl.Line{Tracks: ones(2)}, impl.Plan{}, 0); got != -1 {
		t.Errorf("no trains: %d", got)
	}
}

func TestCost(t *testing.T) {
	narrow := upAndDown()
	narrow.Tracks[1] = 1
	wrong := upAndDown()
	wrong.Trains[0].Ready = -1
	for _, c := range []struct {
		name string
		l    impl.Line
		p    impl.Plan
		want int
	}{
		{"one late, one ahead of Due", upAndDown(), plan([]int{6, 18}, []int{4, 19}), 2 * 6},
		{"one late, one just then", upAndDown(), plan([]int{6, 18}, []int{4, 21}), 2 * 6},
		{"both late", upAndDown(), plan([]int{6, 19}, []int{4, 22}), 2*7 + 7*1},
		{"much too late", upAndDown(), plan([]int{6, 1000000}, []int{4, 19}), 2 * 999988},
		{"no trains", impl.Line{Tracks: ones(2)}, impl.Plan{}, 0},
		{"zero values", impl.Line{}, impl.Plan{}, -1},
		{"no plan", upAndDown(), impl.Plan{}, -1},
		{"a line that is not right", wrong, plan([]int{6, 18}, []int{4, 19}), -1},
		{"too soon", upAndDown(), plan([]int{6, 17}, []int{4, 19}), -1},
		{"a track", upAndDown(), plan([]int{6, 18}, []int{4, 18}), -1},
		{"a station", narrow, plan([]int{6, 18}, []int{4, 19}), -1},
	} {
		if got := impl.Cost(c.l, c.p); got != c.want {
			t.Errorf("%s: %d, want %d", c.name, got, c.want)
		}
	}
}

func TestPlaceOrders(t *testing.T) {
	narrow := upAndDown()
	narrow.Tracks[1] = 1
	two := behind(3, 2, 3)
	for _, c := range []struct {
		name  string
		l     impl.Line
		order []int
		want  [][]int
	}{
		{"A, B, B, A", upAndDown(), []int{0, 1, 1, 0}, [][]int{{6, 19}, {6, 19}}},
		{"B, A, A, B", upAndDown(), []int{1, 0, 0, 1}, [][]int{{6, 18}, {4, 19}}},
		{"A, then B", upAndDown(), []int{0, 0, 1, 1}, [][]int{{6, 18}, {29, 35}}},
		{"B, then A", upAndDown(), []int{1, 1, 0, 0}, [][]int{{22, 34}, {4, 10}}},
		{"one track, A, then B", narrow, []int{0, 0, 1, 1}, [][]int{{6, 18}, {29, 35}}},
		{"not ahead of the one before", oneLeg([]int{1, 1, 1}, 0, [2]int{0, 1}, [2]int{1, 2}, [2]int{2, 1}), []int{0, 2, 1}, [][]int{{0}, {21}, {11}}},
		{"at once, the higher first", oneLeg([]int{1, 2, 1}, 0, [2]int{0, 1}, [2]int{2, 1}), []int{1, 0}, [][]int{{0}, {0}}},
		{"a track taken at once, the higher first", oneLeg([]int{9, 9}, 3, [2]int{0, 1}, [2]int{0, 1}), []int{1, 0}, [][]int{{13}, {0}}},
		{"behind one that leaves", behind(2, 1, 0), []int{0, 0, 1, 1}, [][]int{{0, 25}, {26, 51}}},
		{"behind one that is at its end", oneLeg([]int{1, 1, 1}, 0, [2]int{0, 1}, [2]int{2, 1}), []int{0, 1}, [][]int{{0}, {11}}},
		{"room for two of three", two, []int{0, 1, 0, 2, 1, 2}, [][]int{{0, 25}, {8, 33}, {26, 51}}},
		{"two leave ahead of the third", two, []int{0, 1, 0, 1, 2, 2}, [][]int{{0, 25}, {8, 33}, {33, 58}}},
		{"its own gap is none", backAndForth(), []int{0, 0, 0, 1}, [][]int{{0, 10, 20}, {31}}},
		{"while the other is away", backAndForth(), []int{0, 0, 1, 0}, [][]int{{0, 10, 20}, {11}}},
		{"back when the other has left", backAndForth(), []int{1, 0, 0, 0}, [][]int{{6, 16, 26}, {0}}},
		{"those that left first make room first", manyEnds(), []int{0, 0, 1, 2, 3, 4, 0}, [][]int{{0, 2, 20}, {2}, {3}, {6}, {20}}},
		{"no trains", impl.Line{Tracks: ones(2)}, nil, nil},
	} {
		got := impl.Place(c.l, c.order)
		if got.Code != 0 || got.At != 0 || !sameRows(got.Plan.Starts, c.want) {
			t.Errorf("%s: %+v, want %v", c.name, got, c.want)
		}
		if clash := impl.Check(c.l, got.Plan); clash != (impl.Clash{}) {
			t.Errorf("%s: %+v", c.name, clash)
		}
	}
}

// manyEnds has all four tracks of station 1 taken, in an order that is not that in which they are left; at 20 there is room for two more.
func manyEnds() impl.Line {
	l := oneLeg([]int{1, 4, 1}, 0, [2]int{0, 1}, [2]int{2, 1}, [2]int{0, 1}, [2]int{0, 1}, [2]int{2, 1})
	for i, run := range []int{2, 18, 3, 14, 1} {
		l.Trains[i].Legs[0].Run = run
	}
	l.Trains[0].Legs = append(l.Trains[0].Legs, impl.Leg{To: 0, Run: 1}, impl.Leg{To: 1, Run: 1})
	return l
}

func sameRows(a, b [][]int) bool {
	return slices.EqualFunc(a, b, slices.Equal[[]int])
}

func TestPlaceCodes(t *testing.T) {
	narrow := upAndDown()
	narrow.Tracks[1] = 1
	wrong := upAndDown()
	wrong.Trains[1].Due = 100001
	noTrains := impl.Line{Tracks: ones(2)}
	for _, c := range []struct {
		name     string
		l        impl.Line
		order    []int
		code, at int
	}{
		{"zero values", impl.Line{}, nil, 1, 0},
		{"a line that is not right", wrong, []int{0, 1, 1, 0}, 1, 0},
		{"a line that is not right, no such train", wrong, []int{0, 7}, 1, 0},
		{"more than 10", upAndDown(), slices.Repeat([]int{0}, 11), 1, 0},
		{"more than 10, first no such train", upAndDown(), slices.Repeat([]int{-1}, 11), 1, 0},
		{"just 10, too often", upAndDown(), slices.Repeat([]int{0}, 10), 2, 2},
		{"no such train", upAndDown(), []int{0, 2, 1, 0}, 2, 1},
		{"a train below 0", upAndDown(), []int{-1}, 2, 0},
		{"the least number", upAndDown(), []int{0, 0, math.MinInt}, 2, 2},
		{"the greatest number", upAndDown(), []int{0, 0, 1, math.MaxInt}, 2, 3},
		{"once too often", upAndDown(), []int{1, 1, 0, 1}, 2, 3},
		{"once too often, behind all", upAndDown(), []int{0, 1, 1, 0, 0}, 2, 4},
		{"no trains, one asked for", noTrains, []int{0}, 2, 0},
		{"no trains, no order", noTrains, nil, 0, 0},
		{"full for ever", narrow, []int{0, 1, 1, 0}, 3, 1},
		{"full for ever, the other first", narrow, []int{1, 0, 0, 1}, 3, 1},
		{"room for two of three", behind(3, 2, 3), []int{2, 1, 0}, 3, 2},
		{"full for ever by one, the other leaves", behind(3, 2, 0), []int{0, 1, 0, 2, 2, 1}, 0, 0},
		{"the first place that cannot be", narrow, []int{0, 1, 7}, 3, 1},
		{"the first place that cannot be, no such train", narrow, []int{0, 7, 1}, 2, 1},
		{"no order", upAndDown(), nil, 4, 0},
		{"an empty order", upAndDown(), []int{}, 4, 0},
		{"a leg left", upAndDown(), []int{0, 1, 1}, 4, 3},
		{"a train left", upAndDown(), []int{1, 1}, 4, 2},
		{"legs left, but no such train", upAndDown(), []int{5}, 2, 0},
		{"legs left, but full for ever", narrow, []int{0, 1}, 3, 1},
	} {
		got := impl.Place(c.l, c.order)
		if got.Code != c.code || got.At != c.at {
			t.Errorf("%s: %+v, want %d %d", c.name, got, c.code, c.at)
		}
		if c.code != 0 && got.Plan.Starts != nil {
			t.Errorf("%s: a plan beside a code: %v", c.name, got.Plan)
		}
	}
}

// TestPlaceTen places as many legs as there may be, of one train and of five.
func TestPlaceTen(t *testing.T) {
	one := impl.Line{Tracks: ones(2), Gap: 10000, Trains: shuttles(10)}
	got := impl.Place(one, make([]int, 10))
	if got.Code != 0 || !sameRows(got.Plan.Starts, [][]int{{0, 10, 20, 30, 40, 50, 60, 70, 80, 90}}) {
		t.Errorf("one train: %+v", got)
	}
	five := impl.Line{Tracks: []int{10, 10}, Gap: 4, Trains: shuttles(2, 2, 2, 2, 2)}
	got = impl.Place(five, []int{4, 3, 2, 1, 0, 0, 1, 2, 3, 4})
	if got.Code != 0 || !sameRows(got.Plan.Starts, [][]int{{56, 66}, {42, 80}, {28, 94}, {14, 108}, {0, 122}}) {
		t.Errorf("five trains: %+v", got)
	}
	for _, l := range []impl.Line{one, five} {
		if got := impl.Place(l, make([]int, 11)); got.Code != 1 || got.At != 0 || got.Plan.Starts != nil {
			t.Errorf("eleven: %+v", got)
		}
	}
}

// TestPlaceGreatest meets all limits at once: the plan must still be one that can be.
func TestPlaceGreatest(t *testing.T) {
	l := impl.Line{Tracks: []int{1, 1}, Gap: 10000}
	for range 5 {
		x := impl.Train{Ready: 100000, Weight: 100}
		x.Legs = []impl.Leg{{To: 1, Run: 10000, Stay: 10000}, {To: 0, Run: 10000, Stay: 10000}}
		l.Trains = append(l.Trains, x)
	}
	got := impl.Place(l, []int{0, 0, 1, 1, 2, 2, 3, 3, 4, 4})
	if got.Code != 0 || impl.Check(l, got.Plan) != (impl.Clash{}) {
		t.Fatal(got)
	}
	// Each begins when the one before it has run its second leg and the gap has passed.
	if want := []int{270000, 290000}; !slices.Equal(got.Plan.Starts[4], want) {
		t.Errorf("last: %v, want %v", got.Plan.Starts[4], want)
	}
	if cost := impl.Cost(l, got.Plan); cost != 100*(140000+180000+220000+260000+300000) {
		t.Errorf("cost: %d", cost)
	}
}

// spoilRows writes over rows, as far as their memory goes; none may change by another's.
func spoilRows(t *testing.T, rows [][]int) {
	t.Helper()
	for i, row := range rows {
		whole := row[:cap(row)]
		for k := range whole {
			whole[k] = -7
		}
		for _, other := range rows[i+1:] {
			if slices.Contains(other, -7) {
				t.Error("two rows share memory")
			}
		}
	}
}

// TestPlansOfTheirOwn: nothing is written into an argument, and an answer shares nothing with one, nor do its rows with one another.
func TestPlansOfTheirOwn(t *testing.T) {
	l, p, order := upAndDown(), plan([]int{6, 18}, []int{4, 19}), []int{1, 0, 0, 1}
	narrow := upAndDown()
	narrow.Tracks[1] = 1
	use := func() impl.Placed {
		impl.Check(l, p)
		impl.Check(narrow, p)
		impl.Arrives(l, p, 1)
		impl.Cost(l, p)
		impl.Place(narrow, order)
		return impl.Place(l, order)
	}
	first := use()
	spoilRows(t, first.Plan.Starts)
	if second := use(); !sameRows(second.Plan.Starts, [][]int{{6, 18}, {4, 19}}) {
		t.Errorf("another answer: %+v", second)
	}
	narrow.Tracks[1] = 2
	if !reflect.DeepEqual(l, upAndDown()) || !reflect.DeepEqual(narrow, upAndDown()) ||
		!sameRows(p.Starts, [][]int{{6, 18}, {4, 19}}) || !slices.Equal(order, []int{1, 0, 0, 1}) {
		t.Error("written into")
	}
}
