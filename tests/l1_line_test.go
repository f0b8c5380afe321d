package tests

import (
	"math"
	"reflect"
	"slices"
	"strconv"
	"testing"

	"loop.example/stringline/impl"
)

// shuttle goes between stations 0 and 1, with so many legs.
func shuttle(legs int) impl.Train {
	t := impl.Train{Due: 50, Weight: 1}
	for i := range legs {
		t.Legs = append(t.Legs, impl.Leg{To: (i + 1) % 2, Run: 10})
	}
	return t
}

// fourStations is a right line: one train up, one down, one that turns back.
func fourStations() impl.Line {
	return impl.Line{Tracks: []int{1, 2, 3, 4}, Gap: 5, Trains: []impl.Train{
		{From: 0, Ready: 7, Due: 60, Weight: 3, Legs: []impl.Leg{{To: 1, Run: 10, Stay: 1}, {To: 2, Run: 20, Stay: 2}, {To: 3, Run: 30, Stay: 4}}},
		{From: 3, Ready: 0, Due: 100, Weight: 5, Legs: []impl.Leg{{To: 2, Run: 11}, {To: 1, Run: 12}}},
		{From: 1, Ready: 40, Due: 55, Weight: 2, Legs: []impl.Leg{{To: 2, Run: 8}, {To: 1, Run: 9, Stay: 3}}},
	}}
}

func ones(n int) []int {
	return slices.Repeat([]int{1}, n)
}

func shuttles(legs ...int) []impl.Train {
	var out []impl.Train
	for _, n := range legs {
		out = append(out, shuttle(n))
	}
	return out
}

// TestLimits: the tests below write the document's numbers out, so the constants are held against them here.
func TestLimits(t *testing.T) {
	got := []int{impl.MaxStations, impl.MaxTrains, impl.MaxLegs, impl.MaxTime}
	if !slices.Equal(got, []int{12, 5, 10, 100000}) {
		t.Error(got)
	}
}

type lineCase struct {
	name  string
	spoil func(l *impl.Line)
	want  impl.Fault
}

func runLineCases(t *testing.T, cases []lineCase) {
	t.Helper()
	for _, c := range cases {
		t.Run(c.name, func(t *testing.T) {
			l := fourStations()
			c.spoil(&l)
			if got := impl.LineOk(l); got != c.want {
				t.Errorf("LineOk: %v, want %v", got, c.want)
			}
			wrong := c.want != impl.Fault{}
			if got := impl.Least(l); (got == -1) != wrong || got < -1 {
				t.Errorf("Least: %d", got)
			}
			for i := range l.Trains {
				if got := impl.Alone(l, i); (got == -1) != wrong || got < -1 {
					t.Errorf("Alone %d: %d", i, got)
				}
			}
		})
	}
}

func TestLineSize(t *testing.T) {
	right, wrong := impl.Fault{}, impl.Fault{Code: 1}
	onlyStations := func(n int) func(*impl.Line) {
		return func(l *impl.Line) { *l = impl.Line{Tracks: ones(n), Trains: shuttles(2)} }
	}
	gap := func(n int) func(*impl.Line) { return func(l *impl.Line) { l.Gap = n } }
	trains := func(legs ...int) func(*impl.Line) {
		return func(l *impl.Line) { l.Trains = shuttles(legs...) }
	}
	runLineCases(t, []lineCase{
		{"as it is", func(*impl.Line) {}, right},
		{"zero value", func(l *impl.Line) { *l = impl.Line{} }, wrong},
		{"no station", onlyStations(0), wrong},
		{"1 station", onlyStations(1), wrong},
		{"2 stations", onlyStations(2), right},
		{"12 stations", onlyStations(12), right},
		{"13 stations", onlyStations(13), wrong},
		{"gap -1", gap(-1), wrong},
		{"gap 0", gap(0), right},
		{"gap 10000", gap(10000), right},
		{"gap 10001", gap(10001), wrong},
		{"least gap", gap(math.MinInt), wrong},
		{"greatest gap", gap(math.MaxInt), wrong},
		{"no train", trains(), right},
		{"1 train", trains(1), right},
		{"5 trains", trains(1, 1, 1, 1, 1), right},
		{"6 trains", trains(1, 1, 1, 1, 1, 1), wrong},
		{"6 trains without legs", trains(0, 0, 0, 0, 0, 0), wrong},
		{"10 legs of one train", trains(10), right},
		{"11 legs of one train", trains(11), wrong},
		{"10 legs in all", trains(1, 3, 2, 2, 2), right},
		{"11 legs in all", trains(1, 3, 2, 3, 2), wrong},
	})
}

func TestLineTracks(t *testing.T) {
	var cases []lineCase
	for _, station := range []int{0, 1, 3} {
		wrong := impl.Fault{Code: 2, At: station}
		for n, want := range map[int]impl.Fault{
			1: {}, 10: {}, 0: wrong, 11: wrong, -1: wrong, math.MinInt: wrong, math.MaxInt: wrong,
		} {
			name := "station " + strconv.Itoa(station) + " with " + strconv.Itoa(n)
			cases = append(cases, lineCase{name, func(l *impl.Line) { l.Tracks[station] = n }, want})
		}
	}
	runLineCases(t, cases)
}

// TestTrainNumbers holds each number of a train against its limits, in the first train and in the last.
func TestTrainNumbers(t *testing.T) {
	fields := []struct {
		name      string
		low, high int
		of        func(t *impl.Train) *int
	}{
		{"ready", 0, 100000, func(t *impl.Train) *int { return &t.Ready }},
		{"due", 0, 100000, func(t *impl.Train) *int { return &t.Due }},
		{"weight", 1, 100, func(t *impl.Train) *int { return &t.Weight }},
		{"first run", 1, 10000, func(t *impl.Train) *int { return &t.Legs[0].Run }},
		{"last run", 1, 10000, func(t *impl.Train) *int { return &t.Legs[len(t.Legs)-1].Run }},
		{"first stay", 0, 10000, func(t *impl.Train) *int { return &t.Legs[0].Stay }},
		{"last stay", 0, 10000, func(t *impl.Train) *int { return &t.Legs[len(t.Legs)-1].Stay }},
	}
	var cases []lineCase
	for _, f := range fields {
		for _, train := range []int{0, 2} {
			wrong := impl.Fault{Code: 3, At: train}
			for n, want := range map[int]impl.Fault{
				f.low: {}, f.high: {}, f.low - 1: wrong, f.high + 1: wrong, math.MinInt: wrong, math.MaxInt: wrong,
			} {
				name := f.name + " " + strconv.Itoa(n) + " of train " + strconv.Itoa(train)
				cases = append(cases, lineCase{name, func(l *impl.Line) { *f.of(&l.Trains[train]) = n }, want})
			}
		}
	}
	runLineCases(t, cases)
}

// TestTrainWay asks where a train may begin and lead.
func TestTrainWay(t *testing.T) {
	right, wrong := impl.Fault{}, impl.Fault{Code: 3, At: 1}
	way := func(stations ...int) func(*impl.Line) {
		return func(l *impl.Line) {
			b := &l.Trains[1]
			b.From, b.Legs = stations[0], nil
			for _, to := range stations[1:] {
				b.Legs = append(b.Legs, impl.Leg{To: to, Run: 1})
			}
		}
	}
	runLineCases(t, []lineCase{
		{"one leg up", way(0, 1), right},
		{"one leg down", way(3, 2), right},
		{"to the ends and back", way(2, 3, 2, 1, 0, 1), right},
		{"no legs", way(1), wrong},
		{"no legs, no list", func(l *impl.Line) { l.Trains[1].Legs = nil }, wrong},
		{"from -1", way(-1, 0), wrong},
		{"from one behind the last", way(4, 3), wrong},
		{"from the least number", way(math.MinInt, math.MaxInt), wrong},
		{"from the greatest number", way(math.MaxInt, math.MinInt), wrong},
		{"to -1", way(0, -1), wrong},
		{"to one behind the last", way(3, 4), wrong},
		{"to the least number", way(0, math.MinInt), wrong},
		{"to the greatest number", way(0, math.MaxInt), wrong},
		{"to where it begins", way(1, 1), wrong},
		{"to where it is then", way(0, 1, 1), wrong},
		{"to station 0 where it is then", way(1, 0, 0), wrong},
		{"over one up", way(0, 2), wrong},
		{"over one down", way(3, 1), wrong},
		{"beside where it began, not where it is", way(1, 2, 0), wrong},
		{"last leg to no station", way(1, 2, 3, 4), wrong},
		{"back to where it was", way(2, 1, 2), right},
	})
}

// TestFirstFault spoils several things at once: the code decides, then the place.
func TestFirstFault(t *testing.T) {
	runLineCases(t, []lineCase{
		{"all three", func(l *impl.Line) { l.Gap = 10001; l.Tracks[0] = 0; l.Trains[0].Weight = 0 }, impl.Fault{Code: 1}},
		{"size and a later station", func(l *impl.Line) { l.Trains = shuttles(1, 1, 1, 1, 1, 1); l.Tracks[2] = 11 }, impl.Fault{Code: 1}},
		{"size and a train", func(l *impl.Line) { l.Trains = shuttles(0, 11) }, impl.Fault{Code: 1}},
		{"a later station and an earlier train", func(l *impl.Line) { l.Tracks[3] = 0; l.Trains[0].Legs = nil }, impl.Fault{Code: 2, At: 3}},
		{"two stations", func(l *impl.Line) { l.Tracks[1] = 11; l.Tracks[2] = 0 }, impl.Fault{Code: 2, At: 1}},
		{"two trains", func(l *impl.Line) { l.Trains[1].Legs[1].Run = 0; l.Trains[2].From = -1 }, impl.Fault{Code: 3, At: 1}},
		{"all trains", func(l *impl.Line) { l.Trains = make([]impl.Train, 5) }, impl.Fault{Code: 3, At: 0}},
	})
}

func TestAlone(t *testing.T) {
	l := fourStations()
	for i, want := range []int{7 + 11 + 22 + 34, 11 + 12, 40 + 8 + 12} {
		if got := impl.Alone(l, i); got != want {
			t.Errorf("train %d: %d, want %d", i, got, want)
		}
	}
	for _, i := range []int{-1, 3, math.MinInt, math.MaxInt} {
		if got := impl.Alone(l, i); got != -1 {
			t.Errorf("train %d: %d", i, got)
		}
	}
	l.Trains = nil
	if got := impl.Alone(l, 0); got != -1 {
		t.Errorf("no trains: %d", got)
	}
	if got := impl.Alone(impl.Line{}, 0); got != -1 {
		t.Errorf("zero value: %d", got)
	}
	// A train that is right itself has no end on a line that is not.
	l = fourStations()
	l.Trains[2].Weight = 101
	if got := impl.Alone(l, 0); got != -1 {
		t.Errorf("beside a wrong train: %d", got)
	}
}

func TestLeast(t *testing.T) {
	// The first is 74 - 60 late, the second ahead of its Due, the third 60 - 55 late.
	if got := impl.Least(fourStations()); got != 3*14+2*5 {
		t.Errorf("ordinary: %d", got)
	}
	for due, want := range map[int]int{75: 0, 74: 0, 73: 3, 72: 6, 0: 3 * 74} {
		l := fourStations()
		l.Trains = l.Trains[:1]
		l.Trains[0].Due = due
		if got := impl.Least(l); got != want {
			t.Errorf("due %d: %d, want %d", due, got, want)
		}
	}
	if got := impl.Least(impl.Line{Tracks: ones(2)}); got != 0 {
		t.Errorf("no trains: %d", got)
	}
	if got := impl.Least(impl.Line{}); got != -1 {
		t.Errorf("zero value: %d", got)
	}
}

// TestGreatest meets all limits at once.
func TestGreatest(t *testing.T) {
	l := impl.Line{Tracks: slices.Repeat([]int{10}, 12), Gap: 10000}
	for range 5 {
		x := impl.Train{From: 10, Ready: 100000, Weight: 100}
		x.Legs = []impl.Leg{{To: 11, Run: 10000, Stay: 10000}, {To: 10, Run: 10000, Stay: 10000}}
		l.Trains = append(l.Trains, x)
	}
	if got := impl.LineOk(l); got != (impl.Fault{}) {
		t.Fatal(got)
	}
	if got := impl.Alone(l, 4); got != 140000 {
		t.Error(got)
	}
	if got := impl.Least(l); got != 5*100*140000 {
		t.Error(got)
	}
}

// TestNothingWritten: the arguments stay as they were, and a second call answers the same.
func TestNothingWritten(t *testing.T) {
	wrong := fourStations()
	wrong.Trains[2].Legs[1].To = 2
	wrongAsWas := fourStations()
	wrongAsWas.Trains[2].Legs[1].To = 2
	for _, c := range []struct{ l, asWas impl.Line }{{fourStations(), fourStations()}, {wrong, wrongAsWas}} {
		fault, alone, least := impl.LineOk(c.l), impl.Alone(c.l, 1), impl.Least(c.l)
		if impl.LineOk(c.l) != fault || impl.Alone(c.l, 1) != alone || impl.Least(c.l) != least {
			t.Error("another answer")
		}
		if !reflect.DeepEqual(c.l, c.asWas) {
			t.Error("written into")
		}
	}
}
