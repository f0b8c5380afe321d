package impl

import (
	"errors"
	"iter"
	"strconv"
)

const (
	MaxStations = 12
	MaxTrains   = 5
	MaxLegs     = 10
	MaxTime     = 100000
)

const (
	minStations = 2
	maxTracks   = 10
	maxWeight   = 100
	maxTicks    = 10000 // of a gap, a run or a stay
)

// The codes of a fault; the first is looked for first.
const (
	sizeFault   = 1
	tracksFault = 2
	trainFault  = 3
)

// Leg is a train's run from its station to a station beside it: how long it takes, and how long the train stays ahead of it at least.
type Leg struct {
	To   int
	Run  int
	Stay int
}

// Train begins at a station, not ahead of a time; it should be at its end at a time, and each tick later weighs so much.
type Train struct {
	From   int
	Ready  int
	Due    int
	Weight int
	Legs   []Leg
}

// Line is stations in a row, each with so many tracks, one track between each two, and how long that is not another's behind a train.
type Line struct {
	Tracks []int
	Gap    int
	Trains []Train
}

// Fault is what is wrong with a line, and with which station or train.
type Fault struct {
	Code int
	At   int
}

// faultError lets a check hand its fault up as an error without losing the place.
type faultError struct {
	fault Fault
}

func (e faultError) Error() string {
	return "line: fault " + strconv.Itoa(e.fault.Code) + " at " + strconv.Itoa(e.fault.At)
}

// LineOk answers the zero value for a line that is right, else its first fault.
func LineOk(l Line) Fault {
	var found faultError
	if errors.As(lineError(l), &found) {
		return found.fault
	}
	return Fault{}
}

// Alone answers when a train would be at its end if it were alone, or -1.
func Alone(l Line, train int) int {
	if !isRight(l) || !within(train, 0, len(l.Trains)-1) {
		return -1
	}
	return endAlone(l.Trains[train])
}

// Least answers what the lateness of all trains costs, each alone, or -1.
func Least(l Line) int {
	if !isRight(l) {
		return -1
	}
	return sum(each(l.Trains, costAlone))
}

func isRight(l Line) bool {
	return LineOk(l) == Fault{}
}

// lineError asks in the order of the codes, so that the first error is the first fault.
func lineError(l Line) error {
	if err := sizeError(l); err != nil {
		return err
	}
	if err := tracksError(l.Tracks); err != nil {
		return err
	}
	return trainsError(l)
}

func sizeError(l Line) error {
	if within(len(l.Tracks), minStations, MaxStations) &&
		within(l.Gap, 0, maxTicks) &&
		len(l.Trains) <= MaxTrains &&
		sum(each(l.Trains, countLegs)) <= MaxLegs {
		return nil
	}
	return faultError{Fault{Code: sizeFault}}
}

func tracksError(tracks []int) error {
	for station, n := range tracks {
		if !within(n, 1, maxTracks) {
			return faultError{Fault{Code: tracksFault, At: station}}
		}
	}
	return nil
}

func trainsError(l Line) error {
	for i, t := range l.Trains {
		if !trainOk(t, len(l.Tracks)) {
			return faultError{Fault{Code: trainFault, At: i}}
		}
	}
	return nil
}

func trainOk(t Train, stations int) bool {
	return within(t.From, 0, stations-1) &&
		within(t.Ready, 0, MaxTime) &&
		within(t.Due, 0, MaxTime) &&
		within(t.Weight, 1, maxWeight) &&
		len(t.Legs) > 0 &&
		legsOk(t, stations)
}

func legsOk(t Train, stations int) bool {
	at := t.From
	for _, leg := range t.Legs {
		if !within(leg.To, 0, stations-1) || !beside(at, leg.To) ||
			!within(leg.Run, 1, maxTicks) || !within(leg.Stay, 0, maxTicks) {
			return false
		}
		at = leg.To
	}
	return true
}

func within(n, low, high int) bool {
	return low <= n && n <= high
}

// beside is asked of stations that there are: at other numbers a difference could wrap round.
func beside(a, b int) bool {
	return a-b == 1 || b-a == 1
}

func countLegs(t Train) int {
	return len(t.Legs)
}

func legTicks(leg Leg) int {
	return leg.Stay + leg.Run
}

func endAlone(t Train) int {
	return t.Ready + sum(each(t.Legs, legTicks))
}

func costAlone(t Train) int {
	return lateness(t, endAlone(t))
}

// lateness is what it costs that a train is at its end then; to be there ahead of Due earns nothing.
func lateness(t Train, end int) int {
	return t.Weight * max(0, end-t.Due)
}

// each goes through a list by one number of each of its elements.
func each[T any](list []T, number func(T) int) iter.Seq[int] {
	return func(yield func(int) bool) {
		for _, x := range list {
			if !yield(number(x)) {
				return
			}
		}
	}
}

func sum(numbers iter.Seq[int]) int {
	total := 0
	for n := range numbers {
		total += n
	}
	return total
}
