package tests

import (
	"reflect"
	"runtime"
	"slices"
	"sync"
	"testing"
	"time"

	"loop.example/stringline/impl"
)

// solved is the best plan of a right line, held against what must hold of every one.
func solved(t *testing.T, l impl.Line) impl.Best {
	t.Helper()
	b := impl.Solve(l)
	if !b.Ok {
		t.Fatalf("%+v: no plan", l)
	}
	if clash := impl.Check(l, b.Plan); clash != (impl.Clash{}) {
		t.Fatalf("%+v: %+v cannot be: %+v", l, b, clash)
	}
	if cost := impl.Cost(l, b.Plan); cost != b.Cost {
		t.Fatalf("%+v: %+v costs %d", l, b, cost)
	}
	if least := impl.Least(l); b.Cost < least {
		t.Fatalf("%+v: %+v costs less than %d", l, b, least)
	}
	return b
}

// changed is a line of its own, changed.
func changed(l impl.Line, change func(l *impl.Line)) impl.Line {
	l.Tracks = slices.Clone(l.Tracks)
	l.Trains = slices.Clone(l.Trains)
	for i := range l.Trains {
		l.Trains[i].Legs = slices.Clone(l.Trains[i].Legs)
	}
	change(&l)
	return l
}

func allDue(due int) func(*impl.Line) {
	return func(l *impl.Line) {
		for i := range l.Trains {
			l.Trains[i].Due = due
		}
	}
}

func narrowed(l *impl.Line) {
	l.Tracks[1] = 1
}

type solveCase struct {
	name string
	l    impl.Line
	cost int
	want [][]int
}

func runSolveCases(t *testing.T, cases []solveCase) {
	t.Helper()
	for _, c := range cases {
		t.Run(c.name, func(t *testing.T) {
			got := solved(t, c.l)
			if got.Cost != c.cost || !sameRows(got.Plan.Starts, c.want) {
				t.Errorf("%+v, want %d %v", got, c.cost, c.want)
			}
		})
	}
}

func TestSolvePlans(t *testing.T) {
	wide := []int{9, 9, 9}
	weighed := changed(behind(2, 1, 0), func(l *impl.Line) { l.Trains[1].Weight = 2 })
	away := changed(backAndForth(), func(l *impl.Line) { l.Trains[0].Weight = 10 })
	runSolveCases(t, []solveCase{
		{"no trains", impl.Line{Tracks: ones(2)}, 0, nil},
		{"one train", changed(upAndDown(), func(l *impl.Line) { l.Trains = l.Trains[:1] }), 12, [][]int{{6, 18}}},
		{"one train, ahead of Due", changed(upAndDown(), func(l *impl.Line) { l.Trains = l.Trains[1:] }), 0, [][]int{{4, 10}}},
		{"in nobody's way", oneLeg(wide, 3, [2]int{0, 1}, [2]int{1, 2}), 20, [][]int{{0}, {0}}},
		{"meet where there is room", upAndDown(), 12, [][]int{{6, 18}, {4, 19}}},
		// By the other order the first would not be later than alone, but the second weighs more.
		{"one waits until the other is through", changed(upAndDown(), narrowed), 44, [][]int{{22, 34}, {4, 10}}},
		{"meet on one track, run and gap", oneLeg(wide, 3, [2]int{0, 1}, [2]int{1, 0}), 10 + 23, [][]int{{0}, {13}}},
		{"meet on one track, gap 0", oneLeg(wide, 0, [2]int{0, 1}, [2]int{1, 0}), 10 + 20, [][]int{{0}, {10}}},
		{"follow, run and gap", oneLeg(wide, 3, [2]int{0, 1}, [2]int{0, 1}), 10 + 23, [][]int{{0}, {13}}},
		{"follow, gap 0", oneLeg(wide, 0, [2]int{0, 1}, [2]int{0, 1}), 10 + 20, [][]int{{0}, {10}}},
		{"wait for room", behind(2, 1, 0), 29 + 55, [][]int{{0, 25}, {26, 51}}},
		{"wait for room, the heavier first", weighed, 55 + 2*29, [][]int{{26, 51}, {0, 25}}},
		{"room for two of three", behind(3, 2, 3), 29 + 37 + 55, [][]int{{0, 25}, {8, 33}, {26, 51}}},
		{"wait for one at its end", oneLeg(ones(3), 0, [2]int{0, 1}, [2]int{2, 1}), 10 + 21, [][]int{{0}, {11}}},
		{"ahead of the other", backAndForth(), 36 + 5, [][]int{{6, 16, 26}, {0}}},
		{"while the other is away", away, 10*30 + 16, [][]int{{0, 10, 20}, {11}}},
	})
}

// TestSolveFirst has several plans that cost as little: the first train decides, then the first leg.
func TestSolveFirst(t *testing.T) {
	late := allDue(100000)
	three := oneLeg([]int{9, 9}, 3, [2]int{0, 1}, [2]int{1, 0}, [2]int{0, 1})
	runSolveCases(t, []solveCase{
		{"nothing costs, the second waits long", changed(changed(upAndDown(), narrowed), late), 0, [][]int{{6, 18}, {29, 35}}},
		{"nothing costs, room for both", changed(upAndDown(), late), 0, [][]int{{6, 18}, {4, 19}}},
		{"nothing costs, by numbers", changed(three, late), 0, [][]int{{0}, {13}, {26}}},
		{"as much costs, by numbers", three, 10 + 23 + 36, [][]int{{0}, {13}, {26}}},
		{"the last must be first, the others by numbers", changed(three, func(l *impl.Line) {
			late(l)
			l.Trains[2].Due = 10
		}), 0, [][]int{{13}, {26}, {0}}},
		{"the second leg decides", secondLegDecides(), 0, [][]int{{0, 10}, {21, 22}}},
		{"the first leg decides", firstLegDecides(), 0, [][]int{{0, 230}, {110, 115, 120}}},
	})
}

// secondLegDecides: at 10 both would have the upper track; whichever has it first, neither is late.
func secondLegDecides() impl.Line {
	return impl.Line{Tracks: []int{9, 9, 9}, Gap: 1, Trains: []impl.Train{
		{From: 0, Due: 99, Weight: 1, Legs: []impl.Leg{{To: 1, Run: 10}, {To: 2, Run: 10}}},
		{From: 1, Ready: 1, Due: 99, Weight: 1, Legs: []impl.Leg{{To: 2, Run: 1, Stay: 9}, {To: 1, Run: 1}}},
	}}
}

// firstLegDecides: if the first train begins at 0, it must let the second ahead on the upper track, until 230; if it begins behind the second, at 110, it can go on at 225.
func firstLegDecides() impl.Line {
	return impl.Line{Tracks: []int{9, 9, 9}, Gap: 100, Trains: []impl.Train{
		{From: 0, Due: 300, Weight: 1, Legs: []impl.Leg{{To: 1, Run: 10}, {To: 2, Run: 10, Stay: 105}}},
		{From: 1, Due: 135, Weight: 1, Legs: []impl.Leg{{To: 0, Run: 5}, {To: 1, Run: 5}, {To: 2, Run: 10}}},
	}}
}

// TestSolveGreatest meets the limits of stations, trains and legs.
func TestSolveGreatest(t *testing.T) {
	turn := impl.Train{Ready: 100000, Weight: 100, Legs: []impl.Leg{{To: 1, Run: 10000, Stay: 10000}, {To: 0, Run: 10000, Stay: 10000}}}
	greatest := impl.Line{Tracks: []int{1, 1}, Gap: 10000, Trains: slices.Repeat([]impl.Train{turn}, 5)}
	least := impl.Line{Tracks: []int{1, 1}, Trains: slices.Repeat([]impl.Train{{Weight: 1, Legs: []impl.Leg{{To: 1, Run: 1}, {To: 0, Run: 1}}}}, 5)}
	against := impl.Line{Tracks: ones(12), Trains: []impl.Train{{From: 6, Weight: 1}, {From: 11, Weight: 1}}}
	along := impl.Line{Tracks: ones(12), Gap: 10000, Trains: []impl.Train{{Weight: 1}}}
	for i := range 5 {
		against.Trains[0].Legs = append(against.Trains[0].Legs, impl.Leg{To: 7 + i, Run: 10})
		against.Trains[1].Legs = append(against.Trains[1].Legs, impl.Leg{To: 10 - i, Run: 10})
	}
	for i := range 10 {
		along.Trains[0].Legs = append(along.Trains[0].Legs, impl.Leg{To: i + 1, Run: 10})
	}
	runSolveCases(t, []solveCase{
		{"the greatest numbers", greatest, 100 * (140000 + 180000 + 220000 + 260000 + 300000),
			[][]int{{110000, 130000}, {150000, 170000}, {190000, 210000}, {230000, 250000}, {270000, 290000}}},
		// Each comes when the one before it has left, a tick behind.
		{"the least numbers", least, 2 + 4 + 6 + 8 + 10, [][]int{{0, 1}, {2, 3}, {4, 5}, {6, 7}, {8, 9}}},
		// There is no room to pass, so the second begins behind the first's end.
		{"twelve stations, two trains", against, 50 + 100, [][]int{{0, 10, 20, 30, 40}, {50, 60, 70, 80, 90}}},
		{"twelve stations, one train", along, 100, [][]int{{0, 10, 20, 30, 40, 50, 60, 70, 80, 90}}},
		{"ten legs of one train", impl.Line{Tracks: ones(2), Gap: 10000, Trains: shuttles(10)}, 50, [][]int{{0, 10, 20, 30, 40, 50, 60, 70, 80, 90}}},
		{"ten tracks, five trains", impl.Line{Tracks: []int{10, 10}, Trains: shuttles(1, 1, 1, 1, 1)}, 0, [][]int{{0}, {10}, {20}, {30}, {40}}},
	})
}

// spoils are lines that are not right, each by another fault.
func spoils() []func(*impl.Line) {
	return []func(*impl.Line){
		func(l *impl.Line) { *l = impl.Line{} },
		func(l *impl.Line) { l.Gap = -1 },
		func(l *impl.Line) { l.Gap = 10001 },
		func(l *impl.Line) { l.Tracks = ones(13) },
		func(l *impl.Line) { l.Tracks = l.Tracks[:1] },
		func(l *impl.Line) { l.Trains = shuttles(1, 1, 1, 1, 1, 1) },
		func(l *impl.Line) { l.Trains = shuttles(6, 5) },
		func(l *impl.Line) { l.Tracks[1] = 0 },
		func(l *impl.Line) { l.Tracks[2] = 11 },
		func(l *impl.Line) { l.Trains[0].Ready = 100001 },
		func(l *impl.Line) { l.Trains[1].Due = -1 },
		func(l *impl.Line) { l.Trains[1].Weight = 0 },
		func(l *impl.Line) { l.Trains[1].Legs = nil },
		func(l *impl.Line) { l.Trains[0].Legs[1].To = 0; l.Trains[0].Legs[0].To = 0 },
		func(l *impl.Line) { l.Trains[1].Legs[1].Run = 0 },
		func(l *impl.Line) { l.Trains[1].Legs[0].Stay = 10001 },
	}
}

// TestNothingForWrong: a line that is not right has no best plan, nor an order or a meeting, nor has a plan that cannot be.
func TestNothingForWrong(t *testing.T) {
	p := plan([]int{6, 18}, []int{4, 19})
	for i, spoil := range spoils() {
		l := changed(upAndDown(), spoil)
		if got := impl.Solve(l); !reflect.DeepEqual(got, impl.Best{}) {
			t.Errorf("spoil %d: Solve: %+v", i, got)
		}
		if order, meets := impl.Order(l, p), impl.Meets(l, p); len(order) != 0 || len(meets) != 0 {
			t.Errorf("spoil %d: %v %v", i, order, meets)
		}
	}
	for name, bad := range map[string]impl.Plan{
		"the zero value": {},
		"a row too few":  plan([]int{6, 18}),
		"a row too many": plan([]int{6, 18}, []int{4, 19}, nil),
		"a place short":  plan([]int{6, 18}, []int{4}),
		"beyond":         plan([]int{6, 18}, []int{4, 1000001}),
		"too soon":       plan([]int{6, 17}, []int{4, 19}),
		"a track":        plan([]int{6, 18}, []int{4, 18}),
	} {
		if order, meets := impl.Order(upAndDown(), bad), impl.Meets(upAndDown(), bad); len(order) != 0 || len(meets) != 0 {
			t.Errorf("%s: %v %v", name, order, meets)
		}
	}
	narrow := changed(upAndDown(), narrowed)
	if order, meets := impl.Order(narrow, p), impl.Meets(narrow, p); len(order) != 0 || len(meets) != 0 {
		t.Errorf("a station: %v %v", order, meets)
	}
	if order, meets := impl.Order(impl.Line{}, impl.Plan{}), impl.Meets(impl.Line{}, impl.Plan{}); len(order) != 0 || len(meets) != 0 {
		t.Errorf("zero values: %v %v", order, meets)
	}
}

func TestOrder(t *testing.T) {
	wide := []int{9, 9, 9, 9}
	three := oneLeg(wide, 0, [2]int{0, 1}, [2]int{1, 2}, [2]int{2, 3})
	for _, c := range []struct {
		name string
		l    impl.Line
		p    impl.Plan
		want []int
	}{
		{"no trains", impl.Line{Tracks: ones(2)}, impl.Plan{}, nil},
		{"one train", impl.Line{Tracks: ones(2), Trains: shuttles(3)}, plan([]int{0, 10, 20}), []int{0, 0, 0}},
		{"in turn", upAndDown(), plan([]int{6, 18}, []int{4, 19}), []int{1, 0, 0, 1}},
		{"all at once", three, plan([]int{7}, []int{7}, []int{7}), []int{0, 1, 2}},
		{"two at once behind", three, plan([]int{7}, []int{6}, []int{7}), []int{1, 0, 2}},
		{"two at once ahead", three, plan([]int{9}, []int{8}, []int{8}), []int{1, 2, 0}},
		{"from the last to the first", three, plan([]int{30}, []int{20}, []int{10}), []int{2, 1, 0}},
		{"at once with a later leg", upAndDown(), plan([]int{6, 19}, []int{6, 19}), []int{0, 1, 0, 1}},
		{"one behind the other", upAndDown(), plan([]int{22, 34}, []int{4, 10}), []int{1, 1, 0, 0}},
	} {
		if got := impl.Order(c.l, c.p); !slices.Equal(got, c.want) {
			t.Errorf("%s: %v, want %v", c.name, got, c.want)
		}
	}
}

func TestMeets(t *testing.T) {
	wide := []int{9, 9, 9}
	against, along := oneLeg(wide, 3, [2]int{0, 1}, [2]int{1, 0}), oneLeg(wide, 3, [2]int{0, 1}, [2]int{0, 1})
	apart, noGap := oneLeg(wide, 3, [2]int{0, 1}, [2]int{1, 2}), changed(upAndDown(), func(l *impl.Line) { l.Gap = 0 })
	toOne := oneLeg(wide, 3, [2]int{0, 1}, [2]int{2, 1})
	firstTwice := impl.Line{Tracks: wide, Trains: append(shuttles(3), impl.Train{From: 1, Weight: 1, Legs: []impl.Leg{{To: 2, Run: 10}}})}
	secondTwice := impl.Line{Tracks: wide, Trains: []impl.Train{firstTwice.Trains[1], firstTwice.Trains[0]}}
	bothTwice := impl.Line{Tracks: wide, Trains: append(shuttles(3), impl.Train{From: 1, Weight: 1, Legs: []impl.Leg{{To: 2, Run: 5}, {To: 1, Run: 5}, {To: 2, Run: 5}}})}
	late := changed(along, func(l *impl.Line) { l.Trains[1].Ready = 10 })
	three := oneLeg(wide, 0, [2]int{0, 1}, [2]int{0, 1}, [2]int{0, 1})
	for _, c := range []struct {
		name string
		l    impl.Line
		p    impl.Plan
		want []impl.Meet
	}{
		{"no trains", impl.Line{Tracks: ones(2)}, impl.Plan{}, nil},
		{"one train", impl.Line{Tracks: ones(2), Trains: shuttles(3)}, plan([]int{0, 10, 20}), nil},
		{"between two legs", upAndDown(), plan([]int{6, 18}, []int{4, 19}), []impl.Meet{{A: 0, B: 1, At: 1, From: 16, To: 18}}},
		{"between two legs, the other waits longer", upAndDown(), plan([]int{6, 40}, []int{4, 30}), []impl.Meet{{A: 0, B: 1, At: 1, From: 16, To: 30}}},
		{"between two legs, in one tick", noGap, plan([]int{6, 18}, []int{12, 18}), []impl.Meet{{A: 0, B: 1, At: 1, From: 18, To: 18}}},
		{"never in one tick", apart, plan([]int{0}, []int{9}), nil},
		{"at the end where the other is in its last tick", apart, plan([]int{0}, []int{10}), []impl.Meet{{A: 0, B: 1, At: 1, From: 10, To: 10}}},
		{"at the end where the other waits", upAndDown(), plan([]int{22, 34}, []int{4, 10}), []impl.Meet{{A: 0, B: 1, At: 0, From: 19, To: 19}}},
		{"at the end of one, ahead of the first leg of the other", against, plan([]int{0}, []int{13}), []impl.Meet{{A: 0, B: 1, At: 1, From: 10, To: 10}}},
		{"the same by the other", against, plan([]int{13}, []int{0}), []impl.Meet{{A: 0, B: 1, At: 0, From: 10, To: 10}}},
		{"ahead of both first legs", along, plan([]int{20}, []int{40}), []impl.Meet{{A: 0, B: 1, At: 0, From: 0, To: 20}}},
		{"ahead of both first legs, in one tick", along, plan([]int{0}, []int{13}), []impl.Meet{{A: 0, B: 1, At: 0, From: 0, To: 0}}},
		{"ready when the other begins", late, plan([]int{10}, []int{23}), []impl.Meet{{A: 0, B: 1, At: 0, From: 10, To: 10}}},
		{"ready a tick behind", late, plan([]int{9}, []int{23}), nil},
		{"at both ends in one tick", toOne, plan([]int{5}, []int{5}), []impl.Meet{{A: 0, B: 1, At: 1, From: 15, To: 15}}},
		{"at both ends, a tick apart", toOne, plan([]int{5}, []int{6}), nil},
		{"there twice, the first", firstTwice, plan([]int{0, 10, 25}, []int{40}), []impl.Meet{{A: 0, B: 1, At: 1, From: 10, To: 10}, {A: 0, B: 1, At: 1, From: 35, To: 35}}},
		{"there twice, the second", secondTwice, plan([]int{40}, []int{0, 12, 25}), []impl.Meet{{A: 0, B: 1, At: 1, From: 10, To: 12}, {A: 0, B: 1, At: 1, From: 35, To: 35}}},
		{"gone ahead of the second time", firstTwice, plan([]int{0, 10, 25}, []int{34}), []impl.Meet{{A: 0, B: 1, At: 1, From: 10, To: 10}}},
		{"gone when it is there again", firstTwice, plan([]int{0, 10, 25}, []int{35}), []impl.Meet{{A: 0, B: 1, At: 1, From: 10, To: 10}, {A: 0, B: 1, At: 1, From: 35, To: 35}}},
		{"each two in order", three, plan([]int{30}, []int{10}, []int{20}), []impl.Meet{
			{A: 0, B: 1, At: 0, From: 0, To: 10}, {A: 0, B: 2, At: 0, From: 0, To: 20}, {A: 1, B: 2, At: 0, From: 0, To: 10}}},
		{"both there twice", bothTwice, plan([]int{0, 40, 50}, []int{12, 17, 60}), []impl.Meet{
			{A: 0, B: 1, At: 1, From: 10, To: 12}, {A: 0, B: 1, At: 1, From: 22, To: 40}, {A: 0, B: 1, At: 1, From: 60, To: 60}}},
	} {
		if got := impl.Meets(c.l, c.p); !slices.Equal(got, c.want) {
			t.Errorf("%s: %v, want %v", c.name, got, c.want)
		}
	}
}

func TestSolveAlone(t *testing.T) {
	d := dice(3)
	for range 300 {
		l := d.line()
		l.Trains = l.Trains[:1]
		got := solved(t, l)
		if end := impl.Arrives(l, got.Plan, 0); end != impl.Alone(l, 0) || got.Cost != impl.Least(l) {
			t.Fatalf("%+v: %+v, at its end at %d", l, got, end)
		}
	}
}

// TestSolveSame: the same call answers the same, however its goroutines run, and all of them have ended.
func TestSolveSame(t *testing.T) {
	lines := []impl.Line{
		upAndDown(), changed(upAndDown(), narrowed), behind(5, 2, 3), backAndForth(), manyEnds(),
		{Tracks: []int{2, 2}, Gap: 4, Trains: shuttles(2, 2, 2, 2, 2)},
	}
	before := runtime.NumGoroutine()
	for _, l := range lines {
		first := solved(t, l)
		for _, procs := range []int{1, 2, 8} {
			was := runtime.GOMAXPROCS(procs)
			for range 20 {
				if again := impl.Solve(l); !reflect.DeepEqual(again, first) {
					t.Errorf("%d at once: %+v, then %+v", procs, first, again)
				}
			}
			runtime.GOMAXPROCS(was)
		}
	}
	// One that has told that it is done may take a moment to be gone.
	for range 100 {
		if runtime.NumGoroutine() <= before {
			return
		}
		time.Sleep(time.Millisecond)
	}
	t.Errorf("%d goroutines, %d before", runtime.NumGoroutine(), before)
}

// TestSolveAtOnce: calls on one line do not disturb one another.
func TestSolveAtOnce(t *testing.T) {
	l := behind(4, 2, 3)
	want := solved(t, l)
	got := make([]impl.Best, 8)
	var calls sync.WaitGroup
	for i := range got {
		calls.Go(func() { got[i] = impl.Solve(l) })
	}
	calls.Wait()
	for _, b := range got {
		if !reflect.DeepEqual(b, want) {
			t.Errorf("%+v, want %+v", b, want)
		}
	}
}

// TestBestOfItsOwn: nothing is written into an argument, and an answer shares nothing with one, nor do its rows with one another.
func TestBestOfItsOwn(t *testing.T) {
	alone := oneLeg([]int{9, 9, 9}, 3, [2]int{0, 1}, [2]int{1, 2})
	for _, l := range []impl.Line{upAndDown(), changed(upAndDown(), narrowed), behind(3, 2, 3), alone} {
		asWas := changed(l, func(*impl.Line) {})
		want := solved(t, l)
		rows := impl.Place(l, impl.Order(l, want.Plan)).Plan
		got := impl.Solve(l)
		spoilRows(t, got.Plan.Starts)
		order, meets := impl.Order(l, want.Plan), impl.Meets(l, want.Plan)
		for i := range order {
			order[i] = -7
		}
		clear(meets)
		if !reflect.DeepEqual(l, asWas) || !sameRows(want.Plan.Starts, rows.Starts) {
			t.Error("written into")
		}
		if again := impl.Solve(l); !reflect.DeepEqual(again, want) {
			t.Errorf("another answer: %+v, then %+v", want, again)
		}
	}
}
