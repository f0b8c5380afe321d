package tests

import (
	"fmt"
	"reflect"
	"slices"
	"strings"
	"sync"
	"testing"

	"loop.example/stringline/impl"
)

// given is what the functions of all chapters are given.
type given struct {
	l     impl.Line
	p     impl.Plan
	order []int
	train int
	text  string
}

func calls() map[string]func(g given) any {
	return map[string]func(g given) any{
		"LineOk":    func(g given) any { return impl.LineOk(g.l) },
		"Alone":     func(g given) any { return impl.Alone(g.l, g.train) },
		"Least":     func(g given) any { return impl.Least(g.l) },
		"Check":     func(g given) any { return impl.Check(g.l, g.p) },
		"Arrives":   func(g given) any { return impl.Arrives(g.l, g.p, g.train) },
		"Cost":      func(g given) any { return impl.Cost(g.l, g.p) },
		"Place":     func(g given) any { return impl.Place(g.l, g.order) },
		"Solve":     func(g given) any { return impl.Solve(g.l) },
		"Order":     func(g given) any { return impl.Order(g.l, g.p) },
		"Meets":     func(g given) any { return impl.Meets(g.l, g.p) },
		"WriteLine": func(g given) any { return impl.WriteLine(g.l) },
		"ReadLine":  func(g given) any { return impl.ReadLine(g.text) },
		"Diagram":   func(g given) any { return impl.Diagram(g.l, g.p) },
	}
}

// givens are right lines and wrong ones, plans and orders that can be and that cannot, and texts of all codes.
func givens() map[string]given {
	p, order := plan([]int{6, 18}, []int{4, 19}), []int{1, 0, 0, 1}
	l := upAndDown()
	legs := []int{0, 1, 2, 3, 4, 0, 1, 2, 3, 4}
	text := impl.WriteLine
	return map[string]given{
		"zero values":        {},
		"no trains":          {impl.Line{Tracks: ones(2)}, impl.Plan{}, nil, 0, head},
		"ordinary":           {l, p, order, 1, text(l)},
		"several":            {fourStations(), plan([]int{8, 1000, 2000}, []int{0, 50}, []int{500, 600}), []int{0, 0, 0, 1, 1, 2, 2}, 2, text(fourStations())},
		"the greatest":       {greatestLine(), impl.Place(greatestLine(), legs).Plan, legs, 4, text(greatestLine())},
		"ten legs":           {tenLegs(), impl.Place(tenLegs(), make([]int, 10)).Plan, make([]int, 10), 0, text(tenLegs())},
		"no room":            {changed(l, narrowed), p, order, 0, head + up},
		"too soon":           {l, plan([]int{6, 17}, []int{4, 19}), []int{0, 0, 0, 1}, -1, "tracks 1 0\ngap 0\n"},
		"a track":            {l, plan([]int{6, 18}, []int{4, 18}), []int{1, 0}, 2, "tracks 1\ngap 0\n"},
		"a row short":        {l, plan([]int{6, 18}), []int{9}, 5, head + leg},
		"not right":          {changed(l, func(l *impl.Line) { l.Gap = -1 }), p, order, 0, strings.Repeat("x", 4001)},
		"a train not right":  {changed(l, func(l *impl.Line) { l.Trains[1].Legs[1].Run = 0 }), p, order, 0, head + up + leg + "\n"},
		"an order too long":  {l, p, ones(11), 1, "tracks 1 1"},
		"a track not right":  {changed(l, func(l *impl.Line) { l.Tracks[2] = 11 }), p, order, 0, textOfSize(4000)},
		"as many as one can": {behind(5, 2, 3), plan(), []int{0, 0, 1, 1, 2, 2, 3, 3, 4, 4}, 3, head + strings.Repeat(up+leg, 5)},
	}
}

// roomy is a list with room behind its end, in which something stands that nobody may write to.
func roomy[T any](list []T, stands T) []T {
	out := slices.Concat(list, []T{stands, stands, stands})
	return out[:len(list)]
}

// whole is a list as far as its memory goes, in memory of its own.
func whole[T any](list []T) []T {
	return slices.Clone(list[:cap(list)])
}

// mapped goes through all lists of what is given; each row and train is another one behind.
func mapped(g given, numbers func([]int) []int, legs func([]impl.Leg) []impl.Leg, trains func([]impl.Train) []impl.Train, rows func([][]int) [][]int) given {
	g.l.Tracks, g.order = numbers(g.l.Tracks), numbers(g.order)
	g.l.Trains, g.p.Starts = trains(g.l.Trains), rows(g.p.Starts)
	for i := range g.l.Trains {
		g.l.Trains[i].Legs = legs(g.l.Trains[i].Legs)
	}
	for i := range g.p.Starts {
		g.p.Starts[i] = numbers(g.p.Starts[i])
	}
	return g
}

func withRoom(g given) given {
	return mapped(g,
		func(list []int) []int { return roomy(list, 77) },
		func(list []impl.Leg) []impl.Leg { return roomy(list, impl.Leg{To: 1, Run: 77, Stay: 77}) },
		func(list []impl.Train) []impl.Train { return roomy(list, shuttle(1)) },
		func(list [][]int) [][]int { return roomy(list, []int{77}) })
}

func withAll(g given) given {
	return mapped(g, whole, whole, whole, whole)
}

// memory is from where to where each list goes that a value holds.
func memory(v reflect.Value) [][2]uintptr {
	var out [][2]uintptr
	switch v.Kind() {
	case reflect.Struct:
		for i := range v.NumField() {
			out = append(out, memory(v.Field(i))...)
		}
	case reflect.Slice:
		if v.Cap() > 0 {
			out = append(out, [2]uintptr{v.Pointer(), v.Pointer() + uintptr(v.Cap())*v.Type().Elem().Size()})
		}
		for i := range v.Len() {
			out = append(out, memory(v.Index(i))...)
		}
	}
	return out
}

// overlap tells whether one of some lists shares memory with another of them, or with one of the others.
func overlap(lists, others [][2]uintptr) bool {
	for i, x := range lists {
		for _, y := range slices.Concat(lists[i+1:], others) {
			if x[0] < y[1] && y[0] < x[1] {
				return true
			}
		}
	}
	return false
}

// spoil writes over all lists that a value holds, as far as their memory goes.
func spoil(v reflect.Value) {
	switch v.Kind() {
	case reflect.Struct:
		for i := range v.NumField() {
			spoil(v.Field(i))
		}
	case reflect.Slice:
		for i := range v.Len() {
			spoil(v.Index(i))
		}
		v = v.Slice(0, v.Cap())
		for i := range v.Len() {
			v.Index(i).SetZero()
		}
	}
}

// tell is a value as a text, in which an empty list and nil are the same.
func tell(x any) string {
	return fmt.Sprintf("%+v", x)
}

// TestAllKeep: no function writes into an argument, nor behind it, and no answer shares memory with one, nor two lists of it with one another.
func TestAllKeep(t *testing.T) {
	for name, g := range givens() {
		for function, call := range calls() {
			g := withRoom(g)
			asWas := withAll(g)
			answer := call(g)
			told := tell(answer)
			if overlap(memory(reflect.ValueOf(answer)), memory(reflect.ValueOf(argumentsOf(g)))) {
				t.Errorf("%s, %s: memory is shared", name, function)
			}
			spoil(reflect.ValueOf(answer))
			if !reflect.DeepEqual(withAll(g), asWas) {
				t.Errorf("%s, %s: written into", name, function)
			}
			if again := tell(call(g)); again != told {
				t.Errorf("%s, %s: %s, and %s once the answer was written over", name, function, told, again)
			}
		}
	}
}

// argumentsOf is what reflect can look at from here.
func argumentsOf(g given) any {
	return struct {
		L     impl.Line
		P     impl.Plan
		Order []int
	}{g.l, g.p, g.order}
}

// TestAllSame: the same call answers the same many times over, also when all are made at once, and at arguments in other memory.
func TestAllSame(t *testing.T) {
	var at sync.WaitGroup
	for name, g := range givens() {
		for function, call := range calls() {
			first := tell(call(g))
			for range 4 {
				at.Go(func() {
					for range 10 {
						if again := tell(call(g)); again != first {
							t.Errorf("%s, %s: %s, then %s", name, function, first, again)
							return
						}
					}
				})
			}
			if again := tell(call(withRoom(g))); again != first {
				t.Errorf("%s, %s: %s, in other memory %s", name, function, first, again)
			}
		}
	}
	at.Wait()
}
