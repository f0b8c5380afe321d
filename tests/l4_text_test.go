package tests

import (
	"reflect"
	"slices"
	"strconv"
	"strings"
	"testing"

	"loop.example/stringline/impl"
)

// The rows of a text that is right.
const (
	tracks = "tracks 1 1\n"
	gap    = "gap 0\n"
	head   = tracks + gap
	up     = "train 0 ready 0 due 50 weight 1\n"
	leg    = "leg 1 run 10 stay 0\n"
)

func sameLine(a, b impl.Line) bool {
	return slices.Equal(a.Tracks, b.Tracks) && a.Gap == b.Gap &&
		slices.EqualFunc(a.Trains, b.Trains, func(x, y impl.Train) bool {
			return x.From == y.From && x.Ready == y.Ready && x.Due == y.Due && x.Weight == y.Weight && slices.Equal(x.Legs, y.Legs)
		})
}

// greatestLine meets the limits of stations, trains and legs, with the greatest numbers.
func greatestLine() impl.Line {
	x := goes(10, 100000, 100000, 100, [3]int{11, 10000, 10000}, [3]int{10, 10000, 10000})
	return impl.Line{Tracks: slices.Repeat([]int{10}, 12), Gap: 10000, Trains: slices.Repeat([]impl.Train{x}, 5)}
}

// tenLegs has as many legs as there may be in one train, that goes over many stations.
func tenLegs() impl.Line {
	l := impl.Line{Tracks: ones(12), Trains: []impl.Train{{From: 1, Weight: 1}}}
	for i := range 10 {
		l.Trains[0].Legs = append(l.Trains[0].Legs, impl.Leg{To: i + 2, Run: 1})
	}
	return l
}

type textCase struct {
	name string
	l    impl.Line
	want string
}

func textCases() []textCase {
	greatest := "tracks 10 10 10 10 10 10 10 10 10 10 10 10\ngap 10000\n" + strings.Repeat("train 10 ready 100000 due 100000 weight 100\n"+
		"leg 11 run 10000 stay 10000\nleg 10 run 10000 stay 10000\n", 5)
	ten := "tracks 1 1 1 1 1 1 1 1 1 1 1 1\ngap 0\ntrain 1 ready 0 due 0 weight 1\n"
	for to := 2; to <= 11; to++ {
		ten += "leg " + strconv.Itoa(to) + " run 1 stay 0\n"
	}
	return []textCase{
		{"no trains", impl.Line{Tracks: ones(2)}, "tracks 1 1\ngap 0\n"},
		{"no trains, an empty list", impl.Line{Tracks: []int{7, 10}, Gap: 10000, Trains: []impl.Train{}}, "tracks 7 10\ngap 10000\n"},
		{"no trains, 12 stations", impl.Line{Tracks: []int{1, 2, 3, 4, 5, 6, 7, 8, 9, 10, 1, 2}, Gap: 1}, "tracks 1 2 3 4 5 6 7 8 9 10 1 2\ngap 1\n"},
		{"one train, one leg", impl.Line{Tracks: ones(2), Trains: shuttles(1)}, head + up + leg},
		{"the least numbers", impl.Line{Tracks: ones(2), Trains: []impl.Train{goes(1, 0, 0, 1, [3]int{0, 1, 0})}},
			"tracks 1 1\ngap 0\ntrain 1 ready 0 due 0 weight 1\nleg 0 run 1 stay 0\n"},
		{"several trains", fourStations(), "tracks 1 2 3 4\ngap 5\n" +
			"train 0 ready 7 due 60 weight 3\nleg 1 run 10 stay 1\nleg 2 run 20 stay 2\nleg 3 run 30 stay 4\n" +
			"train 3 ready 0 due 100 weight 5\nleg 2 run 11 stay 0\nleg 1 run 12 stay 0\n" +
			"train 1 ready 40 due 55 weight 2\nleg 2 run 8 stay 0\nleg 1 run 9 stay 3\n"},
		{"two against one another", upAndDown(), "tracks 1 2 1\ngap 3\n" +
			"train 0 ready 5 due 20 weight 2\nleg 1 run 10 stay 1\nleg 2 run 8 stay 2\n" +
			"train 2 ready 0 due 30 weight 7\nleg 1 run 6 stay 4\nleg 0 run 9 stay 0\n"},
		{"all limits", greatestLine(), greatest},
		{"ten legs of one train", tenLegs(), ten},
	}
}

// TestWriteAndReadBack: a right line has this text, and the text is read as this line.
func TestWriteAndReadBack(t *testing.T) {
	for _, c := range textCases() {
		if got := impl.WriteLine(c.l); got != c.want {
			t.Errorf("%s: %q, want %q", c.name, got, c.want)
		}
		if got := impl.ReadLine(c.want); got.Code != 0 || got.Line != 0 || !sameLine(got.It, c.l) {
			t.Errorf("%s: %+v, want %+v", c.name, got, c.l)
		}
	}
}

func TestWriteNothing(t *testing.T) {
	for i, spoil := range spoils() {
		if got := impl.WriteLine(changed(upAndDown(), spoil)); got != "" {
			t.Errorf("spoil %d: %q", i, got)
		}
	}
}

// TestTextLimit: the tests below write the number out.
func TestTextLimit(t *testing.T) {
	if impl.MaxText != 4000 {
		t.Error(impl.MaxText)
	}
}

type readCase struct {
	name string
	text string
	code int
	line int
}

// runReadCases holds a text that is not read against its code and line: all else is the zero value.
func runReadCases(t *testing.T, cases []readCase) {
	t.Helper()
	for _, c := range cases {
		t.Run(c.name, func(t *testing.T) {
			got := impl.ReadLine(c.text)
			if got.Code != c.code || got.Line != c.line {
				t.Errorf("%q: %d at %d, want %d at %d", c.text, got.Code, got.Line, c.code, c.line)
			}
			if c.code != 0 && !reflect.DeepEqual(got.It, impl.Line{}) {
				t.Errorf("%q: %d, but a line: %+v", c.text, got.Code, got.It)
			}
			if c.code == 0 && impl.WriteLine(got.It) != c.text {
				t.Errorf("%q: read as %+v", c.text, got.It)
			}
		})
	}
}

func TestReadEnds(t *testing.T) {
	runReadCases(t, []readCase{
		{"an empty text", "", 1, 1},
		{"a newline alone", "\n", 1, 1},
		{"two newlines", "\n\n", 1, 1},
		{"no row that can be", "x", 1, 1},
		{"a blank", " ", 1, 1},
		{"one row", "tracks 1 1\n", 1, 2},
		{"one row without its newline", "tracks 1 1", 1, 1},
		{"one row, the wrong one", "gap 0\n", 1, 1},
		{"two rows", "tracks 1 1\ngap 0\n", 0, 0},
		{"two rows, the last without its newline", "tracks 1 1\ngap 0", 1, 2},
		{"two rows and an empty one", head + "\n", 1, 3},
		{"an empty row ahead", "\n" + head, 1, 1},
		{"an empty row between the first two", tracks + "\n" + gap, 1, 2},
		{"an empty row between train and leg", head + up + "\n" + leg, 1, 4},
		{"an empty row at the end", head + up + leg + "\n", 1, 5},
		{"a train without its newline", head + strings.TrimSuffix(up, "\n"), 1, 3},
		{"a leg without its newline", head + up + strings.TrimSuffix(leg, "\n"), 1, 4},
		{"a blank behind the last newline", head + up + leg + " ", 1, 5},
		{"a letter behind the last newline", head + "t", 1, 3},
	})
}

func TestReadOrderOfRows(t *testing.T) {
	runReadCases(t, []readCase{
		{"gap ahead of tracks", gap + tracks, 1, 1},
		{"train ahead of all", up + head, 1, 1},
		{"leg ahead of all", leg + head, 1, 1},
		{"train ahead of gap", tracks + up + gap, 1, 2},
		{"leg ahead of gap", tracks + leg, 1, 2},
		{"tracks twice", tracks + tracks + gap, 1, 2},
		{"gap twice", head + gap, 1, 3},
		{"tracks behind gap", head + tracks, 1, 3},
		{"tracks further down", head + up + leg + tracks, 1, 5},
		{"gap further down", head + up + leg + gap + up + leg, 1, 5},
		{"gap between train and leg", head + up + gap + leg, 1, 4},
		{"a whole text behind", head + up + leg + head + up + leg, 1, 5},
		{"a leg ahead of all trains", head + leg, 1, 3},
		{"a leg ahead of all trains, a train behind", head + leg + up, 1, 3},
		{"two legs ahead of all trains", head + leg + leg + up + leg, 1, 3},
		{"another word", head + "car 0 ready 0 due 50 weight 1\n", 1, 3},
		{"two trains", head + up + leg + up + leg, 0, 0},
	})
}

// TestReadWords spoils each kind of row by its words and blanks.
func TestReadWords(t *testing.T) {
	var cases []readCase
	for line, row := range map[int]string{1: tracks, 2: gap, 3: up, 4: leg} {
		ahead := strings.Join([]string{tracks, gap, up, leg}[:line-1], "")
		behind := strings.Join([]string{tracks, gap, up, leg}[line:], "")
		bare := strings.TrimSuffix(row, "\n")
		for what, wrong := range map[string]string{
			"two blanks":                             strings.Replace(bare, " ", "  ", 1),
			"two blanks, the last":                   bare[:strings.LastIndex(bare, " ")] + " " + bare[strings.LastIndex(bare, " "):],
			"no blank":                               strings.Replace(bare, " ", "", 1),
			"a tab":                                  strings.Replace(bare, " ", "\t", 1),
			"a blank ahead":                          " " + bare,
			"a blank at the end":                     bare + " ",
			"a return at the end":                    bare + "\r",
			"a tab at the end":                       bare + "\t",
			"a great letter":                         strings.ToUpper(bare[:1]) + bare[1:],
			"all in great letters":                   strings.ToUpper(bare),
			"a letter short":                         bare[1:],
			"a letter more":                          strings.Replace(bare, " ", "s ", 1),
			"the word alone":                         bare[:strings.Index(bare, " ")],
			"the word and a blank":                   bare[:strings.Index(bare, " ")+1],
			"without its last number, not the blank": bare[:strings.LastIndex(bare, " ")+1],
			"a word behind":                          bare + " x",
			"a word behind with a number":            bare + " stay 0",
			"a letter for the last number":           bare[:strings.LastIndex(bare, " ")] + " x",
			"a letter behind the last number":        bare + "x",
			"a NUL":                                  bare + "\x00",
			"not UTF-8":                              bare + "\xff",
		} {
			cases = append(cases, readCase{what + " in " + bare, ahead + wrong + "\n" + behind, 1, line})
		}
	}
	runReadCases(t, append(cases, []readCase{
		{"a train without its last number", head + "train 0 ready 0 due 50 weight\n", 1, 3},
		{"a leg without its last number", head + up + "leg 1 run 10 stay\n", 1, 4},
		{"a leg without its last word", head + up + "leg 1 run 10\n", 1, 4},
		{"a number behind gap", tracks + "gap 0 0\n", 1, 2},
		{"a number behind a train", head + "train 0 ready 0 due 50 weight 1 1\n", 1, 3},
		{"a number behind a leg", head + up + "leg 1 run 10 stay 0 0\n", 1, 4},
		{"two numbers within a train", head + "train 0 0 ready 0 due 50 weight 1\n", 1, 3},
		{"words of a train in another order", head + "train 0 due 50 ready 0 weight 1\n", 1, 3},
		{"words of a leg in another order", head + up + "leg 1 stay 0 run 10\n", 1, 4},
		{"a word of a leg in a train", head + "train 0 run 0 due 50 weight 1\n", 1, 3},
		{"a train with no more than a leg has", head + "train 0 ready 0 due 50\n", 1, 3},
		{"a word twice", head + "train train 0 ready 0 due 50 weight 1\n", 1, 3},
		{"only numbers", head + "0 0 50 1\n", 1, 3},
		{"a row in two", head + "train 0 ready 0\ndue 50 weight 1\n" + leg, 1, 3},
		{"two rows in one", head + strings.Replace(up, "\n", " ", 1) + leg, 1, 3},
	}...))
}

// TestReadNumbers writes a number in each place of a text, in all the ways that it may not be written.
func TestReadNumbers(t *testing.T) {
	var cases []readCase
	whole := "tracks 1 1\ngap 0\ntrain 0 ready 0 due 50 weight 1\nleg 1 run 10 stay 0\n"
	for line, words := range map[int][]string{1: {"tracks 1 "}, 2: {"gap "}, 3: {"train ", "ready ", "due ", "weight "}, 4: {"leg ", "run ", "stay "}} {
		for _, word := range words {
			ahead, rest, _ := strings.Cut(whole, word)
			behind := strings.TrimLeft(rest, "0123456789")
			for _, n := range []string{
				"", "00", "01", "007", "0000000", "0000001", "00000001", "10000000", "99999999", "12345678",
				"9223372036854775807", "18446744073709551617", strings.Repeat("9", 200), strings.Repeat("0", 200),
				"-1", "-0", "+1", "+0", "--1", "1-", "1.0", "1.", ".1", "1e1", "0x1", "0b1", "0o7", "1_0", "1,0", "x", "1x", "\u0661", "\uff11", "\u00b2", "1\u00a0",
			} {
				cases = append(cases, readCase{word + n, ahead + word + n + behind, 1, line})
			}
		}
	}
	runReadCases(t, cases)
}

// TestReadSevenDigits: a number of seven digits can stand anywhere, whether the line is right then or not.
func TestReadSevenDigits(t *testing.T) {
	runReadCases(t, []readCase{
		{"tracks", "tracks 1 9999999\ngap 0\n", 4, 0},
		{"tracks, the first", "tracks 1000000 1\ngap 0\n", 4, 0},
		{"tracks, eight digits", "tracks 1 10000000\ngap 0\n", 1, 1},
		{"gap", tracks + "gap 9999999\n", 3, 0},
		{"gap, eight digits", tracks + "gap 10000000\n", 1, 2},
		{"a train", head + "train 9999999 ready 9999999 due 9999999 weight 9999999\n", 5, 0},
		{"a train, eight digits", head + "train 9999999 ready 9999999 due 9999999 weight 10000000\n", 1, 3},
		{"a leg", head + up + "leg 9999999 run 9999999 stay 9999999\n", 5, 0},
		{"a leg, eight digits", head + up + "leg 9999999 run 9999999 stay 10000000\n", 1, 4},
		{"zeros", "tracks 0 0\ngap 0\n", 4, 0},
		{"zeros of a train", head + "train 0 ready 0 due 0 weight 0\nleg 0 run 0 stay 0\n", 5, 0},
	})
}

// TestReadStations: of tracks 1 to 39 numbers can stand there, but a right line has 2 to 12.
func TestReadStations(t *testing.T) {
	var cases []readCase
	for n, want := range map[int][2]int{0: {1, 1}, 1: {3, 0}, 2: {0, 0}, 12: {0, 0}, 13: {3, 0}, 38: {3, 0}, 39: {3, 0}, 40: {1, 1}, 41: {1, 1}, 100: {1, 1}} {
		text := "tracks" + strings.Repeat(" 1", n) + "\n" + gap
		cases = append(cases, readCase{strconv.Itoa(n) + " stations", text, want[0], want[1]})
	}
	runReadCases(t, append(cases, []readCase{
		{"no number, but a blank", "tracks \ngap 0\n", 1, 1},
		{"39 of seven digits", "tracks" + strings.Repeat(" 9999999", 39) + "\n" + gap, 3, 0},
		{"the 39th cannot be", "tracks" + strings.Repeat(" 1", 38) + " 01\n" + gap, 1, 1},
		{"a blank behind the 39th", "tracks" + strings.Repeat(" 1", 39) + " \n" + gap, 1, 1},
	}...))
}

// textOfSize is a text of so many bytes that can be read, of a train with too many legs; as many legs as bytes would be left have a digit more.
func textOfSize(size int) string {
	legs := (size - len(head+up)) / len(leg)
	more := (size - len(head+up)) % len(leg)
	longer := strings.Replace(leg, "run 10", "run 100", 1)
	return head + up + strings.Repeat(longer, more) + strings.Repeat(leg, legs-more)
}

func TestReadSize(t *testing.T) {
	for _, size := range []int{3999, 4000, 4001} {
		if got := len(textOfSize(size)); got != size {
			t.Fatalf("the test's own text has %d bytes, not %d", got, size)
		}
	}
	bare := strings.TrimSuffix(textOfSize(4001), "\n")
	runReadCases(t, []readCase{
		{"3999 bytes", textOfSize(3999), 3, 0},
		{"4000 bytes", textOfSize(4000), 3, 0},
		{"4001 bytes", textOfSize(4001), 2, 0},
		{"4000 bytes, no newline at the end", bare, 1, 1 + strings.Count(bare, "\n")},
		{"4000 letters", strings.Repeat("x", 4000), 1, 1},
		{"4001 letters", strings.Repeat("x", 4001), 2, 0},
		{"4000 newlines", strings.Repeat("\n", 4000), 1, 1},
		{"4001 newlines", strings.Repeat("\n", 4001), 2, 0},
		{"4000 bytes of 2000 letters", strings.Repeat("\u00e9", 2000), 1, 1},
		{"4002 bytes of 2001 letters", strings.Repeat("\u00e9", 2001), 2, 0},
		{"a right text, and newlines up to 4000", head + strings.Repeat("\n", 4000-len(head)), 1, 3},
		{"a right text, and newlines up to 4001", head + strings.Repeat("\n", 4001-len(head)), 2, 0},
		{"4000 bytes of one number", "tracks " + strings.Repeat("1", 3993), 1, 1},
		{"a million bytes", strings.Repeat(head, 60000), 2, 0},
	})
}

// TestReadFirstRow has several rows that cannot stand there: the first is told.
func TestReadFirstRow(t *testing.T) {
	runReadCases(t, []readCase{
		{"all", "x\nx\nx\nx\n", 1, 1},
		{"all but the first", tracks + "x\nx\nx\n", 1, 2},
		{"all but two", head + "x\nx\n", 1, 3},
		{"tracks and gap", "tracks 01\ngap 01\n", 1, 1},
		{"gap and a leg ahead of all trains", tracks + "gap -1\n" + leg, 1, 2},
		{"a leg ahead of all trains and a train", head + leg + "train 0\n", 1, 3},
		{"a leg and the end", head + up + "leg 01 run 10 stay 0\n" + leg + "x", 1, 4},
		{"the fifth and the seventh", head + up + leg + "\n" + leg + "\n" + leg, 1, 5},
		{"a row that cannot be, and stations too many", "tracks" + strings.Repeat(" 1", 20) + "\n" + gap + "x\n", 1, 3},
		{"a row that cannot be, and tracks that are not right", "tracks 0 0\ngap 99999\n" + up + leg + "leg\n", 1, 5},
	})
}

// TestReadNotRight has texts that can be read, of lines that are not right.
func TestReadNotRight(t *testing.T) {
	runReadCases(t, []readCase{
		{"one station", "tracks 1\ngap 0\n", 3, 0},
		{"13 stations", "tracks 1 1 1 1 1 1 1 1 1 1 1 1 1\ngap 0\n", 3, 0},
		{"gap 10000", tracks + "gap 10000\n", 0, 0},
		{"gap 10001", tracks + "gap 10001\n", 3, 0},
		{"five trains", head + strings.Repeat(up+leg, 5), 0, 0},
		{"six trains", head + strings.Repeat(up+leg, 6), 3, 0},
		{"ten legs", head + up + strings.Repeat(leg+"leg 0 run 1 stay 0\n", 5), 0, 0},
		{"eleven legs", head + up + strings.Repeat(leg+"leg 0 run 1 stay 0\n", 5) + leg, 3, 0},
		{"no tracks", "tracks 1 0\ngap 0\n", 4, 0},
		{"ten tracks", "tracks 10 1\ngap 0\n", 0, 0},
		{"eleven tracks", "tracks 11 1\ngap 0\n", 4, 0},
		{"no legs", head + up, 5, 0},
		{"no legs of the first", head + up + up + leg, 5, 0},
		{"from no station", head + "train 2 ready 0 due 50 weight 1\n" + leg, 5, 0},
		{"ready too late", head + "train 0 ready 100001 due 50 weight 1\n" + leg, 5, 0},
		{"due too late", head + "train 0 ready 0 due 100001 weight 1\n" + leg, 5, 0},
		{"due and ready at the limit", head + "train 0 ready 100000 due 100000 weight 100\n" + leg, 0, 0},
		{"no weight", head + "train 0 ready 0 due 50 weight 0\n" + leg, 5, 0},
		{"too much weight", head + "train 0 ready 0 due 50 weight 101\n" + leg, 5, 0},
		{"not beside", head + up + "leg 0 run 10 stay 0\n", 5, 0},
		{"to no station", head + up + leg + "leg 2 run 10 stay 0\n", 5, 0},
		{"no run", head + up + "leg 1 run 0 stay 0\n", 5, 0},
		{"too long a run", head + up + "leg 1 run 10001 stay 0\n", 5, 0},
		{"too long a stay", head + up + "leg 1 run 1 stay 10001\n", 5, 0},
		{"run and stay at the limit", head + up + "leg 1 run 10000 stay 10000\n", 0, 0},
		{"all three", "tracks 0\ngap 0\n" + up, 3, 0},
		{"tracks and a train", "tracks 1 0\ngap 0\n" + up, 4, 0},
	})
}

type diagramCase struct {
	name string
	l    impl.Line
	p    impl.Plan
	want string
}

func TestDiagram(t *testing.T) {
	l := upAndDown()
	due := func(ticks int) impl.Line { return changed(l, allDue(ticks)) }
	late := changed(l, func(l *impl.Line) { l.Trains[0].Weight = 100 })
	four := fourStations()
	five := impl.Line{Tracks: []int{9, 9}, Trains: shuttles(1, 1, 1, 1, 1)}
	last := impl.Line{Tracks: []int{1, 1}, Trains: []impl.Train{goes(0, 0, 0, 100, [3]int{1, 10000, 0})}}
	ten := tenLegs()
	for _, c := range []diagramCase{
		{"no trains", impl.Line{Tracks: ones(2)}, impl.Plan{}, ""},
		{"one train, one leg", impl.Line{Tracks: ones(2), Trains: shuttles(1)}, plan([]int{0}), "A 0@0 1@10\n"},
		{"one train, to and fro", impl.Line{Tracks: ones(2), Trains: shuttles(3)}, plan([]int{2, 30, 41}), "A 0@2 1@30 0@41 1@51 late 1\n"},
		{"two, the first late", l, plan([]int{6, 18}, []int{4, 19}), "A 0@6 1@18 2@26 late 6\nB 2@4 1@19 0@28\n"},
		{"whatever it weighs", late, plan([]int{6, 18}, []int{4, 19}), "A 0@6 1@18 2@26 late 6\nB 2@4 1@19 0@28\n"},
		{"one behind the other", l, plan([]int{22, 34}, []int{4, 10}), "A 0@22 1@34 2@42 late 22\nB 2@4 1@10 0@19\n"},
		{"late by a tick and by more", due(25), plan([]int{6, 18}, []int{4, 19}), "A 0@6 1@18 2@26 late 1\nB 2@4 1@19 0@28 late 3\n"},
		{"on time to the tick", due(26), plan([]int{6, 18}, []int{4, 19}), "A 0@6 1@18 2@26\nB 2@4 1@19 0@28 late 2\n"},
		{"early by a tick", due(27), plan([]int{6, 18}, []int{4, 19}), "A 0@6 1@18 2@26\nB 2@4 1@19 0@28 late 1\n"},
		{"both early", due(100000), plan([]int{6, 18}, []int{4, 19}), "A 0@6 1@18 2@26\nB 2@4 1@19 0@28\n"},
		{"late by all", due(0), plan([]int{6, 18}, []int{4, 19}), "A 0@6 1@18 2@26 late 26\nB 2@4 1@19 0@28 late 28\n"},
		{"three", four, plan([]int{8, 1000, 2000}, []int{0, 50}, []int{500, 600}),
			"A 0@8 1@1000 2@2000 3@2030 late 1970\nB 3@0 2@50 1@62\nC 1@500 2@600 1@609 late 554\n"},
		{"five", five, plan([]int{40}, []int{30}, []int{20}, []int{10}, []int{0}), "A 0@40 1@50\nB 0@30 1@40\nC 0@20 1@30\nD 0@10 1@20\nE 0@0 1@10\n"},
		{"the last tick", last, plan([]int{1000000}), "A 0@1000000 1@1010000 late 1010000\n"},
		{"ten legs", ten, plan([]int{0, 1, 2, 3, 4, 5, 6, 7, 8, 9}), "A 1@0 2@1 3@2 4@3 5@4 6@5 7@6 8@7 9@8 10@9 11@10 late 10\n"},
	} {
		if got := impl.Diagram(c.l, c.p); got != c.want {
			t.Errorf("%s: %q, want %q", c.name, got, c.want)
		}
	}
}

// TestDiagramNothing: a line that is not right has no diagram, nor has a plan that cannot be.
func TestDiagramNothing(t *testing.T) {
	l, p := upAndDown(), plan([]int{6, 18}, []int{4, 19})
	cases := []diagramCase{
		{"the zero values", impl.Line{}, impl.Plan{}, ""},
		{"no rows", l, impl.Plan{}, ""},
		{"a row too few", l, plan([]int{6, 18}), ""},
		{"a row too many", l, plan([]int{6, 18}, []int{4, 19}, nil), ""},
		{"a place short", l, plan([]int{6, 18}, []int{4}), ""},
		{"a place more", l, plan([]int{6, 18}, []int{4, 19, 40}), ""},
		{"ahead of all", l, plan([]int{-1, 18}, []int{4, 19}), ""},
		{"beyond", l, plan([]int{6, 18}, []int{4, 1000001}), ""},
		{"too soon", l, plan([]int{6, 17}, []int{4, 19}), ""},
		{"a track", l, plan([]int{6, 18}, []int{4, 18}), ""},
		{"a station", changed(l, narrowed), p, ""},
		{"no trains, a row", impl.Line{Tracks: ones(2)}, plan(nil), ""},
	}
	for i, spoil := range spoils() {
		cases = append(cases, diagramCase{"spoil " + strconv.Itoa(i), changed(l, spoil), p, ""})
	}
	for _, c := range cases {
		if got := impl.Diagram(c.l, c.p); got != c.want {
			t.Errorf("%s: %q", c.name, got)
		}
	}
}
