package tests

import (
	"fmt"
	"reflect"
	"regexp"
	"strconv"
	"strings"
	"testing"

	"loop.example/stringline/impl"
)

// wide is a right line with numbers from all over their limits.
func (d *dice) wide() impl.Line {
	l := impl.Line{Gap: d.upTo(10001)}
	for range 2 + d.upTo(11) {
		l.Tracks = append(l.Tracks, 1+d.upTo(10))
	}
	for _, legs := range [][]int{{}, {1}, {10}, {3, 4}, {2, 2, 2, 2, 2}, {1, 5, 4}, {6, 1, 1, 1}}[d.upTo(7)] {
		t := d.train(len(l.Tracks), legs)
		t.Ready, t.Due, t.Weight = d.upTo(100001), d.upTo(100001), 1+d.upTo(100)
		for k := range t.Legs {
			t.Legs[k].Run, t.Legs[k].Stay = 1+d.upTo(10000), d.upTo(10001)
		}
		l.Trains = append(l.Trains, t)
	}
	return l
}

// wordsWrite is the text of a line, whether it is right or not.
func wordsWrite(l impl.Line) string {
	text := "tracks"
	for _, n := range l.Tracks {
		text += fmt.Sprintf(" %d", n)
	}
	text += fmt.Sprintf("\ngap %d\n", l.Gap)
	for _, t := range l.Trains {
		text += fmt.Sprintf("train %d ready %d due %d weight %d\n", t.From, t.Ready, t.Due, t.Weight)
		for _, leg := range t.Legs {
			text += fmt.Sprintf("leg %d run %d stay %d\n", leg.To, leg.Run, leg.Stay)
		}
	}
	return text
}

var (
	digits    = `(0|[1-9][0-9]{0,6})`
	tracksRow = regexp.MustCompile(`^tracks( ` + digits + `){1,39}$`)
	gapRow    = regexp.MustCompile(`^gap ` + digits + `$`)
	trainRow  = regexp.MustCompile(`^train ` + digits + ` ready ` + digits + ` due ` + digits + ` weight ` + digits + `$`)
	legRow    = regexp.MustCompile(`^leg ` + digits + ` run ` + digits + ` stay ` + digits + `$`)
)

func numbersOf(row string) []int {
	var out []int
	for _, word := range strings.Split(row, " ") {
		if n, err := strconv.Atoi(word); err == nil {
			out = append(out, n)
		}
	}
	return out
}

// wordsRead is ReadLine as its chapter tells it, row by row.
func wordsRead(text string) impl.Told {
	if len(text) > 4000 {
		return impl.Told{Code: 2}
	}
	rows := strings.SplitAfter(text, "\n")
	if len(rows) > 2 && rows[len(rows)-1] == "" {
		rows = rows[:len(rows)-1]
	}
	var l impl.Line
	for i, row := range rows {
		row, whole := strings.CutSuffix(row, "\n")
		n := numbersOf(row)
		last := len(l.Trains) - 1
		switch {
		case whole && i == 0 && tracksRow.MatchString(row):
			l.Tracks = n
		case whole && i == 1 && gapRow.MatchString(row):
			l.Gap = n[0]
		case whole && i > 1 && trainRow.MatchString(row):
			l.Trains = append(l.Trains, impl.Train{From: n[0], Ready: n[1], Due: n[2], Weight: n[3]})
		case whole && i > 1 && legRow.MatchString(row) && last >= 0:
			l.Trains[last].Legs = append(l.Trains[last].Legs, impl.Leg{To: n[0], Run: n[1], Stay: n[2]})
		default:
			return impl.Told{Code: 1, Line: i + 1}
		}
	}
	if fault := impl.LineOk(l); fault.Code != 0 {
		return impl.Told{Code: 2 + fault.Code}
	}
	return impl.Told{It: l}
}

func sameTold(a, b impl.Told) bool {
	return a.Code == b.Code && a.Line == b.Line && sameLine(a.It, b.It)
}

// TestReadBackByWords: whatever right line, it is read back from its text.
func TestReadBackByWords(t *testing.T) {
	d := dice(12)
	for range 3000 {
		l := d.wide()
		asWas := changed(l, func(*impl.Line) {})
		text := impl.WriteLine(l)
		if text != wordsWrite(l) {
			t.Fatalf("%+v: %q", l, text)
		}
		if got := impl.ReadLine(text); !sameTold(got, impl.Told{It: l}) {
			t.Fatalf("%q: %+v, want %+v", text, got, l)
		}
		if !reflect.DeepEqual(l, asWas) {
			t.Fatal("written into")
		}
	}
}

// spoiltBytes is a text in which a byte is another, left out, or put in.
func (d *dice) spoiltBytes(text string) string {
	const bytes = "0123456789 \n\ttrackslegdu-+x"
	at, other := d.upTo(len(text)), bytes[d.upTo(len(bytes)):][:1]
	switch d.upTo(4) {
	case 0:
		return text[:at] + other + text[at+1:]
	case 1:
		return text[:at] + text[at+1:]
	case 2:
		return text[:at] + other + text[at:]
	}
	return text[:at]
}

// spoiltRows is a text in which a row is another, left out, or put in.
func (d *dice) spoiltRows(text string) string {
	rows := strings.SplitAfter(text, "\n")
	at, other := d.upTo(len(rows)), rows[d.upTo(len(rows))]
	switch d.upTo(4) {
	case 0:
		rows[at] = other
	case 1:
		rows[at] = ""
	case 2:
		rows[at] = other + rows[at]
	default:
		rows[at] += "\n"
	}
	return strings.Join(rows, "")
}

// spoiltNumber is a text of a line in which a number may be too great, or its text not as it should be.
func (d *dice) spoiltNumber(text string) string {
	others := []string{"0", "00", "01", "10001", "100001", "9999999", "10000000", "-1", "+1", "12", "13"}
	words := strings.Split(text, " ")
	if len(words) == 1 {
		return text
	}
	at := 1 + d.upTo(len(words)-1)
	words[at] = others[d.upTo(len(others))] + strings.TrimLeft(words[at], "0123456789")
	return strings.Join(words, " ")
}

// TestReadByWords holds texts that nearly can be read against the words of the chapter; one that is read is the line's own text.
func TestReadByWords(t *testing.T) {
	d := dice(13)
	var codes [6]int
	lines := map[int]int{}
	for range 40000 {
		text := wordsWrite(d.wide())
		for range 1 + d.upTo(2) {
			if text == "" {
				break
			}
			switch d.upTo(3) {
			case 0:
				text = d.spoiltBytes(text)
			case 1:
				text = d.spoiltRows(text)
			default:
				text = d.spoiltNumber(text)
			}
		}
		got, want := impl.ReadLine(text), wordsRead(text)
		if !sameTold(got, want) {
			t.Fatalf("%q: %+v, want %+v", text, got, want)
		}
		if got.Code == 0 && impl.WriteLine(got.It) != text {
			t.Fatalf("%q: read as %+v, that has another text", text, got.It)
		}
		codes[got.Code]++
		lines[got.Line]++
	}
	for _, code := range []int{0, 1, 3, 4, 5} {
		if codes[code] < 300 {
			t.Errorf("code %d came only %d times", code, codes[code])
		}
	}
	for line := range 10 {
		if lines[line] < 100 {
			t.Errorf("line %d came only %d times", line, lines[line])
		}
	}
}

// wordsDiagram is the diagram of a plan that can be.
func wordsDiagram(l impl.Line, p impl.Plan) string {
	text := ""
	for i, t := range l.Trains {
		text += "ABCDE"[i : i+1]
		at, there := t.From, 0
		for k, leg := range t.Legs {
			text += fmt.Sprintf(" %d@%d", at, p.Starts[i][k])
			at, there = leg.To, p.Starts[i][k]+leg.Run
		}
		text += fmt.Sprintf(" %d@%d", at, there)
		if there > t.Due {
			text += fmt.Sprintf(" late %d", there-t.Due)
		}
		text += "\n"
	}
	return text
}

func TestDiagramByWords(t *testing.T) {
	d := dice(14)
	can, late, cannot := 0, 0, 0
	for l, p := range d.plansNearby(4000) {
		want := ""
		if wordsCheck(l, p) == (impl.Clash{}) {
			can++
			want = wordsDiagram(l, p)
			late += strings.Count(want, "late")
		} else {
			cannot++
		}
		if got := impl.Diagram(l, p); got != want {
			t.Fatalf("%+v, %v: %q, want %q", l, p, got, want)
		}
	}
	if can < 300 || late < 300 || cannot < 300 {
		t.Errorf("only %d plans that can be, only %d late trains, only %d plans that cannot be", can, late, cannot)
	}
}
