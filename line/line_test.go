package line_test

import (
	"bytes"
	"math"
	"slices"
	"strconv"
	"strings"
	"testing"

	"creel/api"
	"creel/line"
	"creel/trial"
)

// at is a line, or a word, of a place and a text.
func at(place int, text string) api.Line { return api.Line{At: place, B: []byte(text)} }

// same tells whether lines, or words, have the same places and bytes.
func same(a, b []api.Line) bool {
	return slices.EqualFunc(a, b, func(x, y api.Line) bool { return x.At == y.At && bytes.Equal(x.B, y.B) })
}

// shown is lines, or words, as they are told of in a test that fails.
func shown(l []api.Line) string {
	var s strings.Builder
	for _, x := range l {
		s.WriteString(" " + strconv.Quote(string(x.B)) + " at " + strconv.Itoa(x.At))
	}
	return s.String()
}

// lines are what a function to range over tells; the test fails, if their numbers are not from 0 on.
func lines(t *testing.T, f func(func(int, api.Line) bool)) []api.Line {
	t.Helper()
	var l []api.Line
	for i, x := range f {
		if i != len(l) {
			t.Fatalf("line %d has the number %d", len(l), i)
		}
		l = append(l, x)
	}
	return l
}

// splitLines is P7.1 by its words: all that bytes 10 are between, each where it begins, but what is behind the last one if that is nothing.
func splitLines(b []byte) []api.Line {
	var l []api.Line
	place := 0
	for _, x := range bytes.Split(b, []byte{10}) {
		l = append(l, api.Line{At: place, B: bytes.TrimSuffix(x, []byte{13})})
		place += len(x) + 1
	}
	if len(b) == 0 || b[len(b)-1] == 10 {
		return l[:len(l)-1]
	}
	return l
}

// splitWords is P7.2 by its words: all that blanks are between, each where it begins, but those without a byte.
func splitWords(l api.Line) []api.Line {
	var words []api.Line
	place := l.At
	for _, x := range strings.Split(strings.ReplaceAll(string(l.B), "\t", " "), " ") {
		if x != "" {
			words = append(words, at(place, x))
		}
		place += len(x) + 1
	}
	return words
}

func TestAll(t *testing.T) { // P7.1
	for text, want := range map[string][]api.Line{
		"":                   nil,
		"a":                  {at(0, "a")},
		"a\n":                {at(0, "a")},
		"a\nb":               {at(0, "a"), at(2, "b")},
		"a\nb\n":             {at(0, "a"), at(2, "b")},
		"\n":                 {at(0, "")},
		"\n\n":               {at(0, ""), at(1, "")},
		"\na":                {at(0, ""), at(1, "a")},
		"ab\n\n cd \n":       {at(0, "ab"), at(3, ""), at(4, " cd ")},
		"\r":                 {at(0, "")}, // something, though no line has it
		"\r\n":               {at(0, "")},
		"\n\r":               {at(0, ""), at(1, "")},
		"a\r":                {at(0, "a")},
		"a\r\nb\r\n":         {at(0, "a"), at(3, "b")},
		"a\r\r\nb\r\r":       {at(0, "a\r"), at(4, "b\r")}, // one is none of it, not two
		"a\rb\n\rc":          {at(0, "a\rb"), at(4, "\rc")},
		"\r\r":               {at(0, "\r")},
		"a\r \n":             {at(0, "a\r ")},
		"a\v\fb\u0085\u2028": {at(0, "a\v\fb\u0085\u2028")}, // nothing but a byte 10 ends a line
		"\x00\xff\n\xfe":     {at(0, "\x00\xff"), at(3, "\xfe")},
	} {
		if got := lines(t, line.All([]byte(text))); !same(got, want) {
			t.Errorf("%q:%s; want%s", text, shown(got), shown(want))
		}
	}
}

func TestAllOfTheExample(t *testing.T) {
	l := lines(t, line.All([]byte{'a', 13, 10, 10, 32, 'b'}))
	if want := []api.Line{at(0, "a"), at(3, ""), at(4, " b")}; !same(l, want) {
		t.Fatalf("lines:%s; want%s", shown(l), shown(want))
	}
	if w := line.Words(l[2]); !same(w, []api.Line{at(5, "b")}) {
		t.Errorf("words:%s; want b at 5", shown(w))
	}
}

func TestAllOfShortTexts(t *testing.T) { // P7.1, for all that a few bytes may be
	for _, b := range trial.Texts("a\n\r ", 7) {
		if got, want := lines(t, line.All(b)), splitLines(b); !same(got, want) {
			t.Fatalf("%q:%s; want%s", b, shown(got), shown(want))
		}
	}
}

func TestAllOfLongTexts(t *testing.T) { // P7.1
	long := bytes.Repeat([]byte("x"), 1<<16)
	for _, b := range [][]byte{trial.Mixed(1 << 16), bytes.Repeat([]byte{10}, 5000), bytes.Repeat([]byte{13}, 5000), bytes.Repeat([]byte("ab c\r\n"), 5000), long, append(long, 10)} {
		if !same(lines(t, line.All(b)), splitLines(b)) {
			t.Errorf("%d bytes: other lines than those between bytes 10", len(b))
		}
	}
}

func TestLinesStandApart(t *testing.T) { // P7.3
	for _, b := range append(trial.Texts("a\n\r ", 6), trial.Mixed(5000)) {
		behind := 0
		for i, l := range line.All(b) {
			if l.At < behind || l.At+len(l.B) > len(b) || !bytes.Equal(l.B, b[l.At:l.At+len(l.B)]) {
				t.Fatalf("%q: line %d at %d is not there, or not behind the one ahead of it", b[:min(len(b), 40)], i, l.At)
			}
			word := l.At
			for _, w := range line.Words(l) {
				in := w.At - l.At
				if w.At < word || in+len(w.B) > len(l.B) || !bytes.Equal(w.B, l.B[in:in+len(w.B)]) {
					t.Fatalf("%q: a word at %d is not there, or not behind the one ahead of it", l.B, w.At)
				}
				word = w.At + len(w.B) + 1
			}
			behind = l.At + len(l.B) + 1
		}
	}
}

func TestAllEndsAtFalse(t *testing.T) { // P7.3
	const text = "a\r\n\nb c\nd"
	for most := 1; most <= 5; most++ {
		told := 0
		line.All([]byte(text))(func(int, api.Line) bool {
			told++
			return told < most
		})
		if want := min(most, 4); told != want {
			t.Errorf("false behind %d lines of four: %d were told", most, told)
		}
	}
}

func TestAllIsRangedOverAgain(t *testing.T) { // P7.1, and the word of a function to range over
	f := line.All([]byte("a\r\n\nb"))
	want := []api.Line{at(0, "a"), at(3, ""), at(4, "b")}
	for i := range f { // one that ends ahead of the last line
		if i == 1 {
			break
		}
	}
	for range 2 {
		if got := lines(t, f); !same(got, want) {
			t.Errorf("again:%s; want%s", shown(got), shown(want))
		}
	}
	for range f { // one within another
		if got := lines(t, f); !same(got, want) {
			t.Errorf("within:%s; want%s", shown(got), shown(want))
		}
	}
}

func TestWords(t *testing.T) { // P7.2
	for text, want := range map[string][]api.Line{
		"":              nil,
		" ":             nil,
		"\t":            nil,
		" \t\t ":        nil,
		"a":             {at(0, "a")},
		"ab":            {at(0, "ab")},
		" ab":           {at(1, "ab")},
		"ab ":           {at(0, "ab")},
		"a b":           {at(0, "a"), at(2, "b")},
		"a\tb":          {at(0, "a"), at(2, "b")},
		"\t a \t bcd\t": {at(2, "a"), at(6, "bcd")},
		"# a":           {at(0, "#"), at(2, "a")},
		"a # b#":        {at(0, "a"), at(2, "#"), at(4, "b#")},
	} {
		for _, place := range []int{0, 7, -3, 1 << 40} {
			if got, want := line.Words(at(place, text)), moved(want, place); !same(got, want) {
				t.Errorf("%q at %d:%s; want%s", text, place, shown(got), shown(want))
			}
		}
	}
}

// moved are words of a line that begins further on.
func moved(l []api.Line, by int) []api.Line {
	out := slices.Clone(l)
	for i := range out {
		out[i].At += by
	}
	return out
}

func TestWordsOfShortLines(t *testing.T) { // P7.2, for all that a few bytes may be
	for _, b := range trial.Texts("a# \t\r", 6) {
		l := api.Line{At: 9, B: b}
		if got, want := line.Words(l), splitWords(l); !same(got, want) {
			t.Fatalf("%q:%s; want%s", b, shown(got), shown(want))
		}
	}
}

func TestBlanksAreTwoBytes(t *testing.T) { // P7.2: no other byte is a blank, a byte 10 neither
	for c := range 256 {
		got := line.Words(api.Line{B: []byte{'a', byte(c), 'b'}})
		want := []api.Line{{B: []byte{'a', byte(c), 'b'}}}
		if c == 32 || c == 9 {
			want = []api.Line{at(0, "a"), at(2, "b")}
		}
		if !same(got, want) {
			t.Errorf("a, byte %d, b:%s; want%s", c, shown(got), shown(want))
		}
	}
}

func TestWordsAtTheEnds(t *testing.T) { // rule 1: a line may be said to be anywhere
	for _, place := range []int{math.MinInt, math.MaxInt, -1} {
		got := line.Words(at(place, "a b"))
		if len(got) != 2 || got[0].At != place || string(got[0].B) != "a" || string(got[1].B) != "b" {
			t.Errorf("a b at %d:%s", place, shown(got))
		}
		if line.Bare(at(place, "a b")) || !line.Bare(at(place, "")) {
			t.Errorf("at %d a line is bare that is not, or the other way about", place)
		}
	}
}

func TestBare(t *testing.T) { // P7.2
	for text, want := range map[string]bool{
		"": true, " ": true, "\t": true, " \t ": true,
		"#": true, "#a": true, "# a": true, " \t#a b": true, "##": true,
		"a": false, "a#": false, "a #": false, " a # b": false, "\r": false, "\n": false, "\r#": false, "\x00": false, "\"#": false, "$": false,
	} {
		if got := line.Bare(at(5, text)); got != want {
			t.Errorf("%q is bare: %t", text, got)
		}
	}
	for c := range 256 {
		if got, want := line.Bare(api.Line{B: []byte{byte(c)}}), c == 32 || c == 9 || c == '#'; got != want {
			t.Errorf("byte %d is bare: %t", c, got)
		}
	}
	for _, b := range trial.Texts("a# \t\r", 6) {
		words := splitWords(api.Line{B: b})
		if got, want := line.Bare(api.Line{B: b}), len(words) == 0 || words[0].B[0] == '#'; got != want {
			t.Fatalf("%q is bare: %t", b, got)
		}
	}
}

// ahead are bytes that others stand behind, in the room that they have.
func ahead(b []byte) ([]byte, []byte) {
	room := append(bytes.Clone(b), "z\n#\r z"...)
	return room[:len(b)], room
}

func TestWhatIsHandedInStays(t *testing.T) { // rule 4
	for _, b := range trial.Texts("a\n\r# ", 4) {
		text, room := ahead(b)
		was := bytes.Clone(room)
		got, words := lines(t, line.All(text)), line.Words(api.Line{B: text})
		bare := line.Bare(api.Line{B: text})
		if !bytes.Equal(room, was) {
			t.Fatalf("%q was changed", b)
		}
		if !same(got, splitLines(b)) || !same(words, splitWords(api.Line{B: b})) || bare != line.Bare(api.Line{B: bytes.Clone(b)}) {
			t.Fatalf("%q: what is behind it was read", b)
		}
	}
}

func TestTextIsNotKept(t *testing.T) { // rule 4, and the word of a function to range over
	b := []byte("a b\nc d\ne")
	f := line.All(b)
	want := splitLines(bytes.Clone(b))
	clear(b)
	if got := lines(t, f); !same(got, want) {
		t.Errorf("behind a change of the text:%s; want%s", shown(got), shown(want))
	}
}

// filled lays a byte wherever lists have room.
func filled(l []api.Line) {
	for _, x := range l {
		room := x.B[:cap(x.B)]
		for k := range room {
			room[k] = '!'
		}
	}
}

func TestAnswersShareNoMemory(t *testing.T) { // rule 5
	b := []byte("a bc\nde\r\n f\n\ngh")
	want := splitLines(bytes.Clone(b))
	f := line.All(b)
	filled(lines(t, f))
	if got := lines(t, f); !same(got, want) {
		t.Errorf("behind a change of the lines that were told:%s; want%s", shown(got), shown(want))
	}
	for _, x := range f { // of those told already none changes one that is told later
		filled([]api.Line{x})
	}
	apart(t, lines(t, f))
	l := at(3, "a bc  def g")
	filled(line.Words(l))
	if string(l.B) != "a bc  def g" {
		t.Errorf("behind a change of its words a line is %q", l.B)
	}
	apart(t, line.Words(l))
}

// apart fails the test, if one of some lines, or words, changes when another one does.
func apart(t *testing.T, l []api.Line) {
	t.Helper()
	for i := range l {
		was := string(l[i].B)
		filled(l[:i])
		filled(l[i+1:])
		if string(l[i].B) != was {
			t.Fatalf("%q shares memory with another one", was)
		}
	}
}
