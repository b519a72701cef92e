package edge_test

import (
	"bytes"
	"cmp"
	"math"
	"strconv"
	"strings"
	"testing"

	"creel/api"
	"creel/edge"
	"creel/trial"
	"creel/vary"
)

// call is Label or Text.
type call func(b []byte, numeric bool) ([]byte, bool)

// tells fails the test, if a call tells anything but what is wanted; none is wanted, if ok is false.
func tells(t *testing.T, what string, f call, b []byte, numeric bool, want string, ok bool) {
	t.Helper()
	if got, there := f(b, numeric); there != ok || string(got) != want {
		t.Errorf("%s of %q, numeric %t: %q, %t; want %q, %t", what, b[:min(len(b), 50)], numeric, got, there, want, ok)
	}
}

// longhand is P8.1's label of a word of digits, by its words: the word is the one way in which its number is told.
func longhand(word string) (string, bool) {
	n, err := strconv.ParseUint(word, 10, 64)
	if err != nil || n >= 1<<32 || strconv.FormatUint(n, 10) != word {
		return "", false
	}
	return string([]byte{byte(n >> 24), byte(n >> 16), byte(n >> 8), byte(n)}), true
}

// numbers are those at which something changes, and some others, all below 2^32, in no order.
func numbers() []uint64 {
	l := []uint64{0, 258, 0x01020304, 0xfedcba98, math.MaxUint32}
	for k := range 32 {
		p := uint64(1) << k
		l = append(l, p-1, p, p+1)
	}
	for p := uint64(10); p < 1<<32; p *= 10 {
		l = append(l, p-1, p, p+1, 3*p&math.MaxUint32)
	}
	return l
}

func TestLabel(t *testing.T) { // P8.1, not numeric
	for size := 1; size <= api.MaxLabel; size++ {
		for _, b := range [][]byte{bytes.Repeat([]byte{'a'}, size), make([]byte, size), bytes.Repeat([]byte{' '}, size), trial.Mixed(size)} {
			tells(t, "Label", edge.Label, b, false, string(b), true)
			tells(t, "Text", edge.Text, b, false, string(b), true)
		}
	}
	for c := range 256 { // any byte may be in it
		for _, b := range [][]byte{{byte(c)}, {byte(c), 'a'}, {'1', byte(c)}} {
			tells(t, "Label", edge.Label, b, false, string(b), true)
			tells(t, "Text", edge.Text, b, false, string(b), true)
		}
	}
	for _, s := range []string{"01", "4294967296", "-1", "#", "a\nb"} { // digits are bytes as others are
		tells(t, "Label", edge.Label, []byte(s), false, s, true)
		tells(t, "Text", edge.Text, []byte(s), false, s, true)
	}
}

func TestLabelOfTooFewOrMany(t *testing.T) { // P8.1, not numeric
	for _, size := range []int{0, api.MaxLabel + 1, api.MaxLabel + 2, 64, 255, 256, 257, 256 + api.MaxLabel, 1 << 16, 1<<16 + 1} {
		for _, b := range [][]byte{make([]byte, size), bytes.Repeat([]byte{'1'}, size)} {
			tells(t, "Label", edge.Label, b, false, "", false)
			tells(t, "Text", edge.Text, b, false, "", false)
		}
	}
	tells(t, "Label", edge.Label, nil, false, "", false)
	tells(t, "Text", edge.Text, nil, false, "", false)
}

func TestLabelOfNumbers(t *testing.T) { // P8.1, numeric
	for word, want := range map[string]string{
		"0": "\x00\x00\x00\x00", "1": "\x00\x00\x00\x01", "9": "\x00\x00\x00\x09", "10": "\x00\x00\x00\x0a", "255": "\x00\x00\x00\xff", "256": "\x00\x00\x01\x00",
		"258": "\x00\x00\x01\x02", "65536": "\x00\x01\x00\x00", "16909060": "\x01\x02\x03\x04", "999999999": "\x3b\x9a\xc9\xff", "1000000000": "\x3b\x9a\xca\x00",
		"2147483647": "\x7f\xff\xff\xff", "2147483648": "\x80\x00\x00\x00", "4294967294": "\xff\xff\xff\xfe", "4294967295": "\xff\xff\xff\xff",
	} {
		tells(t, "Label", edge.Label, []byte(word), true, want, true)
		tells(t, "Text", edge.Text, []byte(want), true, word, true)
	}
	for _, n := range numbers() {
		word := strconv.FormatUint(n, 10)
		want, ok := longhand(word)
		if !ok {
			t.Fatalf("%d is no number of a label", n)
		}
		tells(t, "Label", edge.Label, []byte(word), true, want, true)
		tells(t, "Text", edge.Text, []byte(want), true, word, true)
	}
}

func TestLabelOfNoNumbers(t *testing.T) { // P8.1, numeric
	for _, word := range []string{
		"", "00", "01", "007", "0000000000", "0000000001", "00000000001", "0123456789", // the first 0, and more than one
		"4294967296", "4294967297", "4294967305", "4300000000", "5000000000", "8589934592", "9999999999", // from 2^32 on
		"10000000000", "99999999999", "42949672950", "18446744073709551616", "18446744073709551617", strings.Repeat("9", 100), strings.Repeat("1", 1<<16), // more than ten
		"a", "1a", "a1", "1 ", " 1", "1 2", "1\n", "1\r", "-1", "+1", "-0", "1.", "1e3", "0x1", "1_0", "\x00", "1\x00", "\xb1", "\u0661", "/", ":", "1/", "1:", // no digit
	} {
		tells(t, "Label", edge.Label, []byte(word), true, "", false)
	}
	tells(t, "Label", edge.Label, nil, true, "", false)
}

func TestLabelOfShortWords(t *testing.T) { // P8.1, numeric, for all that a few bytes may be
	for c := range 256 {
		for _, word := range []string{string([]byte{byte(c)}), string([]byte{byte(c), '1'}), string([]byte{'1', byte(c)}), string([]byte{'4', '2', byte(c), '7', '9'})} {
			want, ok := longhand(word)
			tells(t, "Label", edge.Label, []byte(word), true, want, ok)
		}
	}
	for _, b := range trial.Texts("0149 -a", 5) {
		want, ok := longhand(string(b))
		tells(t, "Label", edge.Label, b, true, want, ok)
	}
	for _, end := range trial.Texts("0459", 4) {
		for _, front := range []string{"429496", "4294967", "04294", "99999", "100000"} {
			word := front + string(end)
			want, ok := longhand(word)
			tells(t, "Label", edge.Label, []byte(word), true, want, ok)
		}
	}
}

func TestTextOfNoLabels(t *testing.T) { // P8.1, numeric: no word has such a label
	for size := range 40 {
		if size == 4 {
			continue
		}
		for _, b := range [][]byte{make([]byte, size), bytes.Repeat([]byte{255}, size), bytes.Repeat([]byte{'1'}, size)} {
			tells(t, "Text", edge.Text, b, true, "", false)
		}
	}
	tells(t, "Text", edge.Text, nil, true, "", false)
	tells(t, "Text", edge.Text, make([]byte, 1<<16+4), true, "", false)
	tells(t, "Text", edge.Text, []byte("1234"), true, "825373492", true) // any four bytes are one
}

// parses fails the test, if a line is another item.
func parses(t *testing.T, at int, s string, numeric bool, want api.Item) {
	t.Helper()
	if got := edge.Parse(api.Line{At: at, B: []byte(s)}, numeric); trial.Shown(got) != trial.Shown(want) {
		t.Errorf("%q at %d, numeric %t: %s; want %s", s, at, numeric, trial.Shown(got), trial.Shown(want))
	}
}

func TestParse(t *testing.T) { // P8.2
	long := strings.Repeat("x", api.MaxLabel)
	for _, at := range []int{0, 10, -5, 1 << 40} {
		for s, want := range map[string]api.Item{
			"a b": trial.Edge("a", "b"), " a\tb ": trial.Edge("a", "b"), "\t \tab  \t cd\t": trial.Edge("ab", "cd"), "b a": trial.Edge("b", "a"), "a a": trial.Edge("a", "a"), "# b": trial.Edge("#", "b"),
			"#a #": trial.Edge("#a", "#"), "1 01": trial.Edge("1", "01"), "a\r b\n": trial.Edge("a\r", "b\n"), "\x00 \xff": trial.Edge("\x00", "\xff"), long + " a": trial.Edge(long, "a"), "a " + long: trial.Edge("a", long),
		} {
			parses(t, at, s, false, want)
		}
		for s, want := range map[string]api.Item{
			"1 22": trial.Edge("\x00\x00\x00\x01", "\x00\x00\x00\x16"), " 4294967295\t0 ": trial.Edge("\xff\xff\xff\xff", "\x00\x00\x00\x00"), "258 258": trial.Edge("\x00\x00\x01\x02", "\x00\x00\x01\x02"),
		} {
			parses(t, at, s, true, want)
		}
	}
}

func TestParseOfOtherWords(t *testing.T) { // P8.2: not two words, whatever these are
	for _, at := range []int{0, 10, -5, 1 << 40} {
		for _, s := range []string{"", " ", "\t \t", "a", "  a ", "1", "#", "a b c", " 1 2 3", "# a b", "a b c d", strings.Repeat("a ", 100), strings.Repeat("y", 40), "a b " + strings.Repeat("y", 40), "01", "01 x 02"} {
			for _, numeric := range []bool{false, true} {
				parses(t, at, s, numeric, api.Item{Code: api.ErrWords, At: at})
			}
		}
	}
}

func TestParseOfNoLabels(t *testing.T) { // P8.2: the first one that is none
	long := strings.Repeat("x", api.MaxLabel+1)
	for _, at := range []int{0, 10, -5, 1 << 40} {
		for s, in := range map[string]int{long + " a": 0, " " + long + " a": 1, "a " + long: 2, "ab \t " + long + " ": 5, "\t" + long + "\t" + long: 1} {
			parses(t, at, s, false, api.Item{Code: api.ErrLabel, At: at + in})
		}
		for s, in := range map[string]int{"1 x": 2, "x 1": 0, "x y": 0, "  01\t2": 2, "2\t\t01": 3, " 7  4294967296 ": 4, "4294967296 4294967296": 0, "# 1": 0, "1 2\r": 2, "0 -1": 2} {
			parses(t, at, s, true, api.Item{Code: api.ErrLabel, At: at + in})
		}
	}
}

func TestParseOfShortLines(t *testing.T) { // P8.2, for all that a few bytes may be
	for _, b := range trial.Texts("01a \t", 6) {
		words := strings.Fields(string(b))
		want := api.Item{Code: api.ErrWords, At: 7}
		plain := want
		if len(words) == 2 {
			plain = trial.Edge(words[0], words[1])
			first := strings.Index(string(b), words[0])
			second := first + len(words[0])
			second += strings.Index(string(b[second:]), words[1])
			l0, ok0 := longhand(words[0])
			l1, ok1 := longhand(words[1])
			switch {
			case !ok0:
				want = api.Item{Code: api.ErrLabel, At: 7 + first}
			case !ok1:
				want = api.Item{Code: api.ErrLabel, At: 7 + second}
			default:
				want = trial.Edge(l0, l1)
			}
		}
		parses(t, 7, string(b), false, plain)
		parses(t, 7, string(b), true, want)
	}
}

func TestParseAtTheEnds(t *testing.T) { // rule 1: a line may be said to be anywhere
	for _, at := range []int{math.MinInt, math.MaxInt, -1} {
		parses(t, at, "a b", false, trial.Edge("a", "b"))
		parses(t, at, "a", false, api.Item{Code: api.ErrWords, At: at})
		parses(t, at, "x 1", true, api.Item{Code: api.ErrLabel, At: at})
		if got := edge.Parse(api.Line{At: at, B: []byte("1 x")}, true); got.Code != api.ErrLabel || got.Two || len(got.A)+len(got.B) > 0 {
			t.Errorf("1 x at %d: %s", at, trial.Shown(got))
		}
	}
	if got := edge.Parse(api.Line{}, false); trial.Shown(got) != trial.Shown(api.Item{Code: api.ErrWords}) {
		t.Errorf("no line: %s", trial.Shown(got))
	}
}

func TestLabelsOfNumbersAreInOrder(t *testing.T) { // P8.3
	for _, a := range numbers() {
		for _, b := range numbers() {
			x, ok := edge.Label(strconv.AppendUint(nil, a, 10), true)
			y, ok2 := edge.Label(strconv.AppendUint(nil, b, 10), true)
			if !ok || !ok2 || bytes.Compare(x, y) != cmp.Compare(a, b) {
				t.Fatalf("labels of %d and %d: %v, %t and %v, %t", a, b, x, ok, y, ok2)
			}
		}
	}
}

// back fails the test, if what Text tells of a label is not taken as that label, or what is taken as one not told as Text.
func back(t *testing.T, b []byte, numeric bool) {
	t.Helper()
	if word, ok := edge.Text(b, numeric); ok {
		tells(t, "Label", edge.Label, word, numeric, string(b), true)
	}
	if l, ok := edge.Label(b, numeric); ok {
		tells(t, "Text", edge.Text, l, numeric, string(b), true)
	}
}

func TestWhatTextTellsIsTaken(t *testing.T) { // P8.3
	for _, n := range numbers() {
		back(t, vary.Fix(nil, n, 4), true)
	}
	noise := trial.Mixed(4000)
	for ; len(noise) >= 4; noise = noise[4:] {
		back(t, noise[:4], true)
	}
	for _, b := range trial.Texts("\x00\xff1 0", 5) {
		back(t, b, true)
		back(t, b, false)
	}
	for size := range 70 {
		back(t, trial.Mixed(size), false)
		back(t, trial.Mixed(size), true)
	}
}

func TestWhatIsHandedInStays(t *testing.T) { // rules 4 and 5, of Label and Text
	for what, f := range map[string]call{"Label": edge.Label, "Text": edge.Text} {
		for _, numeric := range []bool{false, true} {
			for _, s := range []string{"", "1", "12", "1234", "429496729", "4294967295", "01", "abcd", strings.Repeat("1", api.MaxLabel), strings.Repeat("1", api.MaxLabel+1)} {
				b, room := trial.Ahead([]byte(s), []byte("7 z1 8"))
				was := bytes.Clone(room)
				want, ok := f([]byte(s), numeric)
				tells(t, what, f, b, numeric, string(want), ok)
				one, _ := f(b, numeric)
				other, _ := f(b, numeric)
				trial.Fill(one)
				if !bytes.Equal(room, was) || !bytes.Equal(other, want) {
					t.Errorf("%s of %q, numeric %t: the answer shares memory", what, s, numeric)
				}
				trial.Fill(b)
				if !bytes.Equal(other, want) {
					t.Errorf("%s of %q, numeric %t: what was handed in is kept", what, s, numeric)
				}
			}
		}
	}
}

func TestLinesThatAreHandedInStay(t *testing.T) { // rules 4 and 5, of Parse
	for _, numeric := range []bool{false, true} {
		for _, s := range []string{"", "1", "1 2", "1 1", " 10\t20 ", "1 x", "x 1", "1 2 3", "1 2 "} {
			b, room := trial.Ahead([]byte(s), []byte("7 z1 8"))
			was := bytes.Clone(room)
			want := edge.Parse(api.Line{At: 3, B: []byte(s)}, numeric)
			one := edge.Parse(api.Line{At: 3, B: b}, numeric)
			other := edge.Parse(api.Line{At: 3, B: b}, numeric)
			if trial.Shown(one) != trial.Shown(want) {
				t.Errorf("%q: %s; want %s: what is behind it was read", s, trial.Shown(one), trial.Shown(want))
			}
			trial.Fill(one.A)
			if !bytes.Equal(one.B, want.B) {
				t.Errorf("%q: both labels share memory", s)
			}
			trial.Fill(one.B)
			if !bytes.Equal(room, was) || trial.Shown(other) != trial.Shown(want) {
				t.Errorf("%q: the answer shares memory", s)
			}
			trial.Fill(b)
			if trial.Shown(other) != trial.Shown(want) {
				t.Errorf("%q: what was handed in is kept", s)
			}
		}
	}
}
