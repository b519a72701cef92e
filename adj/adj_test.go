package adj_test

import (
	"bytes"
	"math"
	"slices"
	"strings"
	"testing"

	"creel/adj"
	"creel/api"
	"creel/edge"
	"creel/trial"
)

// places are where a line may be said to begin.
var places = []int{0, 10, -5, 1 << 40}

// parses fails the test, if a line is other items.
func parses(t *testing.T, at int, s string, numeric bool, want ...api.Item) {
	t.Helper()
	got := adj.Parse(api.Line{At: at, B: []byte(s)}, numeric)
	if trial.Shown(got...) != trial.Shown(want...) {
		t.Errorf("%q at %d, numeric %t:\n%swant\n%s", s, at, numeric, trial.Shown(got...), trial.Shown(want...))
	}
}

// from is the edges from a label to others, or the label alone.
func from(a string, to ...string) []api.Item {
	if len(to) == 0 {
		return []api.Item{trial.Lone(a)}
	}
	var l []api.Item
	for _, b := range to {
		l = append(l, trial.Edge(a, b))
	}
	return l
}

func TestParse(t *testing.T) { // P9.1
	long := strings.Repeat("x", api.MaxLabel)
	for _, at := range places {
		parses(t, at, "a b c", false, from("a", "b", "c")...)
		parses(t, at, "a", false, from("a")...)
		parses(t, at, " \ta\t ", false, from("a")...)
		parses(t, at, "c a b a", false, from("c", "a", "b", "a")...)
		parses(t, at, "a a", false, from("a", "a")...)
		parses(t, at, "\t a \t\tbc \t d\t", false, from("a", "bc", "d")...)
		parses(t, at, "# b", false, from("#", "b")...)
		parses(t, at, "#", false, from("#")...)
		parses(t, at, "a\r \x00 \xff\n", false, from("a\r", "\x00", "\xff\n")...)
		parses(t, at, long+" "+long+" a", false, from(long, long, "a")...)
		parses(t, at, "01 1", false, from("01", "1")...)
		parses(t, at, "1 258  4294967295\t0", true, from("\x00\x00\x00\x01", "\x00\x00\x01\x02", "\xff\xff\xff\xff", "\x00\x00\x00\x00")...)
		parses(t, at, " 7", true, from("\x00\x00\x00\x07")...)
	}
	many := strings.Fields(strings.Repeat("b cc d ", 3000))
	parses(t, 3, "a "+strings.Join(many, " "), false, from("a", many...)...)
}

func TestParseOfNoWords(t *testing.T) { // P9.1
	for _, at := range places {
		for _, s := range []string{"", " ", "\t", " \t  \t"} {
			for _, numeric := range []bool{false, true} {
				parses(t, at, s, numeric, trial.Bad(api.ErrWords, at))
			}
		}
	}
}

func TestParseOfNoLabels(t *testing.T) { // P9.1: the first one that is none, and nothing of the others
	long := strings.Repeat("x", api.MaxLabel+1)
	for _, at := range places {
		for s, in := range map[string]int{long: 0, " \t" + long: 2, long + " a": 0, "a " + long: 2, "a b c\t\t" + long + " d " + long: 7} {
			parses(t, at, s, false, trial.Bad(api.ErrLabel, at+in))
		}
		for s, in := range map[string]int{"x": 0, " x": 1, "#": 0, "1 x": 2, "x 1": 0, "1 2 x 3": 4, "1 2 3\t01": 6, "1 2 3 4294967296 x": 6, "01 02": 0, "1 2\r": 2, "1 -1 x": 2} {
			parses(t, at, s, true, trial.Bad(api.ErrLabel, at+in))
		}
	}
}

// longhand is P9.1 by its words, of a line whose blanks are as strings has them.
func longhand(at int, s string, numeric bool) []api.Item {
	var labels []string
	end := 0
	for _, w := range strings.Fields(s) {
		begin := end + strings.Index(s[end:], w)
		end = begin + len(w)
		label, ok := edge.Label([]byte(w), numeric)
		if !ok {
			return []api.Item{trial.Bad(api.ErrLabel, at+begin)}
		}
		labels = append(labels, string(label))
	}
	if len(labels) == 0 {
		return []api.Item{trial.Bad(api.ErrWords, at)}
	}
	return from(labels[0], labels[1:]...)
}

func TestParseOfShortLines(t *testing.T) { // P9.1, for all that a few bytes may be
	for _, b := range trial.Texts("01a \t", 7) {
		for _, numeric := range []bool{false, true} {
			parses(t, 7, string(b), numeric, longhand(7, string(b), numeric)...)
		}
	}
}

func TestParseAtTheEnds(t *testing.T) { // rule 1: a line may be said to be anywhere
	for _, at := range []int{math.MinInt, math.MaxInt, -1} {
		parses(t, at, "", false, trial.Bad(api.ErrWords, at))
		parses(t, at, "x", true, trial.Bad(api.ErrLabel, at))
		parses(t, at, "a b", false, trial.Edge("a", "b"))
		if got := adj.Parse(api.Line{At: at, B: []byte("1 x")}, true); len(got) != 1 || got[0].Code != api.ErrLabel || got[0].Two || len(got[0].A)+len(got[0].B) > 0 {
			t.Errorf("1 x at %d: %s", at, trial.Shown(got...))
		}
	}
	if got := adj.Parse(api.Line{}, true); trial.Shown(got...) != trial.Shown(trial.Bad(api.ErrWords, 0)) {
		t.Errorf("no line: %s", trial.Shown(got...))
	}
}

// split is texts, one behind each bar.
func split(s string) [][]byte {
	if s == "" {
		return nil
	}
	return bytes.Split([]byte(s), []byte("|"))
}

// puts fails the test, if labels are another line; none is wanted, if ok is false.
func puts(t *testing.T, v string, to [][]byte, numeric bool, want string, ok bool) {
	t.Helper()
	if got, there := adj.Put([]byte(v), to, numeric); string(got) != want || there != ok {
		t.Errorf("%q to %q, numeric %t: %q, %t; want %q, %t", v, to, numeric, got, there, want, ok)
	}
}

func TestPut(t *testing.T) { // P9.2
	long := strings.Repeat("x", api.MaxLabel)
	for _, x := range []struct{ v, to, want string }{
		{"a", "", "a"}, {"a", "b", "a b"}, {"a", "b|c", "a b c"}, {"c", "b|a|b|c", "c b a b c"}, {"a", "#b|#", "a #b #"}, {"a#", "b", "a# b"}, {"01", "1", "01 1"},
		{long, long + "|a", long + " " + long + " a"}, {"\x00", "\xff|\x0b|\x0c|\xa0\xc2\xa0|\xc2", "\x00 \xff \x0b \x0c \xa0\xc2\xa0 \xc2"},
	} {
		puts(t, x.v, split(x.to), false, x.want, true)
	}
	puts(t, "\x00\x00\x00\x09", [][]byte{{0, 0, 0, 1}, {0, 0, 1, 0}}, true, "9 1 256", true)
	puts(t, "####", [][]byte{[]byte("    "), {9, 10, 13, 32}, {255, 255, 255, 255}}, true, "589505315 538976288 151653664 4294967295", true) // it's the texts that count
	puts(t, "\x00\x00\x00\x00", [][]byte{}, true, "0", true)
	many := strings.Repeat("b|cc|d|", 3000) + "e"
	puts(t, "a", split(many), false, "a "+strings.ReplaceAll(many, "|", " "), true)
}

func TestPutOfNone(t *testing.T) { // P9.2
	long := strings.Repeat("x", api.MaxLabel+1)
	for _, bad := range []string{"", long, " ", "\t", "\n", "\r", "a b", " a", "a ", "a\t", "\na", "a\nb", "a\r", "\rb"} {
		puts(t, bad, nil, false, "", false)
		puts(t, bad, split("b|c"), false, "", false)
		puts(t, "a", [][]byte{[]byte(bad)}, false, "", false)
		puts(t, "a", [][]byte{[]byte("b"), []byte(bad), []byte("c")}, false, "", false)
		puts(t, "a", [][]byte{[]byte("b"), []byte("c"), []byte(bad)}, false, "", false)
	}
	for _, v := range []string{"#", "#a", "##", "#" + long[:api.MaxLabel-1]} {
		puts(t, v, nil, false, "", false)
		puts(t, v, split("b"), false, "", false)
	}
	for _, bad := range []string{"", "1", "123", "12345", long} {
		puts(t, bad, nil, true, "", false)
		puts(t, "abcd", [][]byte{[]byte(bad)}, true, "", false)
		puts(t, "abcd", [][]byte{[]byte("abcd"), []byte(bad), []byte("abcd")}, true, "", false)
	}
	puts(t, "", nil, true, "", false)
	puts(t, "a", [][]byte{nil}, false, "", false)
	if b, ok := adj.Put(nil, nil, false); len(b) > 0 || ok {
		t.Errorf("Put of nothing: %q, %t", b, ok)
	}
}

func TestPutOfAnyByte(t *testing.T) { // P9.2: four bytes can't be in a word, and one can't begin a line
	for c := range 256 {
		s := string([]byte{byte(c)})
		fits := !strings.Contains("\t\n\r ", s)
		for _, w := range []string{s, s + "a", "a" + s, "a" + s + "b", s + s, strings.Repeat("a", 20) + s, "\xe2\x82" + s} {
			want := ""
			if fits {
				want = "v " + w
			}
			puts(t, "v", [][]byte{[]byte(w)}, false, want, fits)
			if ok := fits && w[0] != '#'; ok {
				puts(t, w, nil, false, w, true)
			} else {
				puts(t, w, nil, false, "", false)
			}
		}
	}
}

// returns fails the test, if what is put is not parsed as the same.
func returns(t *testing.T, v []byte, to [][]byte, numeric bool) bool {
	t.Helper()
	b, ok := adj.Put(v, to, numeric)
	if !ok {
		return false
	}
	var l []string
	for _, x := range to {
		l = append(l, string(x))
	}
	parses(t, 9, string(b), numeric, from(string(v), l...)...)
	return true
}

func TestWhatWasPutIsParsed(t *testing.T) { // P9.3
	many := 0
	texts := trial.Texts("a# \r", 2)
	for _, v := range texts {
		for _, b := range texts {
			for _, l := range [][][]byte{nil, {b}, {b, v}, {v, b, b}} {
				if returns(t, v, l, false) {
					many++
				}
			}
		}
	}
	if many == 0 {
		t.Error("nothing was put")
	}
	noise := trial.Mixed(4000)
	for size := range 9 {
		to := slices.Collect(slices.Chunk(noise[4:4+4*size], 4))
		if !returns(t, noise[:4], to, true) {
			t.Errorf("a vertex of %d neighbours was not put", size)
		}
		noise = noise[4:]
	}
}

func TestLinesThatAreHandedInStay(t *testing.T) { // rules 4 and 5, of Parse
	for _, numeric := range []bool{false, true} {
		for _, s := range []string{"", "1", "1 2", "1 1 1", " 10\t20 30 ", "1 x", "x 1", "1 2 3 "} {
			b, room := trial.Ahead([]byte(s), []byte("7 z1 8"))
			was := bytes.Clone(room)
			want := trial.Shown(adj.Parse(api.Line{At: 3, B: []byte(s)}, numeric)...)
			one := adj.Parse(api.Line{At: 3, B: b}, numeric)
			other := adj.Parse(api.Line{At: 3, B: b}, numeric)
			if trial.Shown(one...) != want {
				t.Errorf("%q: what is behind it was read", s)
			}
			for i, x := range one {
				trial.Fill(x.A)
				if i+1 < len(one) && trial.Shown(one[i+1:]...) != trial.Shown(other[i+1:]...) || !bytes.Equal(x.B, other[i].B) {
					t.Errorf("%q: item %d shares memory", s, i)
				}
				trial.Fill(x.B)
				if i+1 < len(one) && trial.Shown(one[i+1:]...) != trial.Shown(other[i+1:]...) {
					t.Errorf("%q: item %d shares memory", s, i)
				}
			}
			if !bytes.Equal(room, was) || trial.Shown(other...) != want {
				t.Errorf("%q: the answer shares memory", s)
			}
			trial.Fill(b)
			if trial.Shown(other...) != want {
				t.Errorf("%q: what was handed in is kept", s)
			}
		}
	}
}

func TestLabelsThatAreHandedInStay(t *testing.T) { // rules 4 and 5, of Put
	for _, x := range []struct {
		v, to   string
		numeric bool
	}{{"a", "", false}, {"a", "b|c", false}, {"a", "b |c", false}, {"#", "b", false}, {"abcd", "efgh|0000", true}, {"abcd", "e", true}} {
		v, vroom := trial.Ahead([]byte(x.v), []byte("xyz"))
		to := split(x.to)
		list := append(slices.Clone(to), []byte("unread"))
		var rooms [][]byte
		for i, l := range to {
			b, room := trial.Ahead(l, []byte("uvw"))
			list[i] = b
			rooms = append(rooms, room)
		}
		was := bytes.Join(append(rooms, vroom), nil)
		want, ok := adj.Put([]byte(x.v), to, x.numeric)
		one, ok1 := adj.Put(v, list[:len(to)], x.numeric)
		other, ok2 := adj.Put(v, list[:len(to)], x.numeric)
		if !bytes.Equal(one, want) || !bytes.Equal(other, want) || ok1 != ok || ok2 != ok {
			t.Errorf("%q to %q: %q and %q, want %q", x.v, to, one, other, want)
		}
		trial.Fill(one)
		if !bytes.Equal(bytes.Join(append(rooms, vroom), nil), was) || string(list[len(to)]) != "unread" || !bytes.Equal(other, want) {
			t.Errorf("%q to %q: the answer shares memory", x.v, to)
		}
		trial.Fill(v)
		for _, b := range list {
			trial.Fill(b)
		}
		if !bytes.Equal(other, want) {
			t.Errorf("%q to %q: what was handed in is kept", x.v, to)
		}
	}
}
