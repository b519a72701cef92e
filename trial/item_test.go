package trial_test

import (
	"testing"

	"creel/api"
	"creel/trial"
)

func TestShown(t *testing.T) {
	all := []api.Item{{}, trial.Edge("a", "b"), trial.Edge("b", "a"), trial.Edge("ab", ""), trial.Lone("a"), trial.Lone("ab"), trial.Bad(api.ErrWords, 0), trial.Bad(api.ErrWords, 1), trial.Bad(api.ErrLabel, 1), {A: []byte("a"), B: []byte("b")}}
	for i, x := range all {
		for k, y := range all {
			if same := trial.Shown(x) == trial.Shown(y); same != (i == k) {
				t.Errorf("%d and %d are shown the same: %t", i, k, same)
			}
		}
		if trial.Shown(x, x) != trial.Shown(x)+trial.Shown(x) {
			t.Errorf("%d twice: %s", i, trial.Shown(x, x))
		}
	}
	if trial.Shown() != "" || trial.Shown(api.Item{A: []byte{}}) != trial.Shown(api.Item{}) {
		t.Error("nothing is not shown as nothing")
	}
}

func TestAheadAndFill(t *testing.T) {
	for _, x := range []struct{ b, others string }{{"ab", "cd"}, {"", "c"}, {"ab", ""}, {"", ""}} {
		b, room := trial.Ahead([]byte(x.b), []byte(x.others))
		if string(b) != x.b || string(room) != x.b+x.others || string(b[:len(room)]) != x.b+x.others {
			t.Errorf("%q ahead of %q: %q of %q", x.b, x.others, b, room)
		}
		trial.Fill(b)
		for _, c := range room[:cap(room)] {
			if c != '!' {
				t.Errorf("%q ahead of %q, filled: %q", x.b, x.others, room)
			}
		}
	}
	trial.Fill(nil)
}
