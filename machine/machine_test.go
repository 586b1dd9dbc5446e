package machine

import (
	"slices"
	"strings"
	"testing"
	"unsafe"
)

const lamp = "state dark{on push if wired go lit do glow,hum;on push go dark;}state lit{on push go dark;on drop go closed do crack;}"

func TestSteps(t *testing.T) {
	m, flaw, place := Compile(lamp)
	if flaw != None || place != 0 {
		t.Fatalf("Compile: %d, %d", flaw, place)
	}
	walk := m.Begin()
	if walk.State() != "dark" {
		t.Errorf("a walk begins in %s", walk.State())
	}
	for _, c := range []struct {
		event string
		holds []string
		rule  int
		state string
		done  []string
	}{
		{"push", nil, 1, "dark", nil},
		{"push", []string{"wired"}, 0, "lit", []string{"glow", "hum"}},
		{"drop", nil, 1, "closed", []string{"crack"}},
		{"drop", nil, -1, "closed", nil},
	} {
		rule, done := walk.Step(c.event, c.holds)
		if rule != c.rule || walk.State() != c.state || !slices.Equal(done, c.done) {
			t.Errorf("%s with %v: %d, %s, %v", c.event, c.holds, rule, walk.State(), done)
		}
	}
}

func TestTakes(t *testing.T) {
	m, _, _ := Compile(lamp)
	walk := m.Begin()
	for _, c := range []struct {
		event string
		holds []string
		takes bool
	}{
		{"push", nil, true},
		{"drop", nil, false},
		{"", nil, false},
		{"push", []string{"wired"}, true},
		{"drop", nil, true},
		{"drop", nil, false},
		{"push", nil, false},
	} {
		before := walk
		takes := walk.Takes(c.event, c.holds)
		if takes != c.takes || walk != before {
			t.Errorf("%s in %s is taken: %v", c.event, walk.State(), takes)
		}
		if takes {
			walk.Step(c.event, c.holds)
		}
		if walk.Closed() != (walk.State() == "closed") {
			t.Errorf("closed in %s: %v", walk.State(), walk.Closed())
		}
	}
	guarded, _, _ := Compile("state s{on a if b,not c go s;}")
	walk = guarded.Begin()
	if walk.Takes("a", nil) || !walk.Takes("a", []string{"b"}) || walk.Takes("a", []string{"b", "c"}) {
		t.Error("a rule is taken without its guards")
	}
}

func TestWalksOfOneMachineGoTheirOwnWays(t *testing.T) {
	m, _, _ := Compile(lamp)
	one, two := m.Begin(), m.Begin()
	one.Step("drop", nil)
	three := two
	three.Step("push", []string{"wired"})
	if one.State() != "closed" || two.State() != "dark" || three.State() != "lit" {
		t.Errorf("%s, %s, %s", one.State(), two.State(), three.State())
	}
}

func TestFlaws(t *testing.T) {
	for _, c := range []struct {
		text  string
		flaw  Flaw
		place int
	}{
		{strings.Repeat(" ", 301), Long, 0},
		{"state", Text, 5},
		{strings.Repeat("state s{}", 9), Many, 72},
		{"state s{}state s{}", Twice, 15},
		{"state s{on a go t;}", Goal, 16},
		{"state s{on a go s;on a go s;}", Never, 18},
		{"state s{}state t{}", Lost, 15},
	} {
		if m, flaw, place := Compile(c.text); m != nil || flaw != c.flaw || place != c.place {
			t.Errorf("Compile(%.40q) = %d, %d; want %d, %d", c.text, flaw, place, c.flaw, c.place)
		}
	}
}

// TestTextIsNotKept looks where the words of a machine lie: not in the text that was handed in.
func TestTextIsNotKept(t *testing.T) {
	text := strings.Clone(lamp)
	m, _, _ := Compile(text)
	begin := uintptr(unsafe.Pointer(unsafe.StringData(text)))
	for _, state := range m.states {
		at := uintptr(unsafe.Pointer(unsafe.StringData(state)))
		if begin <= at && at < begin+uintptr(len(text)) {
			t.Errorf("the word %s lies in the text", state)
		}
	}
}
