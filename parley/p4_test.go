package parley

import (
	"fmt"
	"slices"
	"strings"
	"sync"
	"testing"
)

func happens(event string, holds ...string) Happening { return Happening{event, holds} }

// told writes a walk down.
func told(walk []Taken) string {
	text := ""
	for _, x := range walk {
		text += fmt.Sprintf("%d %s %s; ", x.Rule, x.State, strings.Join(x.Actions, "+"))
	}
	return text
}

func walked(t *testing.T, m *Machine, list []Happening, want string) {
	t.Helper()
	if got := told(m.Walk(list)); got != want {
		t.Errorf("P4: Walk(%v) = %s; want %s", list, got, want)
	}
}

const doorText = `state shut{on key go shut do click; on push if heavy, not locked go open do creak, swing; on push if not locked, strong go open do swing; on knock go shut;}
state open{on pull if not stuck go shut do bang; on pull if strong go shut do bang, crack; on burn go closed do fall;}`

func TestWalk(t *testing.T) {
	door := compiled(t, doorText, OK, 0)
	for _, c := range []struct {
		list []Happening
		want string
	}{
		{nil, ""},
		{[]Happening{}, ""},
		{[]Happening{happens("key")}, "0 shut click; "},
		{[]Happening{happens("key", "any", "thing")}, "0 shut click; "},
		{[]Happening{happens("knock")}, "3 shut ; "},
		{[]Happening{happens("push", "heavy")}, "1 open creak+swing; "},
		{[]Happening{happens("push", "strong")}, "2 open swing; "},
		{[]Happening{happens("push", "strong", "heavy")}, "1 open creak+swing; "},
		{[]Happening{happens("push", "heavy", "strong", "locked")}, "-1 closed alert; "},
		{[]Happening{happens("push")}, "-1 closed alert; "},
		{[]Happening{happens("push", "heavy", "heavy", "x", "heavy")}, "1 open creak+swing; "},
		{[]Happening{happens("pull")}, "-1 closed alert; "},
		{[]Happening{happens("")}, "-1 closed alert; "},
		{[]Happening{happens("alert")}, "-1 closed alert; "},
		{[]Happening{happens("shut")}, "-1 closed alert; "},
		{[]Happening{happens("key ")}, "-1 closed alert; "},
		{[]Happening{happens("push", "heavy "), happens("key")}, "-1 closed alert; -1 closed ; "},
		{[]Happening{happens("knock"), happens("push", "strong"), happens("pull"), happens("key")}, "3 shut ; 2 open swing; 0 shut bang; 0 shut click; "},
		{[]Happening{happens("push", "strong"), happens("pull", "stuck", "strong"), happens("knock")}, "2 open swing; 1 shut bang+crack; 3 shut ; "},
		{[]Happening{happens("push", "strong"), happens("pull", "stuck"), happens("pull"), happens("key")}, "2 open swing; -1 closed alert; -1 closed ; -1 closed ; "},
		{[]Happening{happens("push", "heavy"), happens("burn"), happens("burn"), happens("key"), happens("")}, "1 open creak+swing; 2 closed fall; -1 closed ; -1 closed ; -1 closed ; "},
	} {
		walked(t, door, c.list, c.want)
	}
}

func TestWalkBeginsInTheFirstState(t *testing.T) {
	m := compiled(t, "state z{on a go y;}state y{on a go z;on b go y do b;}", OK, 0)
	walked(t, m, []Happening{happens("b")}, "-1 closed alert; ")
	walked(t, m, []Happening{happens("a"), happens("b"), happens("a"), happens("a")}, "0 y ; 1 y b; 0 z ; 0 y ; ")
}

func TestWalkWithoutRules(t *testing.T) {
	m := compiled(t, "state s{}", OK, 0)
	walked(t, m, []Happening{happens("s"), happens("s")}, "-1 closed alert; -1 closed ; ")
	m = compiled(t, "state s{on a go s do b,b,b;}", OK, 0)
	walked(t, m, []Happening{happens("a")}, "0 s b+b+b; ")
}

// TestFirstRuleIsTaken goes through all pairs of guards and all lists of three words.
func TestFirstRuleIsTaken(t *testing.T) {
	for _, a := range guardRows() {
		for _, b := range guardRows() {
			m, e, _ := Compile("state s{on o go s;on e " + ifText(a) + " go s;on e " + ifText(b) + " go closed;}")
			if e == ErrNever {
				continue
			}
			for _, words := range wordSets() {
				want := "-1 closed alert; "
				if allHold(a, words) {
					want = "1 s ; "
				} else if allHold(b, words) {
					want = "2 closed ; "
				}
				walked(t, m, []Happening{happens("e", words...)}, want)
			}
		}
	}
}

func TestWalkChangesNoList(t *testing.T) {
	door := compiled(t, doorText, OK, 0)
	holds := append(make([]string, 0, 9), "strong", "any", "heavy", "strong")
	list := append(make([]Happening, 0, 9), Happening{"push", holds[:3]}, happens("pull"), happens("x"), happens("key"))
	want := slices.Clone(list)
	door.Walk(list[:3])
	if !slices.Equal(holds[:9], []string{"strong", "any", "heavy", "strong", "", "", "", "", ""}) {
		t.Errorf("P1: Walk made of the words that hold %q", holds[:9])
	}
	for i, h := range want {
		if list[i].Event != h.Event || !slices.Equal(list[i].Holds, h.Holds) {
			t.Errorf("P1: Walk made of its list %v", list)
		}
	}
}

// spoil writes over an answer's lists, and behind their ends.
func spoil(walk []Taken) {
	for i := range walk {
		walk[i].Actions = append(walk[i].Actions[:0], "spoilt", "spoilt", "spoilt", "spoilt")
		walk[i] = Taken{9, "spoilt", nil}
	}
}

func TestAnswersShareNoMemory(t *testing.T) {
	door := compiled(t, doorText, OK, 0)
	list := []Happening{happens("push", "heavy"), happens("pull"), happens("push", "heavy"), happens("x"), happens("x")}
	const want = "1 open creak+swing; 0 shut bang; 1 open creak+swing; -1 closed alert; -1 closed ; "
	one, two := door.Walk(list), door.Walk(list)
	for i := range one {
		for j := range one[i].Actions {
			one[i].Actions[j] = "spoilt"
			one[i].Actions = append(one[i].Actions, "spoilt")
		}
		if got := told(one[i+1:]); !strings.HasSuffix(want, got) {
			t.Errorf("P1: spoiling %d changed what is behind it in the same answer: %s", i, got)
		}
	}
	spoil(one)
	if got := told(two); got != want {
		t.Errorf("P1: spoiling one answer made another %s", got)
	}
	walked(t, door, list, want)
}

func TestMachinesShareNothing(t *testing.T) {
	one, two := compiled(t, doorText, OK, 0), compiled(t, doorText, OK, 0)
	if one == two {
		t.Error("P1: two machines of one text are the same")
	}
	list := []Happening{happens("knock"), happens("push", "strong"), happens("pull"), happens("x")}
	want := told(one.Walk(list))
	var group sync.WaitGroup
	for range 20 {
		group.Go(func() {
			walked(t, one, list, want)
			walked(t, two, list, want)
			if m, e, _ := Compile(doorText); e != OK || told(m.Walk(list)) != want {
				t.Error("P1: machines side by side answer something else than one behind the other")
			}
		})
	}
	group.Wait()
}

func TestLongWalk(t *testing.T) {
	const n = 300000
	door := compiled(t, doorText, OK, 0)
	list := slices.Repeat([]Happening{happens("push", "heavy"), happens("pull")}, n/2)
	walk := door.Walk(list)
	if len(walk) != n || told(walk[n-2:]) != "1 open creak+swing; 0 shut bang; " {
		t.Errorf("P4: a long walk tells %d, at its end %s", len(walk), told(walk[max(0, len(walk)-2):]))
	}
	long := slices.Repeat([]string{"any", strings.Repeat("long", 1000)}, n)
	walked(t, door, []Happening{happens("push", append(long, "strong")...)}, "2 open swing; ")
	walked(t, door, []Happening{happens("push", append(long, "strong", "locked")...)}, "-1 closed alert; ")
	walked(t, door, []Happening{happens(strings.Repeat("push", 1000000))}, "-1 closed alert; ")
}
