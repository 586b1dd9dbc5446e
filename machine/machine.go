// Package machine reads, checks and walks machines: states, and rules that tell what is done at what happens and which state comes next.
package machine

import "strings"

// Flaw is what keeps a text from being a machine that can be walked.
type Flaw int

const (
	None  Flaw = iota
	Long       // more bytes than a text may have
	Text       // no machine by the language's grammar
	Many       // a state or a rule too many
	Twice      // a state, or a guard of a rule, that is there already
	Goal       // a goal that is no state
	Never      // a rule that an earlier one always comes ahead of
	Lost       // a state to which no goals lead
)

const (
	maxText   = 300
	maxStates = 8
	maxRules  = 24
	maxWord   = 8
)

const closedWord = "closed"

// Machine has its rules in a table of states by events. The row behind the last one stands for `closed`, so that a goal is a row whatever it is.
type Machine struct {
	states  []string
	columns map[string]int
	table   [][][]step
}

// A step is a rule as the walk needs it.
type step struct {
	number  int
	guards  []condition
	goal    int
	actions []string
}

// Compile answers the machine that a text is, or its first flaw and the place of that.
func Compile(text string) (*Machine, Flaw, int) {
	if len(text) > maxText {
		return nil, Long, 0
	}
	// The words of a machine are pieces of its text: of a copy, so that nothing that was handed in is kept.
	states, place, ok := read(strings.Clone(text))
	if !ok {
		return nil, Text, place
	}
	if flaw, place := check(states); flaw != None {
		return nil, flaw, place
	}
	return layOut(states), None, 0
}

func layOut(states []state) *Machine {
	m := &Machine{columns: map[string]int{}}
	for _, s := range states {
		m.states = append(m.states, s.name.text)
		for _, r := range s.rules {
			m.addColumn(r.event.text)
		}
	}
	for _, s := range states {
		m.table = append(m.table, m.row(s, states))
	}
	return m
}

func (m *Machine) addColumn(event string) {
	if _, there := m.columns[event]; !there {
		m.columns[event] = len(m.columns)
	}
}

func (m *Machine) row(s state, states []state) [][]step {
	row := make([][]step, len(m.columns))
	for i, r := range s.rules {
		column := m.columns[r.event.text]
		row[column] = append(row[column], r.step(i, states))
	}
	return row
}

func (r rule) step(number int, states []state) step {
	s := step{number: number, goal: len(states)}
	if i, ok := find(states, r.goal.text); ok {
		s.goal = i
	}
	for _, g := range r.guards {
		s.guards = append(s.guards, g.condition)
	}
	for _, a := range r.actions {
		s.actions = append(s.actions, a.text)
	}
	return s
}
