package machine

import "slices"

// A Walk stands in one state of a machine.
type Walk struct {
	machine *Machine
	row     int
}

// Begin answers a walk that stands in the first state.
func (m *Machine) Begin() Walk { return Walk{machine: m} }

// State answers the word of the state in which the walk stands.
func (w *Walk) State() string {
	if w.Closed() {
		return closedWord
	}
	return w.machine.states[w.row]
}

// Closed tells whether nothing is taken or done any more.
func (w *Walk) Closed() bool { return w.row == len(w.machine.table) }

// Takes tells whether the state has a rule that would be taken.
func (w *Walk) Takes(event string, holds []string) bool {
	_, ok := first(w.rules(event), holds)
	return ok
}

// Step goes on by what happens: it answers the number of the rule that was taken (-1: none), and what is done, as a list of its own.
func (w *Walk) Step(event string, holds []string) (int, []string) {
	if w.Closed() {
		return -1, nil
	}
	taken, ok := first(w.rules(event), holds)
	if !ok {
		w.row = len(w.machine.table)
		return -1, []string{"alert"}
	}
	w.row = taken.goal
	return taken.number, slices.Clone(taken.actions)
}

// rules answers those of the state that an event asks for.
func (w *Walk) rules(event string) []step {
	column, known := w.machine.columns[event]
	if !known || w.Closed() {
		return nil
	}
	return w.machine.table[w.row][column]
}

func first(rules []step, holds []string) (step, bool) {
search:
	for _, r := range rules {
		for _, g := range r.guards {
			if !g.met(holds) {
				continue search
			}
		}
		return r, true
	}
	return step{}, false
}

func (c condition) met(holds []string) bool {
	return slices.Contains(holds, c.word) != c.not
}
