package parley

import "parley/machine"

// Machine is states and rules. Make it by Compile.
type Machine struct{ rules *machine.Machine }

// Happening is an event, and the words that hold.
type Happening struct {
	Event string
	Holds []string
}

// Taken is the rule that was taken (in its state, from 0 on; -1: none), the state behind it, and what was done.
type Taken struct {
	Rule    int
	State   string
	Actions []string
}

// Compile reads and checks a machine. Beside an error about the text it answers the place of it (P3).
func Compile(text string) (*Machine, Errno, int) {
	rules, flaw, place := machine.Compile(text)
	if flaw != machine.None {
		return nil, flawErrno[flaw], place
	}
	return &Machine{rules}, OK, 0
}

var flawErrno = [...]Errno{
	machine.Long:  ErrLong,
	machine.Text:  ErrText,
	machine.Many:  ErrMany,
	machine.Twice: ErrTwice,
	machine.Goal:  ErrGoal,
	machine.Never: ErrNever,
	machine.Lost:  ErrLost,
}

// Walk tells for each thing that happens, from the first state on, what comes of it (P4).
func (m *Machine) Walk(list []Happening) []Taken {
	walk := m.rules.Begin()
	answer := make([]Taken, len(list))
	for i, h := range list {
		rule, actions := walk.Step(h.Event, h.Holds)
		answer[i] = Taken{rule, walk.State(), actions}
	}
	return answer
}
