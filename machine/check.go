package machine

import "slices"

// check answers the first flaw by the order of the flaws, and of that the first place.
func check(states []state) (Flaw, int) {
	for _, c := range []struct {
		flaw  Flaw
		place func([]state) (int, bool)
	}{
		{Many, tooMany},
		{Twice, thereAlready},
		{Goal, noState},
		{Never, neverTaken},
		{Lost, lost},
	} {
		if place, found := c.place(states); found {
			return c.flaw, place
		}
	}
	return None, 0
}

// find answers the number of the state with a word.
func find(states []state, word string) (int, bool) {
	i := slices.IndexFunc(states, func(s state) bool { return s.name.text == word })
	return i, i >= 0
}

func tooMany(states []state) (int, bool) {
	rules := 0
	for i, s := range states {
		if i == maxStates {
			return s.at, true
		}
		if rules += len(s.rules); rules > maxRules {
			return s.rules[len(s.rules)-(rules-maxRules)].at, true
		}
	}
	return 0, false
}

func thereAlready(states []state) (int, bool) {
	for i, s := range states {
		if _, earlier := find(states[:i], s.name.text); earlier {
			return s.name.at, true
		}
		for _, r := range s.rules {
			if place, found := guardedAlready(r.guards); found {
				return place, true
			}
		}
	}
	return 0, false
}

func guardedAlready(guards []guard) (int, bool) {
	for i, g := range guards {
		if slices.ContainsFunc(guards[:i], func(earlier guard) bool { return earlier.word == g.word }) {
			return g.at, true
		}
	}
	return 0, false
}

func noState(states []state) (int, bool) {
	for _, s := range states {
		for _, r := range s.rules {
			if _, there := find(states, r.goal.text); !there && r.goal.text != closedWord {
				return r.goal.at, true
			}
		}
	}
	return 0, false
}

func neverTaken(states []state) (int, bool) {
	for _, s := range states {
		for i, r := range s.rules {
			if slices.ContainsFunc(s.rules[:i], r.hasAllOf) {
				return r.at, true
			}
		}
	}
	return 0, false
}

// hasAllOf tells whether whatever the rule is taken at an earlier one is taken at, too.
func (r rule) hasAllOf(earlier rule) bool {
	if earlier.event.text != r.event.text {
		return false
	}
	for _, g := range earlier.guards {
		if !slices.ContainsFunc(r.guards, func(own guard) bool { return own.condition == g.condition }) {
			return false
		}
	}
	return true
}

func lost(states []state) (int, bool) {
	reached := []int{0}
	for i := 0; i < len(reached); i++ {
		for _, r := range states[reached[i]].rules {
			if goal, there := find(states, r.goal.text); there && !slices.Contains(reached, goal) {
				reached = append(reached, goal)
			}
		}
	}
	for i, s := range states {
		if !slices.Contains(reached, i) {
			return s.name.at, true
		}
	}
	return 0, false
}
