package machine

// What is read keeps the places of the signs at which a flaw may be told.
type state struct {
	at    int
	name  sign
	rules []rule
}

type rule struct {
	at      int
	event   sign
	guards  []guard
	goal    sign
	actions []sign
}

type guard struct {
	at int
	condition
}

// A condition is compared as a value: a guard without its place.
type condition struct {
	word string
	not  bool
}

// read answers the states of a text, or the place at which it stops being a machine.
func read(text string) (states []state, place int, ok bool) {
	defer func() {
		switch cause := recover().(type) { // whatever is thrown goes no further: ok is false then
		case stray:
			place = int(cause)
		case short:
			place = len(text)
		}
	}()
	return begin(text).machine(), 0, true
}

func (r *reader) machine() []state {
	states := []state{r.state()}
	for !r.ahead.isEnd() {
		states = append(states, r.state())
	}
	return states
}

func (r *reader) state() state {
	s := state{at: r.must("state").at, name: r.word()}
	r.must("{")
	for !r.skip("}") {
		s.rules = append(s.rules, r.rule())
	}
	return s
}

func (r *reader) rule() rule {
	one := rule{at: r.must("on").at, event: r.word()}
	if r.skip("if") {
		one.guards = several(r, r.guard)
	}
	r.must("go")
	one.goal = r.goal()
	if r.skip("do") {
		one.actions = several(r, r.word)
	}
	r.must(";")
	return one
}

func (r *reader) guard() guard {
	not := r.skip("not")
	word := r.word()
	return guard{word.at, condition{word.text, not}}
}

func (r *reader) goal() sign {
	return r.take(r.ahead.isWord() || r.ahead.text == closedWord)
}

// several reads one or more of a kind, with commas between.
func several[T any](r *reader, one func() T) []T {
	list := []T{one()}
	for r.skip(",") {
		list = append(list, one())
	}
	return list
}
