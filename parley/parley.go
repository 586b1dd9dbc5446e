// Package parley: two ends that agree on keys and then speak under them, and the machines that drive them: see DOC.md.
package parley

// Errno is what a call answers: OK or the reason for a refusal.
type Errno int

const (
	OK       Errno = iota
	ErrArg         // what may not be handed in
	ErrLong        // above a bound
	ErrText        // no machine
	ErrMany        // too many states or rules
	ErrTwice       // a word that is there already
	ErrGoal        // a goal that is no state
	ErrNever       // a rule that is never taken
	ErrLost        // a state to which nothing leads
	ErrOpen        // nothing that was sealed so
	ErrShare       // no share can be had
	ErrState       // not in this state
)
