// Package parley: two ends that agree on keys and then speak under them, and the machines that drive them: see DOC.md.
package parley

import "errors"

// Errno is what a call answers: OK or the reason for a refusal.
type Errno int

const (
	OK       Errno = iota
	ErrArg         // what may not be handed in
	ErrLong        // above a bound
	ErrText        // no machine
	ErrMany        // too many states or rules
	ErrTwice       // a word that is there already
	ErrGoal        // a goal that is no state
	ErrNever       // a rule that is never taken
	ErrLost        // a state to which nothing leads
	ErrOpen        // nothing that was sealed so
	ErrShare       // no share can be had
	ErrState       // not in this state
)

// Config is how an end is made.
type Config struct {
	Role           int
	Secret, Random string
	Name, Key      string
	Must           bool
}

// Event is what an end tells.
type Event struct {
	Kind, Code int
	Text       string
}

// Alert is what went wrong.
type Alert struct{ Code int }

// Broken is what every alert is.
var Broken = errors.New("parley: the talk is broken")

// End is one end of a talk. Make it by New.
type End struct{}

// New makes an end (P5).
func New(c Config) (*End, Errno) { return nil, 0 }

// Greet greets (P6).
func (e *End) Greet() (string, Errno) { return "", 0 }

// Feed takes bytes (P7 to P10).
func (e *End) Feed(b string) ([]Event, string) { return nil, "" }

// Write sends data (P11).
func (e *End) Write(data string) (string, Errno) { return "", 0 }

// Renew renews keys (P11).
func (e *End) Renew(both bool) (string, Errno) { return "", 0 }

// Close ends the talk (P11).
func (e *End) Close() (string, Errno) { return "", 0 }

// State tells the state (P5).
func (e *End) State() string { return "" }

// Talk tells the secret of the talk (P11).
func (e *End) Talk() string { return "" }

// Why tells what went wrong (P7).
func (e *End) Why() error { return nil }

// Error tells the alert.
func (a *Alert) Error() string { return "" }

// Unwrap answers what the alert is one of.
func (a *Alert) Unwrap() error { return nil }
