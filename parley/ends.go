package parley

import (
	"errors"
	"strings"

	"parley/keys"
	"parley/machine"
	"parley/reckon"
)

const (
	maxKey   = 32
	maxWrite = 1000
)

// What an end may be.
const (
	asks = iota
	answers
)

// Config is how an end is made.
type Config struct {
	Role           int
	Secret, Random string
	Name, Key      string
	Must           bool
}

// What an end tells.
const (
	readyEvent = 1 + iota
	dataEvent
	closedEvent
	heardEvent
	brokenEvent
)

// Event is what an end tells.
type Event struct {
	Kind, Code int
	Text       string
}

// End is one end of a talk. Make it by New.
type End struct {
	walk   machine.Walk
	role   int
	own    own
	said   reckon.Running // the messages by which the ends agree
	in     records
	out    keys.Line
	master keys.Secret
	talk   string
	why    error
}

// own is what an end brings with it. It is needed till the ends agree.
type own struct {
	secret       keys.Secret
	random, name string
	key          []byte
	must         bool
}

// New makes an end (P5).
func New(c Config) (*End, Errno) {
	if !c.right() {
		return nil, ErrArg
	}
	text := asking
	if c.Role == answers {
		text = answering
	}
	rules, _, _ := machine.Compile(text)
	return &End{
		walk: rules.Begin(),
		role: c.Role,
		said: reckon.Begin(),
		own: own{
			secret: keyBytes(c.Secret),
			random: strings.Clone(c.Random),
			name:   strings.Clone(c.Name),
			key:    []byte(c.Key),
			must:   c.Must,
		},
	}, OK
}

func (c *Config) right() bool {
	return (c.Role == asks || c.Role == answers) &&
		len(c.Secret) == keySize && len(c.Random) == randomEnd &&
		len(c.Name) <= maxName && len(c.Key) <= maxKey &&
		(c.Name == "") == (c.Key == "") &&
		!(c.Must && c.Key == "")
}

// Greet greets (P6).
func (e *End) Greet() (string, Errno) { return e.call("greet", turn{}) }

// Write sends data (P11).
func (e *End) Write(data string) (string, Errno) {
	if e.takes("write") && len(data) > maxWrite {
		return "", ErrLong
	}
	return e.call("write", turn{data: data})
}

// Renew renews keys (P11).
func (e *End) Renew(both bool) (string, Errno) { return e.call("renew", turn{both: both}) }

// call does what is asked of an end, if its state has a rule for that.
func (e *End) call(event string, t turn) (string, Errno) {
	if !e.takes(event) {
		return "", ErrState
	}
	e.happen(event, &t)
	return string(t.sent), OK
}

// Close ends the talk (P11).
func (e *End) Close() (string, Errno) {
	if e.walk.Closed() {
		return "", ErrState
	}
	var t turn
	e.end(nil, &t)
	return string(t.sent), OK
}

// Feed takes bytes (P7 to P10).
func (e *End) Feed(b string) ([]Event, string) {
	var t turn
	for !e.walk.Closed() {
		err := e.workRecord(&b, &t)
		if errors.Is(err, short) {
			break
		}
		if err != nil {
			e.end(err, &t)
		}
	}
	return t.events, string(t.sent)
}

// State tells the state (P5).
func (e *End) State() string { return e.walk.State() }

// Talk tells the secret of the talk (P11).
func (e *End) Talk() string { return e.talk }

// Why tells what went wrong (P7).
func (e *End) Why() error { return e.why }
