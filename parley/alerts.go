package parley

import (
	"errors"
	"strconv"
)

// What ends a talk, by its code: the first one when nothing has gone wrong.
const (
	codeClosed     = 0
	codeUnexpected = 10
	codeUnopened   = 20
	codeGreat      = 22
	codeNoKey      = 40
	codeNoShare    = 47
	codeForm       = 50
	codeFinish     = 51
)

// Broken is what every alert is.
var Broken = errors.New("parley: the talk is broken")

// Alert is what went wrong.
type Alert struct{ Code int }

// Error tells the alert.
func (a *Alert) Error() string { return "parley: alert " + strconv.Itoa(a.Code) }

// Unwrap answers what the alert is one of.
func (a *Alert) Unwrap() error { return Broken }

// A fault is an alert with what it is about. It keeps the code alone, so that whoever asks finds an Alert of his own.
type fault struct {
	code int
	what string
}

func (f fault) Error() string { return f.Unwrap().Error() + ": " + f.what }

func (f fault) Unwrap() error { return &Alert{f.code} }

// heard is the alert of the other end: it ends the talk, but nothing has gone wrong here.
type heard struct{ code int }

func (h heard) Error() string { return "parley: the other end's alert " + strconv.Itoa(h.code) }

func (h heard) event() Event {
	if h.code == codeClosed {
		return Event{Kind: closedEvent}
	}
	return Event{Kind: heardEvent, Code: h.code}
}
