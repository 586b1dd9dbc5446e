package parley

import (
	"errors"

	"parley/keys"
	"parley/reckon"
)

// How a talk goes on, for either end. What ends it has no rule, so that it leads to closed, and alert is done.
const (
	asking = "state start{on greet go reply do greet,note;}" +
		"state reply{on reply go finish do note,agree;}" +
		"state finish{on finish go ready do note,prove,open;}" +
		ready
	answering = "state hello{on hello go finish do note,reply,note,agree,prove,note;}" +
		"state finish{on finish go ready do open;}" +
		ready
	ready = "state ready{on data go ready do tell;on write go ready do say;on renew go ready do renew;" +
		"on update if too go ready do heed,renew;on update go ready do heed;}"
)

// A turn is one call: what the actions in it go by, and what is told and sent by it.
type turn struct {
	message string      // the last one that came or was sent
	share   keys.Secret // what only the two ends can have
	keyed   bool        // the key is used
	both    bool        // the other end is asked to renew its keys, too
	data    string      // what came or is written
	cause   error       // what ends the talk; nil, if the caller does
	events  []Event
	sent    []byte
}

func (t *turn) tell(e Event) { t.events = append(t.events, e) }

// deed finds what is done by an action.
func deed(action string) func(*End, *turn) {
	return map[string]func(*End, *turn){
		"greet": (*End).greet,
		"note":  (*End).note,
		"reply": (*End).reply,
		"agree": (*End).agree,
		"prove": (*End).prove,
		"open":  (*End).open,
		"tell":  (*End).tell,
		"say":   (*End).say,
		"renew": (*End).renew,
		"heed":  (*End).heed,
		"alert": (*End).alert,
	}[action]
}

// happen steps to the next state, and does what is to be done on the way.
func (e *End) happen(event string, t *turn, holds ...string) {
	_, actions := e.walk.Step(event, holds)
	for _, action := range actions {
		deed(action)(e, t)
	}
}

func (e *End) takes(event string) bool { return e.walk.Takes(event, nil) }

// end is what happens when nothing can go on.
func (e *End) end(cause error, t *turn) {
	t.cause = cause
	e.happen("end", t)
}

func (e *End) send(kind int, text string, t *turn) {
	t.sent = append(t.sent, newRecord(&e.out, content{kind, text})...)
}

func (e *End) sendMessage(kind int, body string, t *turn) {
	t.message = newMessage(kind, body)
	e.send(someMessages, t.message, t)
}

func (e *End) greet(t *turn) {
	e.sendMessage(helloMessage, e.own.random+e.own.point()+reckon.One(len(e.own.name))+e.own.name, t)
}

func (e *End) reply(t *turn) {
	e.sendMessage(replyMessage, e.own.random+e.own.point()+flag(t.keyed), t)
}

// point is the share that is sent.
func (o *own) point() string {
	base := [32]byte{9}
	share, _ := reckon.Share(o.secret, base)
	return string(share[:])
}

// note takes a message into what both ends have to have heard alike.
func (e *End) note(t *turn) { e.said = e.said.Add(t.message) }

func (e *End) saidSum() string {
	sum := e.said.Sum()
	return string(sum[:])
}

func (e *End) agree(t *turn) {
	key := e.own.key
	if !t.keyed {
		key = nil
	}
	mid, master := keys.Agree(key, t.share)
	e.lay(&mid, "hs")
	e.master = master
	mid.Clear()
	master.Clear()
	t.share.Clear()
	e.own.clear()
}

// lay has either way of the talk begin with a secret of its own.
func (e *End) lay(from *keys.Secret, stage string) {
	asking := keys.Lay(from.Derive("c "+stage, e.saidSum()))
	answering := keys.Lay(from.Derive("s "+stage, e.saidSum()))
	if e.role == asks {
		e.out, e.in.line = asking, answering
	} else {
		e.in.line, e.out = asking, answering
	}
}

func (e *End) prove(t *turn) { e.sendMessage(finishMessage, e.out.Prove(e.saidSum()), t) }

// open goes over to the secrets behind the finishes.
func (e *End) open(t *turn) {
	e.lay(&e.master, "ap")
	talk := e.master.Derive("exp", e.saidSum())
	e.talk = string(talk[:])
	e.master.Clear()
	e.said = reckon.Running{}
	t.tell(Event{Kind: readyEvent, Text: e.talk})
}

func (e *End) tell(t *turn) {
	if t.data != "" {
		t.tell(Event{Kind: dataEvent, Text: t.data})
	}
}

func (e *End) say(t *turn) {
	for left := t.data; left != ""; {
		n := min(len(left), maxPlain)
		e.send(someData, left[:n], t)
		left = left[n:]
	}
}

// renew tells that it renews by the old secret: the other end has no other one yet.
func (e *End) renew(t *turn) {
	e.sendMessage(updateMessage, flag(t.both), t)
	e.out.Renew()
}

func (e *End) heed(*turn) { e.in.line.Renew() }

// alert ends the talk: by what went wrong, by the other end's alert, or because the caller wants so.
func (e *End) alert(t *turn) {
	var wrong *Alert
	var theirs heard
	switch {
	case errors.As(t.cause, &wrong):
		e.send(anAlert, reckon.One(wrong.Code), t)
		t.tell(Event{Kind: brokenEvent, Code: wrong.Code})
		e.why = t.cause
	case errors.As(t.cause, &theirs):
		t.tell(theirs.event())
	default:
		e.send(anAlert, reckon.One(codeClosed), t)
	}
	t.share.Clear()
	e.clear()
}

// clear leaves of an end what it answers when it is closed.
func (e *End) clear() {
	e.own.clear()
	e.master.Clear()
	e.out.Clear()
	e.in.clear()
	e.said = reckon.Running{}
}

func (o *own) clear() {
	o.secret.Clear()
	clear(o.key)
	o.key, o.random, o.name = nil, "", ""
}
