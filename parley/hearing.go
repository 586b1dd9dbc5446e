package parley

import (
	"errors"

	"parley/reckon"
)

// workRecord does what the next record asks for. What it answers ends the talk, unless it is short.
func (e *End) workRecord(b *string, t *turn) error {
	c, err := e.in.nextRecord(b)
	if err != nil {
		return err
	}
	switch c.kind {
	case someMessages:
		return e.hear(c.text, t)
	case someData:
		return e.receive(c.text, t)
	}
	return heard{int(c.text[0])}
}

func (e *End) receive(data string, t *turn) error {
	if !e.takes("data") {
		return fault{codeUnexpected, "data ahead of the finishes"}
	}
	t.data = data
	e.happen("data", t)
	return nil
}

// hear lets nothing happen by a message before all that may be wrong with it was looked at.
func (e *End) hear(bytes string, t *turn) error {
	m, err := e.in.nextMessage(bytes, e.awaits)
	if errors.Is(err, short) {
		return nil
	}
	if err != nil {
		return err
	}
	if err := e.check(m, t); err != nil {
		return err
	}
	if m.more {
		return fault{codeUnexpected, "bytes of messages behind a change of keys"}
	}
	t.message = m.bytes
	e.happen(event(m.kind), t, m.holds()...)
	return nil
}

func (e *End) awaits(kind int) bool { return e.takes(event(kind)) }

// holds answers the words that hold when a message comes.
func (m message) holds() []string {
	if m.kind == updateMessage && m.body() == flag(true) {
		return []string{"too"}
	}
	return nil
}

func (e *End) check(m message, t *turn) error {
	if !m.right() {
		return fault{codeForm, "a message that is none of its kind"}
	}
	switch m.kind {
	case helloMessage:
		return e.checkHello(m.body(), t)
	case replyMessage:
		return e.checkReply(m.body(), t)
	case finishMessage:
		return e.checkFinish(m.body())
	}
	return nil
}

func (m message) right() bool {
	switch body := m.body(); m.kind {
	case helloMessage:
		return isHello(body)
	case replyMessage:
		return isReply(body)
	case finishMessage:
		return isFinish(body)
	default:
		return isFlag(body)
	}
}

func (e *End) checkHello(body string, t *turn) error {
	name := body[shareEnd+1:]
	t.keyed = name != "" && name == e.own.name
	return e.checkShare(body, t)
}

func (e *End) checkReply(body string, t *turn) error {
	t.keyed = body[shareEnd:] == flag(true)
	if t.keyed && len(e.own.key) == 0 {
		return fault{codeNoShare, "a key is used where there is none"}
	}
	return e.checkShare(body, t)
}

func (e *End) checkShare(body string, t *turn) error {
	var had bool
	if t.share, had = reckon.Share(e.own.secret, keyBytes(body[randomEnd:shareEnd])); !had {
		return fault{codeNoShare, "the share cannot be had"}
	}
	if e.own.must && !t.keyed {
		return fault{codeNoKey, "no key is used where one must be"}
	}
	return nil
}

func (e *End) checkFinish(body string) error {
	if !e.in.line.Proves(e.saidSum(), keyBytes(body)) {
		return fault{codeFinish, "a finish that is not the one that must come"}
	}
	return nil
}
