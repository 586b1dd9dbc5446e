package parley

import "parley/reckon"

const (
	maxName    = 16
	maxMessage = 100
)

// What messages there are.
const (
	helloMessage = 1 + iota
	replyMessage
	finishMessage
	updateMessage
)

// Where the parts of a hello or a reply end: two times 32 bytes stand ahead of the last part.
const (
	randomEnd = 32
	shareEnd  = 64
	finishEnd = 32
)

// A message is one that is whole: its bytes, and whether more came behind it.
type message struct {
	kind  int
	bytes string
	more  bool
}

func (m message) body() string { return m.bytes[headSize:] }

// event is what happens by a message of a kind in the machines of ends.
func event(kind int) string {
	switch kind {
	case helloMessage:
		return "hello"
	case replyMessage:
		return "reply"
	case finishMessage:
		return "finish"
	case updateMessage:
		return "update"
	}
	return ""
}

func newMessage(kind int, body string) string {
	return reckon.One(kind) + reckon.Two(len(body)) + body
}

// messages reads one message at a time, and holds no more bytes than one may have.
type messages struct{ message frame }

// nextMessage goes on with bytes that came. It answers the message that is whole by them; short, if none is.
func (m *messages) nextMessage(bytes string, awaited func(kind int) bool) (message, error) {
	if !m.message.fill(headSize, &bytes) {
		return message{}, short
	}
	kind, length := m.message.kind(), m.message.length()
	if !awaited(kind) {
		return message{}, fault{codeUnexpected, "a message that the state does not wait for"}
	}
	if length > maxMessage {
		return message{}, fault{codeForm, "a message that is too long"}
	}
	if !m.message.fill(headSize+length, &bytes) {
		return message{}, short
	}
	return message{kind, m.message.empty(), bytes != ""}, nil
}

// isHello: what stands behind the random and the share is a name, with its length ahead.
func isHello(body string) bool {
	if len(body) <= shareEnd {
		return false
	}
	name := body[shareEnd+1:]
	return len(name) == int(body[shareEnd]) && len(name) <= maxName
}

func isReply(body string) bool { return len(body) > shareEnd && isFlag(body[shareEnd:]) }

func isFinish(body string) bool { return len(body) == finishEnd }

// isFlag tells whether a text is a 0 or a 1.
func isFlag(text string) bool { return text == "\x00" || text == "\x01" }

// flag is a 1, if something holds, else a 0.
func flag(holds bool) string {
	if holds {
		return "\x01"
	}
	return "\x00"
}
