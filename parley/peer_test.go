package parley

import (
	"crypto/ecdh"
	"crypto/hmac"
	"crypto/sha256"
	"encoding/binary"
	"errors"
	"strings"
	"testing"
)

// The document's formulas, on the library's code: what an end says is held against them.

func hashOf(data string) string {
	sum := sha256.Sum256([]byte(data))
	return string(sum[:])
}

func macOf(key, data string) string {
	h := hmac.New(sha256.New, []byte(key))
	h.Write([]byte(data))
	return string(h.Sum(nil))
}

// deriveOf is for n of at most 32: one block of Expand.
func deriveOf(secret, label, context string, n int) string {
	info := two(n) + one(len(label)) + label + one(len(context)) + context
	return macOf(secret, info+"\x01")[:n]
}

func shareOf(t *testing.T, secret, point string) string {
	t.Helper()
	private, err := ecdh.X25519().NewPrivateKey([]byte(secret))
	if err != nil {
		t.Fatal(err)
	}
	public, err := ecdh.X25519().NewPublicKey([]byte(point))
	if err != nil {
		t.Fatal(err)
	}
	share, err := private.ECDH(public)
	if err != nil {
		t.Fatal(err)
	}
	return string(share)
}

func one(n int) string { return string([]byte{byte(n)}) }

func two(n int) string { return string([]byte{byte(n / 256), byte(n % 256)}) }

func zeros(n int) string { return strings.Repeat("\x00", n) }

// framed is a record or a message: they have the same form.
func framed(kind int, text string) string { return one(kind) + two(len(text)) + text }

// A sealing is a secret and how many records were sealed by it.
type sealing struct {
	secret string
	count  uint64
}

func (s *sealing) nonce() string {
	iv := []byte(deriveOf(s.secret, "iv", "", 12))
	last := binary.BigEndian.Uint64(iv[4:])
	binary.BigEndian.PutUint64(iv[4:], last^s.count)
	s.count++
	return string(iv)
}

// seal answers a record of what is sealed: a content, a type and zeros, or what is none.
func (s *sealing) seal(inner string) string {
	head := one(2) + two(len(inner)+16)
	sealed, _ := Seal(deriveOf(s.secret, "key", "", 32), s.nonce(), head, inner)
	return head + sealed
}

func (s *sealing) open(t *testing.T, record string) string {
	t.Helper()
	if len(record) < 3 {
		t.Fatalf("no record: %x", record)
	}
	inner, e := Open(deriveOf(s.secret, "key", "", 32), s.nonce(), record[:3], record[3:])
	if e != OK {
		t.Fatalf("P6: record %d of its secret cannot be opened: %x", s.count-1, record)
	}
	return inner
}

func (s *sealing) renew() { *s = sealing{secret: deriveOf(s.secret, "upd", "", 32)} }

// A peer is the other end of a talk. It can also say what no end says.
type peer struct {
	Config
	hello, reply, finish string // the messages H, R and F
	keyed                bool
	mid                  string
	in, out              sealing
}

func (p *peer) point(t *testing.T) string {
	return shareOf(t, p.Secret, "\x09"+zeros(31))
}

func (p *peer) helloBody(t *testing.T) string {
	return p.Random + p.point(t) + one(len(p.Name)) + p.Name
}

func (p *peer) replyBody(t *testing.T) string {
	return p.Random + p.point(t) + p.replyFlag()
}

func (p *peer) replyFlag() string {
	if p.keyed {
		return "\x01"
	}
	return "\x00"
}

// agree needs hello and reply. Behind it the peer seals as the finishes are sealed.
func (p *peer) agree(t *testing.T) {
	t.Helper()
	theirs := p.hello
	if p.Role == 0 {
		theirs = p.reply
	}
	key := zeros(32)
	if p.keyed {
		key = p.Key
	}
	early := macOf(zeros(32), key)
	p.mid = macOf(deriveOf(early, "derived", "", 32), shareOf(t, p.Secret, theirs[3+32:3+64]))
	p.setSecrets(deriveOf(p.mid, "c hs", hashOf(p.hello+p.reply), 32), deriveOf(p.mid, "s hs", hashOf(p.hello+p.reply), 32))
	_, answering := p.secrets()
	p.finish = framed(3, macOf(deriveOf(answering, "finished", "", 32), hashOf(p.hello+p.reply)))
}

func (p *peer) setSecrets(asking, answering string) {
	p.in, p.out = sealing{secret: asking}, sealing{secret: answering}
	if p.Role == 0 {
		p.in, p.out = p.out, p.in
	}
}

func (p *peer) secrets() (asking, answering string) {
	if p.Role == 0 {
		return p.out.secret, p.in.secret
	}
	return p.in.secret, p.out.secret
}

// lastFinish is the message of the end that asks.
func (p *peer) lastFinish() string {
	asking, _ := p.secrets()
	return framed(3, macOf(deriveOf(asking, "finished", "", 32), hashOf(p.hello+p.reply+p.finish)))
}

func (p *peer) master() string { return macOf(deriveOf(p.mid, "derived", "", 32), zeros(32)) }

func (p *peer) talk() string {
	return deriveOf(p.master(), "exp", hashOf(p.hello+p.reply+p.finish), 32)
}

// open goes over to the secrets behind the finishes.
func (p *peer) open() {
	said := hashOf(p.hello + p.reply + p.finish)
	p.setSecrets(deriveOf(p.master(), "c ap", said, 32), deriveOf(p.master(), "s ap", said, 32))
}

// config is one of many: its secret, random and key hang on a seed.
func config(role int, named bool, seed int) Config {
	c := Config{Role: role, Secret: some(32, 100+2*seed+role), Random: some(32, 200+2*seed+role)}
	if named {
		c.Name, c.Key = "name", some(20, 300+seed)
	}
	return c
}

func made(t *testing.T, c Config) *End {
	t.Helper()
	e, f := New(c)
	if e == nil || f != OK {
		t.Fatalf("P5: New: error %d", f)
	}
	return e
}

// A stand is an end that has come to a state, and its peer.
type stand struct {
	name string
	end  *End
	peer *peer
}

// stands make an end in each state in which bytes are worked, in each role, each with a peer that has come along.
var stands = []func(t *testing.T) stand{
	startStand, helloStand, replyStand,
	askingFinishStand, answeringFinishStand,
	askingReadyStand, answeringReadyStand,
}

// Those in which records are plain, and those in which they are sealed.
var plainStands, sealedStands, readyStands = stands[:3], stands[3:], stands[5:]

func startStand(t *testing.T) stand {
	t.Helper()
	return stand{"start", made(t, config(0, true, 0)), &peer{Config: config(1, true, 0), keyed: true}}
}

func helloStand(t *testing.T) stand {
	t.Helper()
	return stand{"hello", made(t, config(1, true, 0)), &peer{Config: config(0, true, 0), keyed: true}}
}

func replyStand(t *testing.T) stand {
	t.Helper()
	return startStand(t).greeted(t)
}

func (s stand) greeted(t *testing.T) stand {
	t.Helper()
	greeting, e := s.end.Greet()
	if e != OK || len(greeting) < 6 {
		t.Fatalf("P6: Greet: %d bytes, error %d", len(greeting), e)
	}
	s.peer.hello = greeting[3:]
	s.name = "reply"
	return s
}

func askingFinishStand(t *testing.T) stand {
	t.Helper()
	return replyStand(t).replied(t)
}

func (s stand) replied(t *testing.T) stand {
	t.Helper()
	s.peer.reply = framed(2, s.peer.replyBody(t))
	s.peer.agree(t)
	s.quiet(t, framed(1, s.peer.reply), "")
	s.name = "finish of the end that asks"
	return s
}

func answeringFinishStand(t *testing.T) stand {
	t.Helper()
	return helloStand(t).answered(t)
}

func (s stand) answered(t *testing.T) stand {
	t.Helper()
	s.peer.hello = framed(1, s.peer.helloBody(t))
	events, out := s.end.Feed(framed(1, s.peer.hello))
	if len(events) != 0 || len(out) < 71 || out[:3] != "\x01\x00\x44" {
		t.Fatalf("P10: a hello is answered by %v, %x", events, out)
	}
	s.peer.reply = out[3:71]
	if s.peer.reply[3+64:] != s.peer.replyFlag() {
		t.Fatalf("P10: the reply tells of the key %x", s.peer.reply[3+64:])
	}
	s.peer.agree(t)
	if inner := s.peer.in.open(t, out[71:]); inner != s.peer.finish+"\x01" {
		t.Fatalf("P10: the answering end's finish: %x; want %x", inner, s.peer.finish)
	}
	s.name = "finish of the end that answers"
	return s
}

func askingReadyStand(t *testing.T) stand {
	t.Helper()
	return askingFinishStand(t).settled(t)
}

// settled brings either end from finish to ready.
func (s stand) settled(t *testing.T) stand {
	t.Helper()
	if s.peer.Role == 0 {
		return s.settledByLast(t)
	}
	events, out := s.end.Feed(s.peer.out.seal(s.peer.finish + "\x01"))
	if inner := s.peer.in.open(t, out); inner != s.peer.lastFinish()+"\x01" {
		t.Fatalf("P10: the asking end's finish: %x; want %x", inner, s.peer.lastFinish())
	}
	s.becameReady(t, events)
	s.name = "ready of the end that asks"
	return s
}

func answeringReadyStand(t *testing.T) stand {
	t.Helper()
	return answeringFinishStand(t).settled(t)
}

func (s stand) settledByLast(t *testing.T) stand {
	t.Helper()
	events, out := s.end.Feed(s.peer.out.seal(s.peer.lastFinish() + "\x01"))
	if out != "" {
		t.Fatalf("P10: the last finish is answered by %x", out)
	}
	s.becameReady(t, events)
	s.name = "ready of the end that answers"
	return s
}

func (s *stand) becameReady(t *testing.T, events []Event) {
	t.Helper()
	if len(events) != 1 || events[0] != (Event{Kind: 1, Text: s.peer.talk()}) || s.end.State() != "ready" || s.end.Talk() != s.peer.talk() {
		t.Fatalf("P10: behind the finishes: %v, %s", events, s.end.State())
	}
	s.peer.open()
}

// quiet feeds bytes at which nothing is told, and one thing sent.
func (s *stand) quiet(t *testing.T, in, want string) {
	t.Helper()
	events, out := s.end.Feed(in)
	if len(events) != 0 || out != want || s.end.State() == "closed" {
		t.Fatalf("%s: %x: told %v, sent %x, %v", s.name, in, events, out, s.end.Why())
	}
}

// sealed tells whether the end has secrets to send and to receive by.
func (s *stand) sealed() bool { return s.peer.mid != "" }

// says answers a record of the peer's, of a type: sealed where the end waits for that, else plain.
func (s *stand) says(kind int, text string) string {
	if s.sealed() {
		return s.peer.out.seal(text + one(kind))
	}
	return framed(kind, text)
}

// opened answers what one record of the end's has in it.
func (s *stand) opened(t *testing.T, record string) (kind int, text string) {
	t.Helper()
	if !s.sealed() {
		if len(record) < 4 || record != framed(int(record[0]), record[3:]) {
			t.Fatalf("%s: no plain record: %x", s.name, record)
		}
		return int(record[0]), record[3:]
	}
	inner := s.peer.in.open(t, record)
	return int(inner[len(inner)-1]), inner[:len(inner)-1]
}

// alerted feeds bytes of which the last one has the end tell an alert, and none ahead of it.
func (s *stand) alerted(t *testing.T, what, in string, code int) {
	t.Helper()
	if s.end.Why() != nil {
		t.Errorf("P7: %s: %s: Why ahead of the alert: %v", s.name, what, s.end.Why())
	}
	state, talk, last := s.end.State(), s.end.Talk(), len(in)-1
	for i := range last {
		if events, out := s.end.Feed(in[i : i+1]); len(events) != 0 || out != "" || s.end.State() != state {
			t.Fatalf("P8, P9: %s: %s: byte %d of %d: told %v, sent %x", s.name, what, i, len(in), events, out)
		}
	}
	events, out := s.end.Feed(in[last:])
	s.broken(t, what, events, out, code)
	if s.end.Talk() != talk {
		t.Errorf("P11: %s: %s: the secret of the talk is another one", s.name, what)
	}
}

// broken holds what an end answers against an alert.
func (s *stand) broken(t *testing.T, what string, events []Event, out string, code int) {
	t.Helper()
	if len(events) != 1 || events[0] != (Event{Kind: 5, Code: code}) || s.end.State() != "closed" {
		t.Fatalf("%s: %s: told %v, %s; want the alert %d", s.name, what, events, s.end.State(), code)
	}
	if kind, text := s.opened(t, out); kind != 3 || text != one(code) {
		t.Errorf("%s: %s: sent %d, %x; want the alert %d", s.name, what, kind, text, code)
	}
	var alert *Alert
	if err := s.end.Why(); !errors.Is(err, Broken) || !errors.As(err, &alert) || alert.Code != code {
		t.Errorf("P7: %s: %s: Why: %v; want the alert %d", s.name, what, err, code)
	}
	s.isClosed(t, what)
}

// isClosed: nothing comes of anything any more.
func (s *stand) isClosed(t *testing.T, what string) {
	t.Helper()
	why, talk := s.end.Why(), s.end.Talk()
	for _, in := range []string{"", "\x00", "\x03\x00\x01\x00", s.says(1, "\x01\x00\x00"), s.says(2, "data"), s.says(3, "\x05")} {
		if events, out := s.end.Feed(in); len(events) != 0 || out != "" {
			t.Errorf("P7: %s: %s: closed, but told %v, sent %x", s.name, what, events, out)
		}
	}
	refusedAll(t, s.name+": "+what, s.end)
	if s.end.State() != "closed" || s.end.Talk() != talk || (s.end.Why() == nil) != (why == nil) {
		t.Errorf("P7: %s: %s: a closed end has changed", s.name, what)
	}
}

// refusedAll: no call that sends is taken in closed.
func refusedAll(t *testing.T, what string, e *End) {
	t.Helper()
	got, f := e.Greet()
	refused(t, "P6: "+what+": Greet", got, f, ErrState)
	got, f = e.Write(some(1001, 1))
	refused(t, "P11: "+what+": Write", got, f, ErrState)
	got, f = e.Renew(true)
	refused(t, "P11: "+what+": Renew", got, f, ErrState)
	got, f = e.Close()
	refused(t, "P11: "+what+": Close", got, f, ErrState)
}
