package parley

import (
	"errors"
	"slices"
	"strconv"
	"strings"
	"testing"
)

func TestFeedNothing(t *testing.T) {
	for _, stands := range stands {
		s := stands(t)
		state := s.end.State()
		for range 3 {
			if events, out := s.end.Feed(""); len(events) != 0 || out != "" || s.end.State() != state || s.end.Why() != nil {
				t.Errorf("P7: no bytes in %s: %v, %x, %s", s.name, events, out, s.end.State())
			}
		}
	}
}

// TestAlertBehindWhatWasSent has everything in one call: what is told and sent comes in its order.
func TestAlertBehindWhatWasSent(t *testing.T) {
	s := helloStand(t)
	s.peer.hello = framed(1, s.peer.helloBody(t))
	events, out := s.end.Feed(framed(1, s.peer.hello) + "\x09")
	s.peer.reply = out[3:71]
	s.peer.agree(t)
	if inner := s.peer.in.open(t, out[71:126]); inner != s.peer.finish+"\x01" {
		t.Fatalf("P7: behind the reply: %x", inner)
	}
	s.broken(t, "a record of no kind behind the hello", events, out[126:], 10)

	s = askingReadyStand(t)
	in := s.says(2, "one") + s.says(1, framed(4, "\x01"))
	s.peer.out.renew()
	in += s.says(2, "two") + s.says(2, "") + s.says(2, "three") + s.says(9, "four") + s.says(2, "five")
	events, out = s.end.Feed(in)
	want := []Event{{Kind: 2, Text: "one"}, {Kind: 2, Text: "two"}, {Kind: 2, Text: "three"}}
	if len(events) < 3 || !slices.Equal(events[:3], want) {
		t.Fatalf("P7: told %v", events)
	}
	if inner := s.peer.in.open(t, out[:24]); inner != framed(4, "\x00")+"\x01" {
		t.Fatalf("P7: an update is answered by %x", inner)
	}
	s.peer.in.renew()
	s.broken(t, "a type behind an update", events[3:], out[24:], 10)
}

// TestWhyIsNobodysOwn: who turns an alert that was found turns no end.
func TestWhyIsNobodysOwn(t *testing.T) {
	e := made(t, config(1, false, 0))
	e.Feed("\x00")
	var first, second *Alert
	errors.As(e.Why(), &first)
	first.Code = 99
	if !errors.As(e.Why(), &second) || second.Code != 10 {
		t.Errorf("P1: Why: %v", e.Why())
	}
}

func TestAlertIsAnError(t *testing.T) {
	for _, code := range []int{0, 10, 51, -1, 1 << 40} {
		a := &Alert{Code: code}
		if !errors.Is(a, Broken) || !strings.Contains(a.Error(), strconv.Itoa(code)) {
			t.Errorf("P7: the alert %d: %v", code, a)
		}
	}
	e := made(t, config(1, false, 0))
	e.Feed("\x02\x00\x00")
	if text := e.Why().Error(); !strings.Contains(text, "50") {
		t.Errorf("P7: Why says %q", text)
	}
}
