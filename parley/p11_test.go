package parley

import (
	"strings"
	"testing"
)

// splitRecords cuts bytes where records end.
func splitRecords(t *testing.T, bytes string) (list []string) {
	t.Helper()
	for bytes != "" {
		if len(bytes) < 3 || len(bytes) < 3+int(bytes[1])*256+int(bytes[2]) {
			t.Fatalf("P6: %d bytes are no record", len(bytes))
		}
		n := 3 + int(bytes[1])*256 + int(bytes[2])
		list = append(list, bytes[:n])
		bytes = bytes[n:]
	}
	return list
}

func TestWrite(t *testing.T) {
	for _, stands := range readyStands {
		s := stands(t)
		for _, n := range []int{0, 1, 2, 299, 300, 301, 599, 600, 601, 900, 901, 999, 1000} {
			data := some(n, n)
			out, e := s.end.Write(data)
			list := splitRecords(t, out)
			if e != OK || len(list) != (n+299)/300 || s.end.State() != "ready" {
				t.Fatalf("P11: Write of %d bytes: %d records, error %d", n, len(list), e)
			}
			for i, record := range list {
				if kind, text := s.opened(t, record); kind != 2 || text != data[i*300:min(n, i*300+300)] {
					t.Fatalf("P11: Write of %d bytes: record %d has %d bytes of type %d", n, i, len(text), kind)
				}
			}
		}
		for _, n := range []int{1001, 1300, 100000} {
			out, e := s.end.Write(strings.Repeat("x", n))
			refused(t, "P11: Write of too much", out, e, ErrLong)
		}
		for _, data := range []string{zeros(5), "\x00\x02\x00", strings.Repeat("\xff", 300)} {
			out, _ := s.end.Write(data)
			if kind, text := s.opened(t, out); kind != 2 || text != data {
				t.Errorf("P11: Write of %x: %d, %x", data, kind, text)
			}
		}
		s.talksOn(t)
	}
}

func TestRenew(t *testing.T) {
	for _, stands := range readyStands {
		s := stands(t)
		for i, both := range []bool{false, true, true, false} {
			out, e := s.end.Renew(both)
			want := framed(4, one(map[bool]int{false: 0, true: 1}[both]))
			if kind, text := s.opened(t, out); e != OK || kind != 1 || text != want || s.end.State() != "ready" {
				t.Fatalf("P11: Renew(%v): %d, %x, error %d", both, kind, text, e)
			}
			s.peer.in.renew()
			s.talksOn(t)
			if i%2 == 0 { // the other end need not hurry, or answer at all
				s.talksOn(t)
				continue
			}
			s.quiet(t, s.says(1, framed(4, "\x00")), "")
			s.peer.out.renew()
			s.talksOn(t)
		}
	}
}

// TestRenewalsCross: both ends ask each other at once.
func TestRenewalsCross(t *testing.T) {
	a, b := joined(t, config(0, true, 1), config(1, true, 1))
	fromA, _ := a.Renew(true)
	fromB, _ := b.Renew(true)
	events, back := a.Feed(fromB)
	if len(events) != 0 || len(back) != 24 {
		t.Fatalf("P11: %v, %d bytes", events, len(back))
	}
	more, _ := a.Write("behind two renewals")
	events, forth := b.Feed(fromA + back + more)
	if len(events) != 1 || events[0].Text != "behind two renewals" || len(forth) != 24 {
		t.Fatalf("P11: %v, %d bytes, %v", events, len(forth), b.Why())
	}
	more, _ = b.Write("and back")
	if events, out := a.Feed(forth + more); len(events) != 1 || events[0].Text != "and back" || out != "" {
		t.Errorf("P11: %v, %x, %v", events, out, a.Why())
	}
}

func TestClose(t *testing.T) {
	for _, stands := range stands {
		for _, begun := range []string{"", "\x02", "\x02\x00\x20abc"} {
			s := stands(t)
			s.quiet(t, begun, "")
			talk := s.end.Talk()
			out, e := s.end.Close()
			if kind, text := s.opened(t, out); e != OK || kind != 3 || text != "\x00" {
				t.Errorf("P11: Close in %s: %d, %x, error %d", s.name, kind, text, e)
			}
			if s.end.State() != "closed" || s.end.Why() != nil || s.end.Talk() != talk {
				t.Errorf("P11: Close in %s: %s, %v", s.name, s.end.State(), s.end.Why())
			}
			s.isClosed(t, "Close")
		}
	}
}

// TestCloseIsHeard: the other end hears of it wherever it can open what comes.
func TestCloseIsHeard(t *testing.T) {
	a, b := joined(t, config(0, false, 1), config(1, false, 1))
	out, _ := b.Close()
	if events, back := a.Feed(out); len(events) != 1 || events[0] != (Event{Kind: 3}) || back != "" || a.State() != "closed" || a.Why() != nil {
		t.Errorf("P11: %v, %x, %s, %v", events, back, a.State(), a.Why())
	}
	a, b = made(t, config(0, false, 1)), made(t, config(1, false, 1))
	out, _ = a.Close()
	if events, back := b.Feed(out); len(events) != 1 || events[0] != (Event{Kind: 3}) || back != "" {
		t.Errorf("P11: %v, %x", events, back)
	}
}

func TestTalkIsToldFromReadyOn(t *testing.T) {
	for _, stands := range stands {
		s := stands(t)
		ready := s.end.State() == "ready"
		if talk := s.end.Talk(); (talk != "") != ready || ready && talk != s.peer.talk() {
			t.Errorf("P11: Talk in %s: %x", s.name, talk)
		}
		s.end.Close()
		if talk := s.end.Talk(); (talk != "") != ready || ready && talk != s.peer.talk() {
			t.Errorf("P11: Talk behind %s: %x", s.name, talk)
		}
	}
}
