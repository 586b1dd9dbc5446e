package parley

import "testing"

func TestGreet(t *testing.T) {
	for n := range 17 {
		c := config(0, false, n)
		if c.Name = some(n, n); n > 0 {
			c.Key = some(2*n, n)
		}
		e := made(t, c)
		got, f := e.Greet()
		p := peer{Config: c}
		if want := framed(1, framed(1, p.helloBody(t))); got != want || f != OK {
			t.Errorf("P6: Greet with a name of %d bytes: %x, error %d; want %x", n, got, f, want)
		}
		if e.State() != "reply" || e.Why() != nil || e.Talk() != "" {
			t.Errorf("P6: behind Greet: %s, %v", e.State(), e.Why())
		}
	}
}

// TestCallsRefused holds the states against the document's, in which an end takes no call, or not all of them.
func TestCallsRefused(t *testing.T) {
	for _, stands := range stands {
		s := stands(t)
		state := s.end.State()
		if state != "start" {
			got, f := s.end.Greet()
			refused(t, "P6: Greet in "+s.name, got, f, ErrState)
		}
		if state != "ready" {
			for _, data := range []string{"", "x", some(1000, 1), some(1001, 1)} {
				got, f := s.end.Write(data)
				refused(t, "P11: Write in "+s.name, got, f, ErrState)
			}
			for _, both := range []bool{false, true} {
				got, f := s.end.Renew(both)
				refused(t, "P11: Renew in "+s.name, got, f, ErrState)
			}
		}
		if s.end.State() != state || s.end.Why() != nil {
			t.Errorf("P1: a refused call in %s: %s, %v", s.name, s.end.State(), s.end.Why())
		}
	}
}

// pester makes all calls that are refused.
func pester(e *End) {
	if e.State() != "start" {
		e.Greet()
	}
	if e.State() != "ready" {
		e.Write("x")
		e.Write("")
		e.Renew(true)
		e.Renew(false)
	}
	e.Write(some(1001, 1))
}

// TestRefusedCallsChangeNothing has the same talk with and without calls that are refused.
func TestRefusedCallsChangeNothing(t *testing.T) {
	talk := func(between func(*End)) (said string) {
		ends := [2]*End{made(t, config(0, true, 3)), made(t, config(1, true, 3))}
		pass := func(from int, bytes string, f Errno) {
			for ; bytes != ""; from = 1 - from {
				between(ends[0])
				between(ends[1])
				said += bytes + one(int(f)) + ends[from].State()
				_, bytes = ends[1-from].Feed(bytes)
			}
		}
		between(ends[0])
		bytes, f := ends[0].Greet()
		pass(0, bytes, f)
		for i := range 2 {
			bytes, f = ends[i].Write("some data")
			pass(i, bytes, f)
			bytes, f = ends[i].Renew(true)
			pass(i, bytes, f)
			bytes, f = ends[i].Write("more data")
			pass(i, bytes, f)
		}
		bytes, f = ends[0].Close()
		pass(0, bytes, f)
		return said + ends[0].Talk() + ends[1].Talk()
	}
	if talk(pester) != talk(func(*End) {}) {
		t.Error("P1: calls that are refused change what an end says")
	}
}

// TestOneRecordAMessage: what is sent stands in as few records as can be, a message in each, without zeros.
func TestOneRecordAMessage(t *testing.T) {
	s := askingReadyStand(t)
	update := s.says(1, framed(4, "\x01"))
	s.peer.out.renew()
	events, out := s.end.Feed(update + s.says(1, framed(4, "\x00")))
	if len(events) != 0 || len(out) != 3+3+1+1+16 {
		t.Fatalf("P6: %v, %d bytes", events, len(out))
	}
	if inner := s.peer.in.open(t, out); inner != framed(4, "\x00")+"\x01" {
		t.Errorf("P6: an update as %x", inner)
	}
}
