package parley

import "testing"

// TestRecordHeads feeds the first bytes of records: the alert comes by the last of them.
func TestRecordHeads(t *testing.T) {
	for _, stands := range stands {
		for _, c := range []struct {
			head string
			code int
		}{
			{"\x00", 10}, {"\x04", 10}, {"\x05", 10}, {"\x80", 10}, {"\xff", 10},
			{"\x01\x00\x00", 50}, {"\x01\x01\x2d", 22}, {"\x01\x01\x54", 22}, {"\x01\x80\x00", 22}, {"\x01\xff\xff", 22},
			{"\x02\x00\x00", 50}, {"\x02\x00\x01", 50}, {"\x02\x00\x10", 50}, {"\x02\x01\x55", 22}, {"\x02\xff\xff", 22},
			{"\x03\x00\x00", 50}, {"\x03\x00\x02", 22}, {"\x03\x01\x00", 22}, {"\x03\x01\x01", 22}, {"\x03\xff\xff", 22},
		} {
			s := stands(t)
			s.alerted(t, "a record's head", c.head, c.code)
		}
		for _, head := range []string{"\x01\x00\x01", "\x01\x01\x2c", "\x02\x00\x11", "\x02\x01\x54", "\x03\x00\x01"} {
			s := stands(t)
			s.quiet(t, head, "")
			s.quiet(t, "", "")
		}
	}
}

// TestRecordFaultsAtOnce: the kind counts ahead of the length, the bytes behind a fault do not.
func TestRecordFaultsAtOnce(t *testing.T) {
	for _, in := range []string{"\x00\x00\x00", "\x04\xff\xff", "\x04\x00\x00\x03\x00\x01\x00"} {
		s := helloStand(t)
		events, out := s.end.Feed(in)
		s.broken(t, "a record of no kind and length", events, out, 10)
	}
	s := helloStand(t)
	events, out := s.end.Feed("\x03\x00\x02\x05\x05")
	s.broken(t, "an alert of two bytes", events, out, 22)
}

// TestRecordsOutOfPlace are told when they are whole: sealed ahead of the keys, plain behind them.
func TestRecordsOutOfPlace(t *testing.T) {
	for _, stands := range plainStands {
		for _, n := range []int{17, 340} {
			s := stands(t)
			s.alerted(t, "a sealed record", framed(2, some(n, n)), 10)
		}
	}
	for _, stands := range sealedStands {
		for _, in := range []string{
			framed(1, "\x03"), framed(1, some(300, 1)), framed(1, framed(3, some(32, 1))), framed(1, framed(4, "\x00")),
			framed(3, "\x00"), framed(3, "\x07"),
		} {
			s := stands(t)
			s.alerted(t, "a plain record", in, 10)
		}
	}
}

func TestAlertsThatCome(t *testing.T) {
	for _, stands := range stands {
		for _, code := range []int{0, 1, 10, 51, 255} {
			s := stands(t)
			talk := s.end.Talk()
			in := s.says(3, one(code))
			for i := range len(in) - 1 {
				s.quiet(t, in[i:i+1], "")
			}
			want := Event{Kind: 4, Code: code}
			if code == 0 {
				want = Event{Kind: 3}
			}
			events, out := s.end.Feed(in[len(in)-1:] + "\x00")
			if len(events) != 1 || events[0] != want || out != "" {
				t.Errorf("P8: the alert %d in %s: told %v, sent %x", code, s.name, events, out)
			}
			if s.end.State() != "closed" || s.end.Why() != nil || s.end.Talk() != talk {
				t.Errorf("P8: the alert %d in %s: %s, %v", code, s.name, s.end.State(), s.end.Why())
			}
			s.isClosed(t, "an alert that came")
		}
	}
}

// TestSealedAlertWithZeros: any number of them may stand behind the type.
func TestSealedAlertWithZeros(t *testing.T) {
	for _, n := range []int{1, 2, 300, 322} {
		s := answeringFinishStand(t)
		events, out := s.end.Feed(s.peer.out.seal("\x07\x03" + zeros(n)))
		if len(events) != 1 || events[0] != (Event{Kind: 4, Code: 7}) || out != "" {
			t.Errorf("P8: a sealed alert with %d zeros: %v, %x", n, events, out)
		}
	}
}

func TestSealedContents(t *testing.T) {
	for _, c := range []struct {
		what, inner string
		code        int
	}{
		{"one zero", "\x00", 10},
		{"many zeros", zeros(324), 10},
		{"more zeros than a content has bytes", zeros(302), 10},
		{"301 bytes of data", some(301, 1) + "\x02", 22},
		{"323 bytes of data", some(323, 1) + "\x02", 22},
		{"301 bytes of data and zeros", some(301, 1) + "\x02" + zeros(22), 22},
		{"301 bytes of messages", some(301, 1) + "\x01", 22},
		{"301 bytes of an alert", some(301, 1) + "\x03", 22},
		{"301 bytes of no type", some(301, 1) + "\x04", 22},
		{"301 zeros as data", zeros(301) + "\x02", 22},
		{"type 4", "x\x04", 10},
		{"type 255", "x\xff", 10},
		{"type 4 without content", "\x04", 10},
		{"300 bytes of no type", some(300, 1) + "\x04", 10},
		{"no messages", "\x01", 50},
		{"no messages, and zeros", "\x01" + zeros(323), 50},
		{"an alert of no byte", "\x03", 50},
		{"an alert of two bytes", "\x05\x05\x03", 50},
		{"an alert of 300 bytes", some(300, 1) + "\x03", 50},
		{"an alert of two zeros, and zeros", "\x00\x00\x03\x00", 50},
	} {
		for _, stands := range sealedStands {
			s := stands(t)
			s.alerted(t, c.what, s.peer.out.seal(c.inner), c.code)
		}
	}
}

func TestUnopened(t *testing.T) {
	for _, stands := range sealedStands {
		for _, n := range []int{17, 18, 317, 340} {
			s := stands(t)
			s.alerted(t, "what was never sealed", framed(2, some(n, n)), 20)
		}
		s := stands(t)
		head := len(s.says(2, "data")) - 1
		for i := 3; i < head; i += 4 {
			s := stands(t)
			turned := []byte(s.says(2, "data"))
			turned[i] ^= 0x40
			s.alerted(t, "a turned byte", string(turned), 20)
		}
		s = stands(t)
		s.says(2, "the record ahead")
		s.alerted(t, "a record that was left out", s.says(2, "data"), 20)
		s = stands(t)
		in := s.peer.in.seal("\x00\x03")
		s.peer.in.count--
		s.alerted(t, "a record sealed by the other secret", in, 20)
		s = stands(t)
		longer := s.peer.out.seal("data\x02")
		s.alerted(t, "another length in the head", "\x02"+two(len(longer)-4)+longer[3:len(longer)-1], 20)
		s = stands(t)
		s.alerted(t, "zeros that were never sealed", framed(2, zeros(17)), 20)
	}
}

// TestOpenedOnceOnly: each record has a number of its own.
func TestOpenedOnceOnly(t *testing.T) {
	for _, stands := range readyStands {
		s := stands(t)
		record := s.says(2, "data")
		if events, _ := s.end.Feed(record); len(events) != 1 || events[0] != (Event{Kind: 2, Text: "data"}) {
			t.Fatalf("P8: %v", events)
		}
		s.alerted(t, "the same record again", record, 20)
	}
}

func TestDataAheadOfReady(t *testing.T) {
	for _, stands := range sealedStands[:2] {
		for _, data := range []string{"", "x", some(300, 1)} {
			s := stands(t)
			s.alerted(t, "data ahead of ready", s.says(2, data), 10)
		}
	}
}

func TestDataThatComes(t *testing.T) {
	for _, stands := range readyStands {
		s := stands(t)
		for n := range 301 {
			data := some(n, n)
			for _, behind := range []int{0, 1, 323 - n} {
				events, out := s.end.Feed(s.peer.out.seal(data + "\x02" + zeros(behind)))
				if out != "" || s.end.State() != "ready" {
					t.Fatalf("P8: %d bytes of data: sent %x, %v", n, out, s.end.Why())
				}
				if n == 0 && len(events) != 0 || n > 0 && (len(events) != 1 || events[0] != (Event{Kind: 2, Text: data})) {
					t.Fatalf("P8: %d bytes of data: %v", n, events)
				}
			}
		}
		for _, data := range []string{zeros(1), zeros(300), "\x01\x02\x03", "\x02\x00"} {
			if events, _ := s.end.Feed(s.says(2, data)); len(events) != 1 || events[0].Text != data {
				t.Errorf("P8: the data %x: %v", data, events)
			}
		}
	}
}
