package parley

import (
	"strconv"
	"testing"
)

// awaited is the kind of message that a state waits for.
func awaited(state string) int {
	switch state {
	case "hello":
		return 1
	case "reply":
		return 2
	case "finish":
		return 3
	case "ready":
		return 4
	}
	return 0
}

// rightBody is that of the message that the end waits for.
func (s *stand) rightBody(t *testing.T) string {
	switch s.end.State() {
	case "hello":
		return s.peer.helloBody(t)
	case "reply":
		return s.peer.replyBody(t)
	case "finish":
		if s.peer.Role == 0 {
			return s.peer.lastFinish()[3:]
		}
		return s.peer.finish[3:]
	}
	return "\x01"
}

// TestMessageHeads: the alert comes by the third byte, in however many records the three are.
func TestMessageHeads(t *testing.T) {
	for _, stands := range stands {
		state := stands(t).end.State()
		for _, kind := range []int{0, 1, 2, 3, 4, 5, 128, 255} {
			for _, length := range []int{0, 1, 32, 65, 100, 101, 65535} {
				code := 10
				if kind == awaited(state) && kind != 0 {
					code = 50
				}
				head := one(kind) + two(length)
				s := stands(t)
				if code == 50 && length <= 100 && length > 0 {
					s.quiet(t, s.says(1, head), "")
					continue
				}
				s.alerted(t, "a message's head", s.says(1, head), code)
				if length%2 == 0 {
					continue
				}
				s = stands(t)
				s.quiet(t, s.says(1, head[:1])+s.says(1, head[1:2]), "")
				s.alerted(t, "a message's head in three records", s.says(1, head[2:]), code)
				s = stands(t)
				s.alerted(t, "a message's head and more", s.says(1, head+some(200, 1)), code)
			}
		}
	}
}

// TestBytesAheadOfGreet: less than a head tells nothing of what comes, and goes on behind Greet.
func TestBytesAheadOfGreet(t *testing.T) {
	for n := range 3 {
		s := startStand(t)
		if n > 0 {
			s.quiet(t, framed(1, "\x02\x00"[:n]), "")
		}
		s.quiet(t, "\x01\x00", "")
		s = s.greeted(t)
		s.peer.reply = framed(2, s.peer.replyBody(t))
		s.peer.agree(t)
		rest := framed(1, s.peer.reply[n:])
		s.quiet(t, rest[2:], "")
		s.settled(t)
	}
}

func TestBodies(t *testing.T) {
	point := shareOf(t, some(32, 1), "\x09"+zeros(31))
	greeting := some(32, 1) + point
	for _, c := range []struct {
		stand  func(*testing.T) stand
		bodies []string
	}{
		{helloStand, []string{
			"", "\x00", greeting[:63], greeting, greeting + "\x01", greeting + "\x00n", greeting + "\x02n", greeting + "\x01nn",
			greeting + "\x11" + some(17, 1), greeting + "\x10" + some(17, 1), greeting + "\x11" + some(16, 1), greeting + "\x23" + some(35, 1), greeting + "\xff" + some(16, 1),
		}},
		{replyStand, []string{
			"", "\x00", greeting[:63], greeting, greeting[:63] + "\x00", greeting + "\x02", greeting + "\xff", greeting + "\x00\x00", greeting + "\x01\x00", greeting + "\x00" + some(35, 1),
		}},
		{askingFinishStand, []string{"", "\x00", some(31, 1), some(33, 1), some(100, 1)}},
		{answeringFinishStand, []string{"", "\x00", some(31, 1), some(33, 1), some(100, 1)}},
		{askingReadyStand, []string{"", "\x02", "\xff", "\x00\x00", "\x01\x00", "\x00\x01", some(100, 1)}},
		{answeringReadyStand, []string{"", "\x02", "\xff", "\x00\x00", "\x01\x00", "\x00\x01", some(100, 1)}},
	} {
		for _, body := range c.bodies {
			for _, more := range []string{"", "x", some(150, 1)} {
				s := c.stand(t)
				what := "a body of " + strconv.Itoa(len(body)) + " bytes"
				s.alerted(t, what, s.says(1, framed(awaited(s.end.State()), body)+more), 50)
			}
		}
	}
}

// TestFinishCutShort: also one that goes on as it must is none, if it is too long.
func TestFinishCutShort(t *testing.T) {
	for _, stands := range sealedStands[:2] {
		s := stands(t)
		body := s.rightBody(t)
		s.alerted(t, "a finish with a byte behind", s.says(1, framed(3, body+"\x00")), 50)
		s = stands(t)
		s.alerted(t, "a finish without its last byte", s.says(1, framed(3, body[:31])), 50)
	}
}

// goOn feeds the message that the end waits for, in records as cut does, and answers what came of it.
func (s *stand) goOn(t *testing.T, cut func(message string) []string) (told []Event, sent string) {
	t.Helper()
	in := ""
	for _, piece := range cut(framed(awaited(s.end.State()), s.rightBody(t))) {
		in += s.says(1, piece)
	}
	return s.end.Feed(in)
}

func whole(message string) []string { return []string{message} }

// TestMessagesCut has each message come in two records, cut at every byte, and in many.
func TestMessagesCut(t *testing.T) {
	for _, stands := range stands[1:] {
		s := stands(t)
		body := s.rightBody(t)
		told, sent := s.goOn(t, whole)
		state := s.end.State()
		same := func(what string, events []Event, out string, e *End) {
			t.Helper()
			if len(events) != len(told) || len(told) > 0 && events[0] != told[0] || out != sent || e.State() != state {
				t.Fatalf("P9: %s: %s: told %v, sent %x, %s", s.name, what, events, out, e.State())
			}
		}
		for i := 1; i < len(body)+3; i++ {
			s := stands(t)
			events, out := s.goOn(t, func(m string) []string { return []string{m[:i], m[i:]} })
			same("two records", events, out, s.end)
		}
		for n := 1; n < 40; n += 7 {
			s := stands(t)
			events, out := s.goOn(t, func(m string) (list []string) {
				for ; len(m) > n; m = m[n:] {
					list = append(list, m[:n])
				}
				return append(list, m)
			})
			same("many records", events, out, s.end)
		}
	}
}

// TestMoreBehindAMessage: a message ends the bytes that its keys, or none, may bring; nothing has come of it.
func TestMoreBehindAMessage(t *testing.T) {
	for _, stands := range stands[1:] {
		for _, more := range []string{"\x00", "x", some(100, 1), framed(4, "\x00"), framed(3, some(32, 1))} {
			s := stands(t)
			right := framed(awaited(s.end.State()), s.rightBody(t))
			s.alerted(t, "more bytes behind a message", s.says(1, right+more), 10)
			s = stands(t)
			s.quiet(t, s.says(1, right[:2]), "")
			s.alerted(t, "more bytes behind the rest of a message", s.says(1, right[2:]+more), 10)
		}
		s := stands(t)
		right := framed(awaited(s.end.State()), s.rightBody(t))
		s.alerted(t, "the same message twice", s.says(1, right+right), 10)
	}
}

// TestDataBetween: data may come while a message is not whole.
func TestDataBetween(t *testing.T) {
	for _, stands := range readyStands {
		s := stands(t)
		s.quiet(t, s.says(1, "\x04\x00"), "")
		if events, out := s.end.Feed(s.says(2, "between")); len(events) != 1 || events[0].Text != "between" || out != "" {
			t.Errorf("P9: data between: %v, %x", events, out)
		}
		s.quiet(t, s.says(1, "\x01\x00"), "")
		s.peer.out.renew()
		if events, _ := s.end.Feed(s.says(2, "behind")); len(events) != 1 || events[0].Text != "behind" {
			t.Errorf("P9: data behind an update: %v", events)
		}
		s.quiet(t, s.says(1, "\x04"), "")
		s.alerted(t, "another message behind the first byte of one", s.says(1, "\x05\x00"), 50)
	}
}
