package parley

import (
	"testing"

	"parley/reckon"
)

// noShare are points with which no share can be had, whatever the secret is.
func noShare(t *testing.T) []string {
	return []string{
		zeros(32),
		"\x01" + zeros(31),
		zeros(31) + "\x80",
		unhex(t, "e0eb7a7c3b41b8ae1656e3faf19fc46ada098deb9c32b1fd866205165f49b800"),
		unhex(t, "5f9c95bca3508c24b1d0b1559c83ef5b04445cc4581c8e86d8224eddd09f1157"),
		unhex(t, "ecffffffffffffffffffffffffffffffffffffffffffffffffffffffffffff7f"),
		unhex(t, "edffffffffffffffffffffffffffffffffffffffffffffffffffffffffffff7f"),
		unhex(t, "eeffffffffffffffffffffffffffffffffffffffffffffffffffffffffffff7f"),
	}
}

// put is a stand that has its end made with another configuration.
func put(t *testing.T, role int, turn func(c *Config)) stand {
	t.Helper()
	c := config(role, true, 0)
	turn(&c)
	s := stand{c.Name, made(t, c), &peer{Config: config(1-role, true, 0)}}
	if role == 0 {
		return s.greeted(t)
	}
	return s
}

func plain(c *Config) { c.Name, c.Key = "", "" }

func must(c *Config) { c.Must = true }

func asItIs(*Config) {}

func TestHelloRefused(t *testing.T) {
	p := peer{Config: config(0, true, 0)}
	right := p.Random + p.point(t)
	for _, c := range []struct {
		what string
		turn func(*Config)
		body string
		code int
	}{
		{"no name where the key must be used", must, right + "\x00", 40},
		{"another name where the key must be used", must, right + "\x04nama", 40},
		{"a longer name where the key must be used", must, right + "\x05namen", 40},
		{"a shorter name where the key must be used", must, right + "\x03nam", 40},
		{"no share, and no name where the key must be used", must, right[:32] + zeros(32) + "\x00", 47},
		{"no share, and the name where the key must be used", must, right[:32] + zeros(32) + "\x04name", 47},
		{"no share, and no end of the name", must, right[:32] + zeros(32) + "\x01", 50},
	} {
		for _, more := range []string{"", "x"} {
			s := put(t, 1, c.turn)
			s.alerted(t, c.what, framed(1, framed(1, c.body)+more), c.code)
		}
	}
	for _, point := range noShare(t) {
		for _, turn := range []func(*Config){plain, asItIs, must} {
			s := put(t, 1, turn)
			s.alerted(t, "no share", framed(1, framed(1, right[:32]+point+"\x04name")), 47)
		}
	}
}

func TestReplyRefused(t *testing.T) {
	p := peer{Config: config(1, true, 0)}
	right := p.Random + p.point(t)
	for _, c := range []struct {
		what string
		turn func(*Config)
		body string
		code int
	}{
		{"no key is used where one must be", must, right + "\x00", 40},
		{"a key is used where there is none", plain, right + "\x01", 47},
		{"no share, and no key where one must be", must, right[:32] + zeros(32) + "\x00", 47},
		{"no share, and a key where there is none", plain, right[:32] + zeros(32) + "\x01", 47},
		{"no share, and no flag", must, right[:32] + zeros(32) + "\x02", 50},
	} {
		for _, more := range []string{"", "x"} {
			s := put(t, 0, c.turn)
			s.alerted(t, c.what, framed(1, framed(2, c.body)+more), c.code)
		}
	}
	for _, point := range noShare(t) {
		for _, turn := range []func(*Config){plain, asItIs, must} {
			s := put(t, 0, turn)
			s.alerted(t, "no share", framed(1, framed(2, right[:32]+point+"\x00")), 47)
		}
	}
}

// TestKeys has an end and its peer come to ready with a key that is used, and without: the peer reckons by the document's formulas.
func TestKeys(t *testing.T) {
	for _, c := range []struct {
		name, key string
		must      bool
		theirs    string
		keyed     bool
	}{
		{"", "", false, "", false},
		{"", "", false, "name", false},
		{"name", "key", false, "", false},
		{"name", "key", false, "nama", false},
		{"name", "key", false, "name", true},
		{"name", "key", true, "name", true},
		{"n", "k", true, "n", true},
		{some(16, 1), some(32, 1), true, some(16, 1), true},
		{"\x00", zeros(32), false, "\x00", true},
		{"\x00", "\x00", false, "\x00", true},
	} {
		turn := func(own *Config) { own.Name, own.Key, own.Must = c.name, c.key, c.must }
		s := put(t, 1, turn)
		s.peer.Name, s.peer.Key, s.peer.keyed = c.theirs, c.key, c.keyed
		s = s.answered(t).settled(t)
		s.talksOn(t)
		if c.name == "" && c.keyed || c.must && !c.keyed {
			continue
		}
		s = put(t, 0, turn)
		s.peer.Key, s.peer.keyed = c.key, c.keyed
		s = s.replied(t).settled(t)
		s.talksOn(t)
	}
}

// talksOn has one datum go either way.
func (s *stand) talksOn(t *testing.T) {
	t.Helper()
	if events, out := s.end.Feed(s.says(2, "to the end")); len(events) != 1 || events[0] != (Event{Kind: 2, Text: "to the end"}) || out != "" {
		t.Errorf("P10: %s: %v, %x, %v", s.name, events, out, s.end.Why())
	}
	out, e := s.end.Write("from the end")
	if kind, text := s.opened(t, out); e != OK || kind != 2 || text != "from the end" {
		t.Errorf("P10: %s: Write: %d, %q, error %d", s.name, kind, text, e)
	}
}

// TestZerosAreNoKey: a key of 32 zeros says what no key says, a shorter one something else.
func TestZerosAreNoKey(t *testing.T) {
	talk := func(key string, keyed bool) string {
		s := put(t, 0, func(c *Config) { c.Key = key })
		s.peer.Key, s.peer.keyed = key, keyed
		s = s.replied(t)
		return s.peer.mid
	}
	if talk(zeros(32), true) != talk("another", false) || talk(zeros(31)+"x", true) == talk("another", false) {
		t.Error("P10: the peer's keys")
	}
}

func TestFinishRefused(t *testing.T) {
	for _, stands := range sealedStands[:2] {
		s := stands(t)
		right := s.rightBody(t)
		asking, answering := s.peer.secrets()
		said, all := hashOf(s.peer.hello+s.peer.reply), hashOf(s.peer.hello+s.peer.reply+s.peer.finish)
		wrong := []string{
			zeros(32), some(32, 1), right[1:] + right[:1],
			macOf(deriveOf(asking, "finished", "", 32), said),
			macOf(deriveOf(answering, "finished", "", 32), all),
			macOf(asking, all), macOf(answering, said), said, all,
			s.peer.finish[3:], s.peer.lastFinish()[3:],
		}
		for i := range 32 {
			turned := []byte(right)
			turned[i] ^= 1 << (i % 8)
			wrong = append(wrong, string(turned))
		}
		for i, body := range wrong {
			if body == right {
				continue
			}
			s := stands(t)
			more := "some more"[:i%2*9]
			s.alerted(t, "another finish", s.says(1, framed(3, body)+more), 51)
		}
	}
}

// TestOldSecretsAreGone: behind the finishes those that sealed them open nothing.
func TestOldSecretsAreGone(t *testing.T) {
	for _, stands := range sealedStands[:2] {
		s := stands(t)
		old := s.peer.out
		old.count = 1
		s = s.settled(t)
		s.alerted(t, "a record sealed as the finish was", old.seal("\x00\x03"), 20)
	}
}

// TestUpdates: the secret to receive by is renewed each time, the one to send by where that is asked for.
func TestUpdates(t *testing.T) {
	for _, stands := range readyStands {
		s := stands(t)
		for i, body := range []string{"\x00", "\x01", "\x01", "\x00", "\x00", "\x01"} {
			events, out := s.end.Feed(s.says(1, framed(4, body)))
			s.peer.out.renew()
			if len(events) != 0 || s.end.State() != "ready" || (out == "") != (body == "\x00") {
				t.Fatalf("P10: update %d: told %v, sent %x, %v", i, events, out, s.end.Why())
			}
			if body == "\x01" {
				if kind, text := s.opened(t, out); kind != 1 || text != framed(4, "\x00") {
					t.Fatalf("P10: update %d is answered by %d, %x", i, kind, text)
				}
				s.peer.in.renew()
			}
			s.talksOn(t)
		}
		old := s.peer.out
		s.end.Feed(s.says(1, framed(4, "\x00")))
		s.peer.out.renew()
		old.count++
		s.alerted(t, "data sealed by the secret ahead of the update", old.seal("data\x02"), 20)
	}
}

// TestSecretsAreCleared looks at what an end keeps: of secrets no more than it still needs.
func TestSecretsAreCleared(t *testing.T) {
	for _, stands := range stands {
		s := stands(t)
		e, state := s.end, s.end.State()
		agreed := state == "finish" || state == "ready"
		isEmpty := e.own.secret == [32]byte{} && len(e.own.key) == 0 && e.own.random == "" && e.own.name == ""
		begun := e.said != reckon.Running{}
		if isEmpty != agreed || (e.master != [32]byte{}) != (state == "finish") || begun != (state != "ready") {
			t.Errorf("P10: %s: an end keeps %+v, %x", s.name, e.own, e.master)
		}
		key := e.own.key
		s.quiet(t, s.says(1, one(awaited(state)))+"\x02", "")
		e.Close()
		for _, b := range key {
			if b != 0 {
				t.Fatalf("P10: %s: the key %x is not cleared", s.name, key)
			}
		}
		var none End
		if e.own.secret != none.own.secret || e.own.key != nil || e.own.random != "" || e.own.name != "" || e.master != none.master || e.said != none.said || e.out != none.out || e.in.line != none.in.line || e.in.record.held != nil || e.in.message.held != nil {
			t.Errorf("P10: %s: a closed end keeps %+v", s.name, e)
		}
	}
}
