package parley

import (
	"math/rand"
	"slices"
	"strings"
	"testing"
)

// A pair is two ends and the bytes on their way to each.
type pair struct {
	ends      [2]*End
	way       [2]string
	told      [2][]Event
	got, want [2]string
}

func newPair(t *testing.T, x, y Config) *pair {
	t.Helper()
	p := &pair{ends: [2]*End{made(t, x), made(t, y)}}
	greeting, e := p.ends[0].Greet()
	if e != OK {
		t.Fatalf("P6: Greet: error %d", e)
	}
	p.way[1] = greeting
	return p
}

// pass brings n bytes to an end.
func (p *pair) pass(to, n int) {
	n = min(n, len(p.way[to]))
	events, out := p.ends[to].Feed(p.way[to][:n])
	p.way[to] = p.way[to][n:]
	p.way[1-to] += out
	p.told[to] = append(p.told[to], events...)
	for _, e := range events {
		if e.Kind == 2 {
			p.got[to] += e.Text
		}
	}
}

// passAll brings bytes, at most n at once, till none is on its way.
func (p *pair) passAll(n int) {
	for p.way[0] != "" || p.way[1] != "" {
		p.pass(1, n)
		p.pass(0, n)
	}
}

func (p *pair) write(t *testing.T, from int, data string) {
	t.Helper()
	out, e := p.ends[from].Write(data)
	if e != OK {
		t.Fatalf("P11: Write: error %d, %v", e, p.ends[from].Why())
	}
	p.way[1-from] += out
	p.want[1-from] += data
}

func (p *pair) renew(t *testing.T, from int, both bool) {
	t.Helper()
	out, e := p.ends[from].Renew(both)
	if e != OK {
		t.Fatalf("P11: Renew: error %d, %v", e, p.ends[from].Why())
	}
	p.way[1-from] += out
}

func (p *pair) areReady() bool {
	a, b := p.ends[0], p.ends[1]
	return a.State() == "ready" && b.State() == "ready" && a.Talk() == b.Talk() && len(a.Talk()) == 32
}

// joined answers two ends that are ready.
func joined(t *testing.T, x, y Config) (*End, *End) {
	t.Helper()
	p := newPair(t, x, y)
	p.passAll(1000)
	if !p.areReady() {
		t.Fatalf("P12: %s, %s", p.ends[0].State(), p.ends[1].State())
	}
	return p.ends[0], p.ends[1]
}

// TestWhoComesToReady has ends with all kinds of keys meet.
func TestWhoComesToReady(t *testing.T) {
	type keyed struct {
		name, key string
		must      bool
	}
	list := []keyed{{"", "", false}, {"n", "k", false}, {"n", "k", true}, {"m", "k", false}, {"m", "k", true}, {"n", "l", false}, {"n", "l", true}}
	talks := map[string]bool{}
	for i, x := range list {
		for j, y := range list {
			a, b := config(0, false, 10*i+j), config(1, false, 10*i+j)
			a.Name, a.Key, a.Must = x.name, x.key, x.must
			b.Name, b.Key, b.Must = y.name, y.key, y.must
			p := newPair(t, a, b)
			p.passAll(400)
			used := x.name == y.name && x.name != ""
			told := [2][]Event{{{Kind: 1, Text: p.ends[0].Talk()}}, {{Kind: 1, Text: p.ends[1].Talk()}}}
			switch {
			case y.must && !used:
				told = [2][]Event{{{Kind: 4, Code: 40}}, {{Kind: 5, Code: 40}}}
			case x.must && !used: // the alert is plain, where the other end waits for a sealed record
				told = [2][]Event{{{Kind: 5, Code: 40}}, {{Kind: 5, Code: 10}}}
			case used && x.key != y.key:
				told = [2][]Event{{{Kind: 5, Code: 20}}, {{Kind: 5, Code: 20}}}
			}
			if !slices.Equal(p.told[0], told[0]) || !slices.Equal(p.told[1], told[1]) {
				t.Errorf("P10, P12: %v and %v: %v, %v; want %v", x, y, p.told[0], p.told[1], told)
			}
			if told[0][0].Kind == 1 {
				if !p.areReady() || talks[p.ends[0].Talk()] {
					t.Errorf("P12: %v and %v: %s, %s", x, y, p.ends[0].State(), p.ends[1].State())
				}
				talks[p.ends[0].Talk()] = true
			}
		}
	}
}

// TestTalksCut has one talk come in pieces of every size.
func TestTalksCut(t *testing.T) {
	talk := func(n int) *pair {
		p := newPair(t, config(0, true, 5), config(1, true, 5))
		p.passAll(n)
		if !p.areReady() {
			t.Fatalf("P12: in pieces of %d bytes: %s, %s", n, p.ends[0].State(), p.ends[1].State())
		}
		for i := range 2 {
			p.write(t, i, some(650, i))
			p.renew(t, i, i == 0)
			p.write(t, i, "short")
			p.write(t, i, "")
			p.passAll(n)
		}
		out, _ := p.ends[0].Close()
		p.way[1] += out
		p.passAll(n)
		return p
	}
	want := talk(100000)
	if want.got != want.want {
		t.Error("P12: data have changed on their way")
	}
	for n := 1; n < 350; n++ {
		got := talk(n)
		for i := range 2 {
			if !slices.Equal(got.told[i], want.told[i]) || got.ends[i].Talk() != want.ends[i].Talk() || got.ends[i].State() != "closed" {
				t.Fatalf("P12: in pieces of %d bytes: %v; want %v", n, got.told[i], want.told[i])
			}
		}
	}
}

// TestTalksCutInTwo has each flight of the greetings cut at each byte.
func TestTalksCutInTwo(t *testing.T) {
	for flight := range 3 {
		for cut, more := 0, true; more; cut++ {
			p := newPair(t, config(0, true, 6), config(1, true, 6))
			for i := range 3 {
				to := 1 - i%2
				if i == flight {
					more = cut < len(p.way[to])
					p.pass(to, cut)
				}
				p.pass(to, 1000)
			}
			if !p.areReady() {
				t.Fatalf("P12: flight %d cut at %d: %s, %s", flight, cut, p.ends[0].State(), p.ends[1].State())
			}
		}
	}
}

// TestTalksAtRandom: whatever is written and renewed when, and however it is cut, comes in its order.
func TestTalksAtRandom(t *testing.T) {
	for seed := range 60 {
		r := rand.New(rand.NewSource(int64(seed)))
		p := newPair(t, config(0, seed%2 == 0, seed), config(1, seed%3 == 0, seed))
		for !p.areReady() {
			p.pass(r.Intn(2), r.Intn(90))
		}
		for range 80 {
			from := r.Intn(2)
			switch r.Intn(5) {
			case 0, 1:
				p.write(t, from, some(r.Intn(1001), r.Int()))
			case 2:
				p.renew(t, from, r.Intn(2) == 0)
			default:
				p.pass(from, r.Intn(700))
			}
		}
		p.passAll(1 + r.Intn(500))
		for i, e := range p.ends {
			if p.got[i] != p.want[i] || e.State() != "ready" || e.Why() != nil {
				t.Fatalf("P12: seed %d: %d of %d bytes, %v", seed, len(p.got[i]), len(p.want[i]), e.Why())
			}
		}
	}
}

// TestManyRecordsAtOnce: an end takes them in one call, however many there are.
func TestManyRecordsAtOnce(t *testing.T) {
	p := newPair(t, config(0, false, 7), config(1, false, 7))
	p.passAll(1000)
	for range 100 {
		p.write(t, 0, strings.Repeat("x", 1000))
		p.renew(t, 0, true)
	}
	p.pass(1, len(p.way[1]))
	if p.got[1] != p.want[1] || len(p.way[0]) != 100*24 {
		t.Errorf("P12: %d of %d bytes, %d bytes sent", len(p.got[1]), len(p.want[1]), len(p.way[0]))
	}
}

// TestTurnedBytes: whatever is turned on its way, no end tells of data that were not written.
func TestTurnedBytes(t *testing.T) {
	for i := 0; i < 400; i++ {
		p := newPair(t, config(0, true, 8), config(1, true, 8))
		turned, passed := false, 0
		for step := 0; step < 6; step++ {
			to := 1 - step%2
			if at := i - passed; !turned && at < len(p.way[to]) {
				b := []byte(p.way[to])
				b[at] ^= byte(1 << (i % 8))
				p.way[to], turned = string(b), true
			}
			passed += len(p.way[to])
			p.pass(to, 1000)
			if out, e := p.ends[to].Write("true"); e == OK {
				p.way[1-to] += out
			}
		}
		for _, e := range p.ends {
			if turned && e.State() == "ready" && e.Talk() != "" && p.ends[0].State() == p.ends[1].State() {
				t.Errorf("P12: byte %d turned, and nobody has seen it", i)
			}
		}
		if strings.ReplaceAll(p.got[0]+p.got[1], "true", "") != "" {
			t.Errorf("P12: byte %d turned: %q, %q", i, p.got[0], p.got[1])
		}
	}
}
