package parley

import (
	"errors"
	"math"
	"strings"
	"sync"
	"testing"
)

// The document's list of calls, held against the package by the compiler.
var (
	_ func(string) string                                  = Hash
	_ func(string, string) string                          = Mac
	_ func(string, string, int) (string, Errno)            = Expand
	_ func(string, string, string, string) (string, Errno) = Seal
	_ func(string, string, string, string) (string, Errno) = Open
	_ func(string, string) (string, Errno)                 = Share
	_ func(string) (*Machine, Errno, int)                  = Compile
	_ func(*Machine, []Happening) []Taken                  = (*Machine).Walk
	_ func(Config) (*End, Errno)                           = New
	_ func(*End) (string, Errno)                           = (*End).Greet
	_ func(*End, string) ([]Event, string)                 = (*End).Feed
	_ func(*End, string) (string, Errno)                   = (*End).Write
	_ func(*End, bool) (string, Errno)                     = (*End).Renew
	_ func(*End) (string, Errno)                           = (*End).Close
	_ func(*End) string                                    = (*End).State
	_ func(*End) string                                    = (*End).Talk
	_ func(*End) error                                     = (*End).Why
	_ error                                                = (*Alert)(nil)
	_ interface{ Unwrap() error }                          = (*Alert)(nil)
	_                                                      = Happening{Event: "", Holds: []string{}}
	_                                                      = Taken{Rule: 0, State: "", Actions: []string{}}
	_                                                      = Config{Role: 0, Secret: "", Random: "", Name: "", Key: "", Must: false}
	_                                                      = Event{Kind: 0, Code: 0, Text: ""}
	_                                                      = Alert{Code: 0}
)

func TestErrorNumbers(t *testing.T) {
	for want, e := range []Errno{OK, ErrArg, ErrLong, ErrText, ErrMany, ErrTwice, ErrGoal, ErrNever, ErrLost, ErrOpen, ErrShare, ErrState} {
		if int(e) != want {
			t.Errorf("P1: error number %d is %d", want, e)
		}
	}
	if Broken == nil || errors.Unwrap(Broken) != nil {
		t.Errorf("P1: Broken is %v", Broken)
	}
}

// oddTexts are texts at which a careless call would trip: none, just off a size, no letters, long.
func oddTexts() []string {
	list := []string{"", "\x00", "\xff\xfe", "ä", some(100000, 1)}
	for _, n := range []int{11, 12, 13, 15, 16, 17, 31, 32, 33, 55, 56, 63, 64, 65} {
		list = append(list, some(n, n), strings.Repeat("\xff", n))
	}
	return list
}

func oddNumbers() []int {
	return []int{math.MinInt, math.MinInt32, -1, 0, 1, 31, 32, 33, 8159, 8160, 8161, math.MaxInt32, math.MaxInt}
}

func TestNoCallPanics(t *testing.T) {
	list := oddTexts()
	for i, a := range list {
		for j, b := range list {
			Hash(a)
			Mac(a, b)
			c, d := list[(i+j)%len(list)], list[(3*i+5*j)%len(list)]
			sealed, e := Seal(a, b, c, d)
			emptyBesideError(t, "Seal", sealed, e)
			opened, e := Open(a, b, c, d)
			emptyBesideError(t, "Open", opened, e)
			share, e := Share(a, b)
			emptyBesideError(t, "Share", share, e)
			made, e := Expand(a, b, i*j)
			emptyBesideError(t, "Expand", made, e)
			tryMachine(t, a+b, []Happening{{a, list}, {}, {b, nil}})
			tryMachine(t, "state s{on a if not b go s;}", []Happening{{"a", list}, {a, list[:i]}, {b, list}})
		}
	}
	for _, n := range oddNumbers() {
		made, e := Expand("key", "info", n)
		emptyBesideError(t, "Expand", made, e)
		tryConfig(t, Config{Role: n, Secret: some(32, 1), Random: some(32, 2)}, list)
	}
	for i, a := range list {
		b, c, d := list[(i+1)%len(list)], list[(i+2)%len(list)], list[(i+3)%len(list)]
		tryConfig(t, Config{Role: i % 2, Secret: a, Random: b, Name: c, Key: d, Must: i%3 == 0}, list)
		tryConfig(t, Config{Role: i % 2, Secret: some(32, 1), Random: some(32, 2), Name: a, Key: b, Must: i%3 == 0}, list)
	}
}

// tryConfig makes all calls of an end, if there is one.
func tryConfig(t *testing.T, c Config, list []string) {
	t.Helper()
	e, f := New(c)
	if (e == nil) != (f != OK) {
		t.Errorf("P1: New: an end %v beside error %d", e != nil, f)
	}
	if e != nil {
		tryEnd(t, e, list)
	}
}

func tryEnd(t *testing.T, e *End, list []string) {
	t.Helper()
	for i, text := range list {
		out, f := e.Greet()
		emptyBesideError(t, "Greet", out, f)
		out, f = e.Write(text)
		emptyBesideError(t, "Write", out, f)
		out, f = e.Renew(i%2 == 0)
		emptyBesideError(t, "Renew", out, f)
		e.Feed(text)
		e.State()
		e.Talk()
		e.Why()
	}
	out, f := e.Close()
	emptyBesideError(t, "Close", out, f)
}

// TestNoEndPanics feeds ends in each state, as their peers would, whatever there is, and behind it odd texts.
func TestNoEndPanics(t *testing.T) {
	list := oddTexts()
	for _, stands := range stands {
		for i, text := range list {
			for kind := range 5 {
				s := stands(t)
				s.end.Feed(s.says(kind, text[:min(len(text), 300)]))
				s.end.Feed(s.says(kind, framed(awaited(s.end.State()), text[:min(len(text), 100)])))
				tryEnd(t, s.end, list[i:])
			}
		}
	}
}

// TestEndsAnswerAlike: an end hangs on how it was made and on its calls; what was answered is nobody's to turn.
func TestEndsAnswerAlike(t *testing.T) {
	talk := func(turn bool) (said string) {
		p := newPair(t, config(0, true, 9), config(1, true, 9))
		for i := range 30 {
			to := (1 + i) % 2
			events, out := p.ends[to].Feed(p.way[to])
			said += p.way[to]
			for j := range events {
				said += events[j].Text
				if turn {
					events[j] = Event{Kind: 7, Text: "turned"}
				}
			}
			p.way = [2]string{}
			p.way[1-to] = out
			more, _ := p.ends[to].Write(some(10*i, i))
			p.way[1-to] += more
		}
		return said + p.ends[0].Talk() + p.ends[1].Talk()
	}
	if talk(false) != talk(true) {
		t.Error("P1: the same calls are answered otherwise")
	}
}

// tryMachine walks a text, if it is a machine, and holds what stands beside the error if it is none.
func tryMachine(t *testing.T, text string, list []Happening) {
	t.Helper()
	m, e, place := Compile(text)
	if (m == nil) != (e != OK) || e <= ErrLong && place != 0 || place < 0 || place > len(text) {
		t.Errorf("P1: Compile(%.50q): machine %v beside error %d, place %d", text, m != nil, e, place)
	}
	if m != nil && len(m.Walk(list)) != len(list) {
		t.Errorf("P4: Walk of %d things told of another number", len(list))
	}
}

func emptyBesideError(t *testing.T, what, answer string, e Errno) {
	t.Helper()
	if e != OK && answer != "" {
		t.Errorf("P1: %s: %d bytes beside error %d", what, len(answer), e)
	}
}

// TestErrorNamedFirst has calls at which both errors of a promise apply.
func TestErrorNamedFirst(t *testing.T) {
	got, e := Open(some(31, 1), some(12, 1), "", "no tag")
	refused(t, "P1: Open with a short key of a short text", got, e, ErrArg)
	got, e = Open(some(32, 1), some(11, 1), "", "no tag")
	refused(t, "P1: Open with a short nonce of a short text", got, e, ErrArg)
	got, e = Share(some(31, 1), strings.Repeat("\x00", 32))
	refused(t, "P1: Share of a short secret and zeros", got, e, ErrArg)
}

// everyAnswer joins what the calls answer of a seed.
func everyAnswer(seed int) string {
	key, nonce, text := some(32, seed), some(12, seed), some(seed*37, seed)
	made, _ := Expand(key, text, seed*50)
	sealed, _ := Seal(key, nonce, text, text)
	opened, _ := Open(key, nonce, text, sealed)
	share, _ := Share(key, some(32, seed+1))
	return Hash(text) + Mac(key, text) + made + sealed + opened + share + everyWord(seed)
}

// everyWord joins what two ends say to each other.
func everyWord(seed int) string {
	asking, _ := New(config(0, seed%2 == 0, seed))
	answering, _ := New(config(1, seed%2 == 0, seed))
	hello, _ := asking.Greet()
	_, reply := answering.Feed(hello)
	_, finish := asking.Feed(reply)
	answering.Feed(finish)
	data, _ := asking.Write("data")
	update, _ := asking.Renew(true)
	_, answer := answering.Feed(data + update)
	return hello + reply + finish + data + update + answer + asking.Talk() + answering.Talk()
}

func TestCallsShareNothing(t *testing.T) {
	const seeds = 20
	var want, got [seeds]string
	for i := range seeds {
		want[i] = everyAnswer(i)
	}
	var group sync.WaitGroup
	for i := range seeds {
		group.Go(func() { got[i] = everyAnswer(i) })
	}
	group.Wait()
	if got != want {
		t.Error("P1: calls side by side answer something else than one behind the other")
	}
}
