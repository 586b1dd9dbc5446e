package parley

import (
	"strings"
	"testing"
	"unsafe"
)

func TestNewRefuses(t *testing.T) {
	for what, turn := range map[string]func(c *Config){
		"role 2":                     func(c *Config) { c.Role = 2 },
		"role -1":                    func(c *Config) { c.Role = -1 },
		"role 257":                   func(c *Config) { c.Role = 257 },
		"a secret of 31 bytes":       func(c *Config) { c.Secret = some(31, 1) },
		"a secret of 33 bytes":       func(c *Config) { c.Secret = some(33, 1) },
		"no secret":                  func(c *Config) { c.Secret = "" },
		"a random of 31 bytes":       func(c *Config) { c.Random = some(31, 1) },
		"a random of 33 bytes":       func(c *Config) { c.Random = some(33, 1) },
		"no random":                  func(c *Config) { c.Random = "" },
		"a name of 17 bytes":         func(c *Config) { c.Name = some(17, 1) },
		"a name of 256 bytes":        func(c *Config) { c.Name = some(256, 1) },
		"a key of 33 bytes":          func(c *Config) { c.Key = some(33, 1) },
		"a key without a name":       func(c *Config) { c.Name = "" },
		"a name without a key":       func(c *Config) { c.Key = "" },
		"neither where one must be":  func(c *Config) { c.Name, c.Key, c.Must = "", "", true },
		"no name where one must be":  func(c *Config) { c.Name, c.Must = "", true },
		"no key where one must be":   func(c *Config) { c.Key, c.Must = "", true },
		"more than one thing at all": func(c *Config) { *c = Config{Role: 7, Must: true} },
	} {
		for role := range 2 {
			c := config(role, true, 1)
			turn(&c)
			if e, f := New(c); e != nil || f != ErrArg {
				t.Errorf("P5: %s: %v, error %d", what, e != nil, f)
			}
		}
	}
}

func TestNewTakes(t *testing.T) {
	for what, turn := range map[string]func(c *Config){
		"neither name nor key":       func(c *Config) { c.Name, c.Key = "", "" },
		"a name and a key":           func(c *Config) {},
		"a key that must be used":    func(c *Config) { c.Must = true },
		"the longest name and key":   func(c *Config) { c.Name, c.Key = some(16, 1), some(32, 1) },
		"the shortest name and key":  func(c *Config) { c.Name, c.Key = "\x00", "\x00" },
		"a secret and random of 255": func(c *Config) { c.Secret, c.Random = strings.Repeat("\xff", 32), strings.Repeat("\xff", 32) },
		"a secret and random of 0":   func(c *Config) { c.Secret, c.Random = zeros(32), zeros(32) },
	} {
		for role, state := range []string{"start", "hello"} {
			c := config(role, true, 1)
			turn(&c)
			e, f := New(c)
			if e == nil || f != OK {
				t.Errorf("P5: %s: %v, error %d", what, e != nil, f)
			} else if e.State() != state || e.Talk() != "" || e.Why() != nil {
				t.Errorf("P5: %s: a new end: %s, %q, %v", what, e.State(), e.Talk(), e.Why())
			}
		}
	}
}

// TestMachinesOfEnds: what New leans on without looking.
func TestMachinesOfEnds(t *testing.T) {
	for _, text := range []string{asking, answering} {
		m, e, place := Compile(text)
		if e != OK {
			t.Fatalf("P5: error %d at %d of an end's machine", e, place)
		}
		list := []Happening{{"greet", nil}, {"hello", nil}, {"reply", nil}, {"finish", nil}, {"data", nil}, {"write", nil}, {"renew", nil}, {"update", nil}, {"update", []string{"too"}}, {"end", nil}}
		for i := range list {
			for j := range list {
				for k := range list {
					for _, taken := range m.Walk([]Happening{list[i], list[j], list[k], list[i], list[j]}) {
						for _, action := range taken.Actions {
							if deed(action) == nil {
								t.Fatalf("P10: nothing is done by %s", action)
							}
						}
					}
				}
			}
		}
	}
}

// TestConfigIsNotKept looks where the texts of an end lie: not in those that were handed in.
func TestConfigIsNotKept(t *testing.T) {
	c := config(0, true, 1)
	c.Name = strings.Clone("a name")
	e := made(t, c)
	if unsafe.StringData(e.own.name) == unsafe.StringData(c.Name) || unsafe.StringData(e.own.random) == unsafe.StringData(c.Random) {
		t.Error("P1: what was handed in is kept")
	}
}
