package parley

import (
	"fmt"
	"regexp"
	"slices"
	"strings"
	"testing"
)

// compiled holds what Compile answers against an error and a place; beside OK it answers the machine.
func compiled(t *testing.T, text string, want Errno, place int) *Machine {
	t.Helper()
	m, e, at := Compile(text)
	if e != want || at != place || (m != nil) != (want == OK) {
		t.Errorf("P3: Compile(%.320q) = %v, %d, %d; want %d, %d", text, m != nil, e, at, want, place)
	}
	return m
}

// compiledAt has the wanted place marked in the text by a ^, which is taken out.
func compiledAt(t *testing.T, marked string, want Errno) {
	t.Helper()
	compiled(t, strings.Replace(marked, "^", "", 1), want, strings.Index(marked, "^"))
}

func TestMachines(t *testing.T) {
	for _, text := range []string{
		"state s{}",
		"state a{on b go c;}state c{}",
		"state a{on a if a go a do a;}",
		"\n\n state\ns\n{\non a\nif not b , c\ngo\ns do\nd\n, e ; }\n ",
		"state s{on a if not b,not c,d go closed do e,e,e;}",
		"state s{on a go t;on b go u;}state t{on a go t;}state u{on a go closed;}",
		"state s{on a go t;}state t{on a go u;}state u{on a go v;}state v{}",
		"state s{on a go v;}state t{}state u{on a go t;}state v{on a go u;}",
		"state s{on alert go s do alert;}",
		"state states{on ons if ifs,not nots go closedd do dos,gos;on o go stat;}state closedd{}state stat{}",
		"state s{on a if b go s;on a if not b go s;on a if c go s;on a if not c go s;}",
		"state s{on a if b go s;on a go s;on b go s;}",
		"state s{on a if b,c go s;on a if b go s;on a if c go s;on a go s;}",
		"state s{on a go t;}state t{on a go s;}",
	} {
		compiled(t, text, OK, 0)
	}
}

func TestMachineTooLong(t *testing.T) {
	const whole = "state s{}"
	blanks := func(n int) string { return strings.Repeat(" ", n) }
	compiled(t, whole+blanks(300-len(whole)), OK, 0)
	compiled(t, blanks(300-len(whole))+whole, OK, 0)
	compiled(t, whole+blanks(301-len(whole)), ErrLong, 0)
	compiled(t, blanks(300), ErrText, 300)
	compiled(t, blanks(301), ErrLong, 0)
	compiled(t, strings.Repeat("\x00", 300), ErrText, 0)
	compiled(t, strings.Repeat("\x00", 301), ErrLong, 0)
	compiled(t, strings.Repeat("state s{}", 1000000), ErrLong, 0)
}

// wordPlaces has a ? where a word is asked for; where a goal may stand beside it, `closed` may, too.
func wordPlaces() []string {
	return []string{
		"state ?{}",
		"state s{on ? go s;}",
		"state s{on a if ? go s;}",
		"state s{on a if not ? go s;}",
		"state s{on a if b,? go s;}",
		"state s{on a go ?;}",
		"state s{on a go s do ?;}",
		"state s{on a go s do b,?;}",
	}
}

func TestWords(t *testing.T) {
	for _, form := range wordPlaces() {
		place := strings.Index(form, "?")
		put := func(word string) string { return strings.Replace(form, "?", word, 1) }
		isGoal := strings.Contains(form, "go ?")
		for _, word := range []string{"z", "eightlet", "zzzzzzzz", "aa"} {
			if isGoal {
				compiled(t, put(word), ErrGoal, place)
			} else {
				compiled(t, put(word), OK, 0)
			}
		}
		for _, word := range []string{"ninelette", "zzzzzzzzz", "closedown", strings.Repeat("z", 100), "S", "1", "_", "é", "\xff", "\x00", "{", "}", ",", ";", "\t", "\r", "state", "on", "if", "go", "do"} {
			compiled(t, put(word), ErrText, place)
		}
		if isGoal {
			compiled(t, put("closed"), OK, 0)
		} else {
			compiled(t, put("closed"), ErrText, place)
		}
	}
}

func TestLettersAtTheEdges(t *testing.T) {
	compiled(t, "state az{}", OK, 0)
	compiledAt(t, "state a^`{}", ErrText)
	compiledAt(t, "state z^|{}", ErrText)
	compiledAt(t, "state ^Z{}", ErrText)
}

func TestNoMachine(t *testing.T) {
	for _, marked := range []string{
		"^", " ^", "\n \n^", "state^", "state ^", "state s^", "state s{^", "state s {} state^",
		"state s{on a go s;^", "state s{on a if not^", "state s{on a if b,^", "state s{on a go s do b , ^",
		"^stat s{}", "^states{}", "^{}", "^on a go s;", "^closed", "state ^{}", "state s^}", "state s^;", "state s ^t{}",
		"state s{}^x", "state s{}^}", "state s{} ^on a go s;", "state s{}^;", "state s{}^,",
		"state s{^{}}", "state s{^a}", "state s{^;}", "state s{^if}", "state s{on a go s;^;}", "state s{on a go s; ^state t{}}",
		"state s{on a^}", "state s{on a^;}", "state s{on a ^do b;}", "state s{on a^,b go s;}", "state s{on a ^not b go s;}",
		"state s{on a if b ^not c go s;}", "state s{on a if b ^c go s;}", "state s{on a if b ^if c go s;}", "state s{on a if b^;}", "state s{on a if b ^do c;}", "state s{on a if not ^not b go s;}",
		"state s{on a go s^}", "state s{on a go s^,t;}", "state s{on a go s ^go s;}", "state s{on a go s ^if b;}", "state s{on a go ^not s;}",
		"state s{on a go s do b ^c;}", "state s{on a go s do b,^;}", "state s{on a go s do b^}", "state s{on a go s do ^not b;}", "state s{on a go s do ^closed;}", "state s{on a go s do b ^do c;}",
		"state s^[]", "state s{}^\t", "^\tstate s{}", "state s{}^\r\n", "state s{}^\x00", "state s{}^\xc2\xa0", "state s{}^/", "state^1{}", "state s^S{}",
	} {
		compiledAt(t, marked, ErrText)
	}
}

func TestWrongSignAheadOfWrongByte(t *testing.T) {
	compiledAt(t, "state s{on ^go\x00", ErrText)
	compiledAt(t, "state s{on a ^b !", ErrText)
	compiledAt(t, "state s{on a ^! b b", ErrText)
	compiledAt(t, "state s{on ^ninelette ninelette", ErrText)
	compiledAt(t, "state s{on a ^on ninelette", ErrText)
	compiledAt(t, "state s ^ninelette {", ErrText)
}

// states makes n states of one letter each, in a ring.
func states(n int) string {
	text := ""
	for i := range n {
		text += fmt.Sprintf("state %c{on x go %c;}", 'a'+i, 'a'+(i+1)%n)
	}
	return text
}

// rules makes n rules of one event each.
func rules(n int, goal string) string {
	text := ""
	for i := range n {
		text += fmt.Sprintf("on %c go %s;", 'a'+i, goal)
	}
	return text
}

func TestTooMany(t *testing.T) {
	compiled(t, states(8), OK, 0)
	compiled(t, states(9), ErrMany, 8*len("state a{on x go b;}"))
	compiled(t, states(10), ErrMany, 8*len("state a{on x go b;}"))
	compiled(t, "state s{"+rules(24, "s")+"}", OK, 0)
	compiledAt(t, "state s{"+rules(24, "s")+"^on y go s;}", ErrMany)
	compiledAt(t, "state s{"+rules(24, "s")+"^on y go s;on z go s;}", ErrMany)
	compiledAt(t, "state s{"+rules(20, "t")+"}state t{on a go s;on b go s;on c go s;on d go s;^on e go s;}", ErrMany)
	compiled(t, "state s{"+rules(20, "t")+"}state t{on a go s;on b go s;on c go s;on d go s;}", OK, 0)
	compiledAt(t, "state s{"+rules(24, "t")+"}state t{^on a go s;}", ErrMany)
	compiled(t, "state s{}"+"state t{}state u{}state v{}state w{}state x{}state y{}state z{}", ErrLost, len("state s{}state "))
	compiledAt(t, "state s{}state s{}state s{}state s{}state s{}state s{}state s{}state s{} ^state s{on a go b;}", ErrMany)
	compiledAt(t, "state s{}state s{}state s{}state s{}state s{}state s{}state s{}state s{} state ^{}", ErrText)
}

func TestTwice(t *testing.T) {
	for _, marked := range []string{
		"state s{}state ^s{}",
		"state s{}state t{}state ^t{}state s{}",
		"state s{}state t{}state u{}state ^s{}",
		"state s{on a if b,^b go s;}",
		"state s{on a if b,not ^b go s;}",
		"state s{on a if not b,^b go s;}",
		"state s{on a if not b,not ^b go s;}",
		"state s{on a if b,c,d,^c,b go s;}",
		"state s{on a if b go s;on a if b,c,^b go s;}",
		"state s{on a if b,^b go x;}state s{}",
		"state s{}state ^s{on a if b,b go s;}",
	} {
		compiledAt(t, marked, ErrTwice)
	}
	compiled(t, "state s{on s if s go s do s,s;on t if s go s;}", OK, 0)
	compiled(t, "state s{on a if b,bb go s do b;on c if b go s;}", OK, 0)
}

func TestNoGoal(t *testing.T) {
	for _, marked := range []string{
		"state s{on a go ^t;}",
		"state s{on a go s;on b go ^a;on c go d;}",
		"state s{on a go closed;on b go ^ss;}",
		"state s{on a go t;}state t{on a go ^u;}",
	} {
		compiledAt(t, marked, ErrGoal)
	}
	compiled(t, "state s{on a go t;}state t{}", OK, 0)
}

func TestNever(t *testing.T) {
	for _, marked := range []string{
		"state s{on a go s;^on a go s;}",
		"state s{on a go s; on b go s; ^on a if c go closed;on b go s;}",
		"state s{on a if b go s;^on a if b go closed do c;}",
		"state s{on a if b go s;^on a if c,b go s;}",
		"state s{on a if not b go s;on a if b go s;^on a if c,not b go s;}",
		"state s{on a if b,not c go s;on a if b go s;^on a if d,not c,b go s;}",
		"state s{on a go t;}state t{on a if b go s;on b go s;^on a if b go s;}",
	} {
		compiledAt(t, marked, ErrNever)
	}
	compiled(t, "state s{on a go t;}state t{on a go s;}", OK, 0)
}

// guardRows are all guards over three words: each there, there with not, or not there.
func guardRows() [][]string {
	rows := [][]string{nil}
	for _, word := range []string{"x", "y", "z"} {
		for _, row := range slices.Clone(rows) {
			rows = append(rows, append(slices.Clone(row), word), append(slices.Clone(row), "not "+word))
		}
	}
	return rows
}

// wordSets are all lists that the three words make.
func wordSets() [][]string {
	sets := [][]string{nil}
	for _, word := range []string{"x", "y", "z"} {
		for _, set := range slices.Clone(sets) {
			sets = append(sets, append(slices.Clone(set), word))
		}
	}
	return sets
}

func allHold(guards, words []string) bool {
	for _, g := range guards {
		word, not := strings.CutPrefix(g, "not ")
		if slices.Contains(words, word) == not {
			return false
		}
	}
	return true
}

func ifText(guards []string) string {
	if len(guards) == 0 {
		return ""
	}
	return "if " + strings.Join(guards, ",")
}

// TestNeverMeansNever: a rule is never taken by reason of one ahead of it, if and only if that one is taken at all at which it is.
func TestNeverMeansNever(t *testing.T) {
	for _, a := range guardRows() {
		for _, b := range guardRows() {
			never := true
			for _, words := range wordSets() {
				never = never && (!allHold(b, words) || allHold(a, words))
			}
			ahead := "state s{on e " + ifText(a) + " go s;"
			text := ahead + "on e " + ifText(b) + " go closed;}"
			if never {
				compiled(t, text, ErrNever, len(ahead))
			} else {
				compiled(t, text, OK, 0)
			}
		}
	}
}

func TestLost(t *testing.T) {
	for _, marked := range []string{
		"state s{}state ^t{}",
		"state s{}state ^t{}state u{}",
		"state s{on a go closed;}state ^t{on a go s;}",
		"state s{on a go t;}state t{on a go s;}state ^u{on a go u;}",
		"state s{on a go u;}state ^t{}state u{}",
		"state s{}state ^t{on a go u;}state u{on a go t;}",
	} {
		compiledAt(t, marked, ErrLost)
	}
}

// TestLostMeansLost goes through all ways in which goals may lead among three states.
func TestLostMeansLost(t *testing.T) {
	const names = "stu"
	for ways := range 1 << 9 {
		leads := func(from, to int) bool { return ways>>(3*from+to)&1 == 1 }
		text, want, place := "", OK, 0
		for i := range 3 {
			reached := i == 0 || leads(0, i) || leads(0, 3-i) && leads(3-i, i)
			if !reached && want == OK {
				want, place = ErrLost, len(text)+len("state ")
			}
			text += "state " + names[i:i+1] + "{on q go closed;"
			for j := range 3 {
				if leads(i, j) {
					text += fmt.Sprintf("on %c go %c;", 'a'+j, names[j])
				}
			}
			text += "}"
		}
		compiled(t, text, want, place)
	}
}

func TestFlawNamedFirst(t *testing.T) {
	for _, c := range []struct {
		marked string
		want   Errno
	}{
		{"state s{on a go s;on a if b,b go u;}state s{}state t{} ^x", ErrText},
		{"state s{}state s{}state a{}state b{}state c{}state d{}state e{}state f{}^state g{}", ErrMany},
		{"state s{on a go u;on a go s;on b if c,^c go s;}state t{}", ErrTwice},
		{"state s{on a go s;on a go s;}state t{on a go ^u;}", ErrGoal},
		{"state s{on b go s;}state t{on a go s;^on a go s;}", ErrNever},
		{"state s{on b go s;}state ^t{on a go s;}", ErrLost},
	} {
		compiledAt(t, c.marked, c.want)
	}
}

// signClass names each sign by one letter: the language's own words by their first (big), other words by w.
func signClass(sign string) byte {
	if strings.Contains("{},;", sign) {
		return sign[0]
	}
	if slices.Contains([]string{"state", "on", "if", "not", "go", "do", "closed"}, sign) {
		return sign[0] - 'a' + 'A'
	}
	return 'w'
}

var pieces = regexp.MustCompile(`[a-z]+|[^ \n]`)

// grammarPlace reads by a list of moves, in another way than the program does: the place at which a text stops being a machine, or -1.
func grammarPlace(text string) int {
	// from, by which sign, to: 0 ahead of a state, 3 among rules, z behind a state
	moves := "0S1 1w2 2{3 3Oa 3}z aw4 4I5 4G8 5N6 5w7 6w7 7,5 7G8 8w9 8C9 9Db 9;3 bwc c,b c;3 zS1"
	at := byte('0')
	for _, span := range pieces.FindAllStringIndex(text, -1) {
		sign := text[span[0]:span[1]]
		if len(sign) > 8 || !regexp.MustCompile(`^([a-z]+|[{},;])$`).MatchString(sign) {
			return span[0]
		}
		i := strings.Index(" "+moves, " "+string([]byte{at, signClass(sign)}))
		if i < 0 {
			return span[0]
		}
		at = moves[i+2]
	}
	if at != 'z' {
		return len(text)
	}
	return -1
}

// TestGrammarAtEveryByte cuts, drops, turns and doubles every byte of a machine.
func TestGrammarAtEveryByte(t *testing.T) {
	const whole = "state s{on a if not b,c go t do d,e;on eightlet go closed;}\nstate t{}"
	check := func(text string) {
		_, e, at := Compile(text)
		want := grammarPlace(text)
		if (e == ErrText) != (want >= 0) || e == ErrText && at != want {
			t.Errorf("P3: Compile(%q) = %d, %d; the grammar breaks at %d", text, e, at, want)
		}
	}
	for i := range len(whole) + 1 {
		check(whole[:i])
		check(whole[i:])
		for _, put := range []string{" ", "x", "{", "}", ",", ";", " not ", " on ", " state ", " if ", " go ", " do ", " closed ", "\t", "\x80"} {
			check(whole[:i] + put + whole[i:])
			if i < len(whole) {
				check(whole[:i] + put + whole[i+1:])
			}
		}
		for j := range i {
			check(whole[:j] + whole[i:])
			check(whole[:i] + whole[j:])
		}
	}
}
