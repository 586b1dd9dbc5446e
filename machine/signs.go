package machine

import "strings"

// A sign is a piece of text that the grammar knows: letters, or one of { } , ; and, with no text, the end.
type sign struct {
	at   int
	text string
}

// A stray is thrown at the place of what no machine can have there, a short at the end of a text of which only more could make one.
type (
	stray int
	short struct{}
)

// A reader stands ahead of one sign, which is known to be one.
type reader struct {
	text   string
	ahead  sign
	behind int
}

func begin(text string) *reader {
	r := &reader{text: text}
	r.advance()
	return r
}

// advance finds the next sign only when all signs ahead of it were right, so that whatever is thrown first stands first.
func (r *reader) advance() {
	at := r.behind
	for at < len(r.text) && isBlank(r.text[at]) {
		at++
	}
	end := at
	for end < len(r.text) && isLetter(r.text[end]) {
		end++
	}
	switch letters := end - at; {
	case letters > maxWord:
		panic(stray(at))
	case letters > 0 || at == len(r.text):
	case strings.IndexByte("{},;", r.text[at]) >= 0:
		end++
	default:
		panic(stray(at))
	}
	r.ahead, r.behind = sign{at, r.text[at:end]}, end
}

// take moves behind a sign that must be there, and answers it.
func (r *reader) take(right bool) sign {
	switch s := r.ahead; {
	case right:
		r.advance()
		return s
	case s.isEnd():
		panic(short{})
	default:
		panic(stray(s.at))
	}
}

func (r *reader) must(text string) sign { return r.take(r.ahead.text == text) }

func (r *reader) word() sign { return r.take(r.ahead.isWord()) }

// skip moves behind a sign that may be there, and tells whether it was.
func (r *reader) skip(text string) bool {
	if r.ahead.text != text {
		return false
	}
	r.advance()
	return true
}

func (s sign) isEnd() bool { return s.text == "" }

func (s sign) isWord() bool {
	switch s.text {
	case "state", "on", "if", "not", "go", "do", closedWord:
		return false
	}
	return !s.isEnd() && isLetter(s.text[0])
}

func isLetter(b byte) bool { return 'a' <= b && b <= 'z' }

func isBlank(b byte) bool { return b == ' ' || b == '\n' }
