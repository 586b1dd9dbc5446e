package parley

import (
	"errors"
	"strings"

	"parley/keys"
	"parley/reckon"
)

const (
	maxPlain  = 300
	maxRecord = 340
	minSealed = 1 + reckon.TagSize // a type at the least
	headSize  = 3
)

// What records there are.
const (
	plainRecord = 1 + iota
	sealedRecord
	alertRecord
)

// What is in a record. In a plain one it is what its kind says: the two that may be plain have the same numbers there.
const (
	someMessages = 1 + iota
	someData
	anAlert
)

// short is told where more bytes must come; nothing is wrong by it.
var short = errors.New("parley: more bytes must come")

// A content is what a record brings.
type content struct {
	kind int
	text string
}

// A frame holds the bytes of one record or message till it is whole: the kind, the length in two bytes, and so many bytes.
type frame struct{ held []byte }

// fill takes bytes away from text till the frame holds n, and tells whether it does.
func (f *frame) fill(n int, text *string) bool {
	taken := min(max(n-len(f.held), 0), len(*text))
	f.held = append(f.held, (*text)[:taken]...)
	*text = (*text)[taken:]
	return len(f.held) >= n
}

func (f *frame) kind() int { return int(f.held[0]) }

func (f *frame) length() int { return int(f.held[1])<<8 | int(f.held[2]) }

// empty answers what the frame holds, and has it begin again.
func (f *frame) empty() string {
	bytes := string(f.held)
	f.held = f.held[:0]
	return bytes
}

// records reads records, and the messages in them.
type records struct {
	messages
	record frame
	line   keys.Line
}

// nextRecord takes bytes away from text till a record is whole, and answers what is in it; short, if there are not enough.
func (r *records) nextRecord(text *string) (content, error) {
	if !r.record.fill(1, text) {
		return content{}, short
	}
	kind := r.record.kind()
	if kind < plainRecord || kind > alertRecord {
		return content{}, fault{codeUnexpected, "a record of no kind"}
	}
	if !r.record.fill(headSize, text) {
		return content{}, short
	}
	length := r.record.length()
	if err := checkLength(kind, length); err != nil {
		return content{}, err
	}
	if !r.record.fill(headSize+length, text) {
		return content{}, short
	}
	return r.unwrap(kind, r.record.empty())
}

// checkLength has an alert, which asks for one byte alone, go on as other plain bytes do.
func checkLength(kind, length int) error {
	least, most := minSealed, maxRecord
	switch kind {
	case alertRecord:
		if length > 1 {
			return fault{codeGreat, "an alert that is too long"}
		}
		fallthrough
	case plainRecord:
		least, most = 1, maxPlain
		fallthrough
	default:
		if length > most {
			return fault{codeGreat, "a record that is too long"}
		}
		if length < least {
			return fault{codeForm, "a record that is too short"}
		}
	}
	return nil
}

// unwrap answers what is in a whole record.
func (r *records) unwrap(kind int, bytes string) (content, error) {
	head, payload := bytes[:headSize], bytes[headSize:]
	if sealed := kind == sealedRecord; sealed != r.line.Laid() {
		return content{}, fault{codeUnexpected, "a record that is plain behind the keys, or sealed ahead of them"}
	}
	if kind != sealedRecord {
		return content{kind, payload}, nil
	}
	inner, opened := r.line.Open(head, payload)
	if !opened {
		return content{}, fault{codeUnopened, "a record that cannot be opened"}
	}
	return unpad(inner)
}

// unpad answers the content of what was sealed: behind it stands its type, and zeros.
func unpad(inner string) (content, error) {
	inner = strings.TrimRight(inner, "\x00")
	if inner == "" {
		return content{}, fault{codeUnexpected, "a sealed record without a type"}
	}
	last := len(inner) - 1
	c := content{int(inner[last]), inner[:last]}
	return c, c.check()
}

// check goes from the types that ask more of their content to those that ask less.
func (c content) check() error {
	if len(c.text) > maxPlain {
		return fault{codeGreat, "a sealed record with too much in it"}
	}
	switch c.kind {
	case anAlert:
		if len(c.text) > 1 {
			return fault{codeForm, "a sealed alert of more than one byte"}
		}
		fallthrough
	case someMessages:
		if len(c.text) == 0 {
			return fault{codeForm, "a sealed record with nothing in it"}
		}
		fallthrough
	case someData:
		return nil
	}
	return fault{codeUnexpected, "a sealed record of no type"}
}

func (r *records) clear() {
	r.line.Clear()
	r.record, r.messages = frame{}, messages{}
}

// newRecord answers a record with a content in it, sealed by a line if that has a secret.
func newRecord(line *keys.Line, c content) string {
	if !line.Laid() {
		return reckon.One(c.kind) + reckon.Two(len(c.text)) + c.text
	}
	head := reckon.One(sealedRecord) + reckon.Two(len(c.text)+minSealed)
	return head + line.Seal(head, c.text+reckon.One(c.kind))
}
