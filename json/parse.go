package json

import (
	"strings"

	"cooperage/api"
	"cooperage/quote"
)

const (
	blanks      = " \t\n\r"
	figures     = "0123456789"
	numberBytes = figures + "+-.eE"
)

// Parse is the value of a text.
func Parse(s string) (api.Value, api.Errno) {
	if len(s) > api.MaxText {
		return api.Value{}, api.ErrFull
	}
	p := parser{rest: s}
	value, ok := p.whole()
	if !ok {
		return api.Value{}, api.ErrBad
	}
	twice := false
	depth := walk(&value, func(v *api.Value) { twice = twice || hasTwins(v.Fields) })
	if depth > api.MaxDepth {
		return api.Value{}, api.ErrFull
	}
	if twice {
		return api.Value{}, api.ErrTwice
	}
	return value, api.OK
}

// parser reads a text. Between its steps there is no blank ahead of the rest.
type parser struct {
	rest  string
	stack []unfinished // each one is in the one ahead of it
}

// unfinished is a list or an object of which not all was read.
type unfinished struct {
	value api.Value
	end   byte   // the mark that closes it
	name  string // of an object: of the field whose value is read
}

// whole reads the value of which the text consists.
func (p *parser) whole() (api.Value, bool) {
	p.skip(0)
	for {
		value, ok := p.begin()
		for ok && value.Kind != 0 {
			if len(p.stack) == 0 {
				return value, p.rest == ""
			}
			value, ok = p.put(value)
		}
		if !ok {
			return api.Value{}, false
		}
	}
}

// begin reads a value up to the first one in it, if there is one: what is not finished waits on the stack, and the answer is the zero Value.
func (p *parser) begin() (api.Value, bool) {
	if p.take('[') {
		return p.open(api.JList, ']')
	}
	if p.take('{') {
		return p.open(api.JObject, '}')
	}
	return p.single()
}

// open reads what follows the opening mark of a list or an object, and answers as begin does.
func (p *parser) open(kind int, end byte) (api.Value, bool) {
	value := api.Value{Kind: kind}
	if p.take(end) {
		return value, true
	}
	p.stack = append(p.stack, unfinished{value: value, end: end})
	return api.Value{}, p.takeName()
}

// put places a value in the innermost unfinished one, and reads what is behind it there: the answer is the latter if it has ended now, and the zero Value if another one has to follow.
func (p *parser) put(value api.Value) (api.Value, bool) {
	last := len(p.stack) - 1
	inner := &p.stack[last]
	if inner.value.Kind == api.JObject {
		inner.value.Fields = append(inner.value.Fields, api.Field{Name: inner.name, Value: value})
	} else {
		inner.value.List = append(inner.value.List, value)
	}
	if p.take(inner.end) {
		ended := inner.value
		p.stack = p.stack[:last]
		return ended, true
	}
	return api.Value{}, p.take(',') && p.takeName()
}

// takeName reads the name and the colon ahead of the next value, where the innermost unfinished one is an object.
func (p *parser) takeName() bool {
	inner := &p.stack[len(p.stack)-1]
	if inner.value.Kind != api.JObject {
		return true
	}
	name, ok := p.takeQuoted()
	inner.name = name
	return ok && p.take(':')
}

// single reads a word, a string or a number. What may follow it is not its concern: nothing that can stand behind one begins with a byte that could stand in it.
func (p *parser) single() (api.Value, bool) {
	for kind := api.JNull; kind <= api.JTrue; kind++ {
		if strings.HasPrefix(p.rest, words[kind]) {
			p.skip(len(words[kind]))
			return api.Value{Kind: kind}, true
		}
	}
	if strings.HasPrefix(p.rest, `"`) {
		text, ok := p.takeQuoted()
		return api.Value{Kind: api.JText, Text: text}, ok
	}
	size := len(p.rest) - len(strings.TrimLeft(p.rest, numberBytes))
	number := p.rest[:size]
	p.skip(size)
	return api.Value{Kind: api.JNumber, Text: number}, isNumber(number)
}

// takeQuoted reads a quoted string.
func (p *parser) takeQuoted() (string, bool) {
	text, size, err := quote.Unquote(p.rest)
	p.skip(size)
	return text, err == api.OK
}

// take reads a mark, if it is what comes next.
func (p *parser) take(mark byte) bool {
	if p.rest == "" || p.rest[0] != mark {
		return false
	}
	p.skip(1)
	return true
}

// skip leaves bytes behind, and the blanks that follow them.
func (p *parser) skip(size int) { p.rest = strings.TrimLeft(p.rest[size:], blanks) }

// isNumber tells whether a text is that of a number.
func isNumber(s string) bool {
	whole, rest := cutFigures(strings.TrimPrefix(s, "-"))
	if whole == "" || len(whole) > 1 && whole[0] == '0' {
		return false
	}
	if behind, found := strings.CutPrefix(rest, "."); found {
		fraction := ""
		fraction, rest = cutFigures(behind)
		if fraction == "" {
			return false
		}
	}
	return rest == "" || isExponent(rest)
}

// isExponent tells whether a text may be the end of a number's, from its e on.
func isExponent(s string) bool {
	if s[0] != 'e' && s[0] != 'E' {
		return false
	}
	s = s[1:]
	if strings.HasPrefix(s, "+") || strings.HasPrefix(s, "-") {
		s = s[1:]
	}
	power, rest := cutFigures(s)
	return power != "" && rest == ""
}

// cutFigures are the decimal digits with which a text begins, and the rest.
func cutFigures(s string) (string, string) {
	rest := strings.TrimLeft(s, figures)
	return s[:len(s)-len(rest)], rest
}
