package json

import (
	"strings"

	"cooperage/api"
	"cooperage/quote"
)

// Print is a value's text, in one form.
func Print(v api.Value) (string, api.Errno) {
	if Check(v) != api.OK {
		return "", api.ErrArg
	}
	var p printer
	p.value(&v)
	if p.full {
		return "", api.ErrFull
	}
	return p.text.String(), api.OK
}

// printer writes a text until it would be too long.
type printer struct {
	text strings.Builder
	full bool
}

// value writes a valid value, by calls that are no deeper than such a one.
func (p *printer) value(v *api.Value) {
	if p.full { // ahead of the values in this one, which may be many
		return
	}
	switch v.Kind {
	case api.JNumber:
		p.write(v.Text)
	case api.JText:
		p.quoted(v.Text)
	case api.JList:
		p.list(v.List)
	case api.JObject:
		p.object(v.Fields)
	default:
		p.write(words[v.Kind])
	}
}

// list writes a list.
func (p *printer) list(list []api.Value) {
	p.write("[")
	for i := range list {
		if i > 0 {
			p.write(",")
		}
		p.value(&list[i])
	}
	p.write("]")
}

// object writes an object.
func (p *printer) object(fields []api.Field) {
	p.write("{")
	for i, field := range byName(fields) {
		if i > 0 {
			p.write(",")
		}
		p.quoted(field.Name)
		p.write(":")
		p.value(&field.Value)
	}
	p.write("}")
}

// quoted writes a text between quotes.
func (p *printer) quoted(s string) {
	text, err := quote.Quote(s)
	p.full = p.full || err != api.OK // of letters alone, it can only be too long
	p.write(text)
}

// write writes what still has room.
func (p *printer) write(s string) {
	p.full = p.full || p.text.Len()+len(s) > api.MaxText
	if !p.full {
		p.text.WriteString(s)
	}
}
