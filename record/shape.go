package record

import (
	"cooperage/api"
	"cooperage/digits"
	"cooperage/json"
)

// shape is how things of a type are written as values, and read from them. A value that was not written so is read as whatever may come of it: take sees to it that such a thing does not get out.
type shape[T any] struct {
	write func(thing T) api.Value
	read  func(value api.Value) T
}

// field is how a part of a thing is written as a field, and read from it.
type field[T any] struct {
	name  string
	write func(thing *T) api.Value
	read  func(thing *T, value api.Value)
}

// at is the field of a name, for the part of a thing that is at a place in it.
func at[T, P any](name string, place func(thing *T) *P, of shape[P]) field[T] {
	return field[T]{
		name:  name,
		write: func(thing *T) api.Value { return of.write(*place(thing)) },
		read:  func(thing *T, value api.Value) { *place(thing) = of.read(value) },
	}
}

// objects are things of which each part is a field.
func objects[T any](fields ...field[T]) shape[T] {
	return shape[T]{
		write: func(thing T) api.Value {
			object := api.Value{Kind: api.JObject}
			for _, f := range fields {
				object.Fields = append(object.Fields, api.Field{Name: f.name, Value: f.write(&thing)})
			}
			return object
		},
		read: func(value api.Value) T {
			var thing T
			for _, f := range fields {
				inner, _ := json.Get(value, f.name)
				f.read(&thing, inner)
			}
			return thing
		},
	}
}

// boxed are things that are the only field of an object.
func boxed[T any](name string, of shape[T]) shape[T] {
	return objects(at(name, func(thing *T) *T { return thing }, of))
}

// lists are lists of things.
func lists[T any](of shape[T]) shape[[]T] {
	return shape[[]T]{
		write: func(l []T) api.Value {
			list := api.Value{Kind: api.JList}
			for _, thing := range l {
				list.List = append(list.List, of.write(thing))
			}
			return list
		},
		read: func(value api.Value) []T {
			var l []T
			for _, inner := range value.List {
				l = append(l, of.read(inner))
			}
			return l
		},
	}
}

// texts are strings of letters.
func texts() shape[string] {
	return shape[string]{
		write: func(s string) api.Value { return api.Value{Kind: api.JText, Text: s} },
		read:  func(value api.Value) string { return value.Text },
	}
}

// hexes are bytes of any kind, which need not be those of letters.
func hexes() shape[string] {
	return shape[string]{
		write: func(s string) api.Value { return api.Value{Kind: api.JText, Text: digits.Hex(s)} },
		read: func(value api.Value) string {
			s, _ := digits.Unhex(value.Text)
			return s
		},
	}
}

// numbers are whole numbers.
func numbers() shape[int] {
	return shape[int]{
		write: func(n int) api.Value { return api.Value{Kind: api.JNumber, Text: digits.Dec(n)} },
		read: func(value api.Value) int {
			n, _ := digits.Num(value.Text)
			return n
		},
	}
}

// truths are true or false.
func truths() shape[bool] {
	return shape[bool]{
		write: func(b bool) api.Value {
			if b {
				return api.Value{Kind: api.JTrue}
			}
			return api.Value{Kind: api.JFalse}
		},
		read: func(value api.Value) bool { return value.Kind == api.JTrue },
	}
}
