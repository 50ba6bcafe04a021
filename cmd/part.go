package cmd

import (
	"vedette/api"
	"vedette/fields"
	"vedette/num"
)

const (
	mostID      = 1000000 // of a thing
	mostSession = 1000000
	far         = 1000 // of a place in either direction: act says which are on the map
	none        = -1   // of a field, a cell, a server: commands may name those that there aren't
	mostNamed   = 100  // likewise
)

// part of a command, at its place there.
type part interface {
	is() bool
	told() string
	read(s string) (int, api.Errno) // takes what told tells from the beginning of s; tells how many bytes
	clear()
}

// number is a part from least to most.
type number struct {
	at          *int
	least, most int
}

func (n number) is() bool { return n.least <= *n.at && *n.at <= n.most }

func (n number) told() string { return num.Int(int64(*n.at)) }

func (n number) read(s string) (int, api.Errno) {
	v, size, e := num.Ints(s)
	// It is looked at ahead of its being cut to an int.
	if e == api.OK && (v < int64(n.least) || v > int64(n.most)) {
		e = api.ErrForm
	}
	if e != api.OK {
		return 0, e
	}
	*n.at = int(v)
	return size, api.OK
}

func (n number) clear() { *n.at = 0 }

// field is a part that a thing has too.
type field struct{ at *api.Field }

func (f field) is() bool { return fields.IsField(*f.at) }

func (f field) told() string { return num.Text(f.at.Text) + num.Int(f.at.N) }

func (f field) read(s string) (int, api.Errno) {
	text, size, e := num.Texts(s, api.MaxText)
	if e != api.OK {
		return 0, e
	}
	n, k, e := num.Ints(s[size:])
	if e != api.OK {
		return 0, e
	}
	v := api.Field{N: n, Text: text}
	if !fields.IsField(v) {
		return 0, api.ErrForm
	}
	*f.at = v
	return size + k, api.OK
}

func (f field) clear() { *f.at = api.Field{} }

// parts is all that a command of c's Kind has, in the order in which it is told.
func parts(c *api.Command) []part { return append(head(c), rest(c)...) }

// head is the parts that all commands have.
func head(c *api.Command) []part {
	return []part{
		number{&c.Kind, api.CPut, api.CQuit},
		number{&c.Client, 0, api.MaxClient - 1},
		number{&c.Session, 0, mostSession},
	}
}

// rest is the parts that commands of c's Kind have beside those.
func rest(c *api.Command) []part {
	id := number{&c.ID, 0, mostID}
	which := number{&c.Which, none, mostNamed}
	switch c.Kind {
	case api.CPut:
		return append(place(&c.At.X, &c.At.Y), record(&c.F)...)
	case api.CMove:
		return append(place(&c.At.X, &c.At.Y), id)
	case api.CSet:
		return []part{id, which, field{&c.Value}}
	case api.CDrop:
		return []part{id}
	case api.CHand:
		return []part{which, number{&c.To, none, mostNamed}}
	case api.CJoin, api.CTurn:
		return place(&c.Rect.X0, &c.Rect.Y0, &c.Rect.X1, &c.Rect.Y1)
	}
	return nil
}

// place is parts of a point or a rectangle, be it one that isn't on the map.
func place(at ...*int) []part {
	var l []part
	for _, n := range at {
		l = append(l, number{n, -far, far})
	}
	return l
}

// record is the fields of a thing that is to be.
func record(f *[api.Fields]api.Field) []part {
	var l []part
	for i := range f {
		l = append(l, field{&f[i]})
	}
	return l
}
