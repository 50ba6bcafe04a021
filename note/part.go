package note

import (
	"vedette/api"
	"vedette/cmd"
	"vedette/num"
	"vedette/thing"
)

// part of a note, at its place there.
type part interface {
	told() string
	take(s string) (int, api.Errno) // reads what told tells from the beginning of s; tells how many bytes
}

// parts is all that a note has, in the order in which it is told.
func parts(n *api.Note) []part {
	return []part{
		number{&n.From},
		number{&n.Beat},
		list[api.Thing]{&n.Moved, thing.Bytes, thing.Read},
		list[api.Hand]{&n.Hands, tellHand, readHand},
		list[api.Thing]{&n.Given, thing.Bytes, thing.Read},
		list[api.Command]{&n.Watch, cmd.Bytes, cmd.Read},
	}
}

// told is all of l as bytes.
func told(l []part) string {
	s := ""
	for _, p := range l {
		s += p.told()
	}
	return s
}

// taken reads all of l from the beginning of s, and tells how many bytes it takes.
func taken(l []part, s string) (int, api.Errno) {
	size, e := 0, api.OK
read:
	for _, p := range l {
		k := 0
		switch k, e = p.take(s[size:]); e {
		case api.OK:
			size += k
		default:
			break read
		}
	}
	if e != api.OK {
		return 0, e
	}
	return size, api.OK
}

// number is a part that is no less than 0 in a note.
type number struct{ at *int }

func (n number) told() string { return num.Put(uint64(*n.at)) }

func (n number) take(s string) (int, api.Errno) {
	v, size, e := num.Get(s)
	*n.at = int(v)
	return size, e
}

// list is a part of which there are many: how many, and each of them.
type list[T any] struct {
	at   *[]T
	tell func(x T) (string, api.Errno)
	read func(s string) (T, int, api.Errno)
}

func (l list[T]) told() string {
	s := num.Put(uint64(len(*l.at)))
	for _, x := range *l.at {
		one, _ := l.tell(x) // what a note has can be told
		s += one
	}
	return s
}

func (l list[T]) take(s string) (int, api.Errno) {
	many, size, e := num.Get(s)
	if e != api.OK {
		return 0, e
	}
	for range many {
		x, k, e := l.read(s[size:])
		if e != api.OK {
			return 0, e
		}
		*l.at = append(*l.at, x)
		size += k
	}
	return size, api.OK
}

func tellHand(h api.Hand) (string, api.Errno) { return told(members(&h)), api.OK }

func readHand(s string) (api.Hand, int, api.Errno) {
	var h api.Hand
	size, e := taken(members(&h), s)
	return h, size, e
}

// members is all that a hand has.
func members(h *api.Hand) []part { return []part{number{&h.Cell}, number{&h.To}} }
