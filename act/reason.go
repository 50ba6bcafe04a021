package act

import (
	"vedette/api"
	"vedette/cells"
	"vedette/geom"
	"vedette/table"
)

// kind is what may stand against the commands of a Kind, in the order in which it is told.
type kind struct {
	of      int
	reasons []reason
}

// reason is why a command can't be done: its error, and whether it is so.
type reason struct {
	e     api.Errno
	holds func(t *table.Table, c api.Command) bool
}

// kinds is all Kinds that are about things.
func kinds() []kind {
	noThing := reason{api.ErrID, lacks}
	noPlace := reason{api.ErrPlace, beyond}
	noField := reason{api.ErrField, fieldless}
	return []kind{
		{api.CPut, []reason{noPlace, {api.ErrFull, full}, {api.ErrFull, crowded}}},
		{api.CMove, []reason{noThing, noPlace, {api.ErrFull, intoCrowd}}},
		{api.CSet, []reason{noThing, noField}},
		{api.CDrop, []reason{noThing}},
	}
}

// lacks tells whether no thing has c's ID.
func lacks(t *table.Table, c api.Command) bool {
	_, ok := t.Get(c.ID)
	return !ok
}

// beyond tells whether c's At isn't on the map.
func beyond(_ *table.Table, c api.Command) bool { return !geom.On(c.At) }

// fieldless tells whether c's Which is no field.
func fieldless(_ *table.Table, c api.Command) bool {
	return c.Which < 0 || c.Which >= api.Fields
}

// full tells whether t takes no more things.
func full(t *table.Table, _ api.Command) bool { return t.Len() >= api.MaxThings }

// crowded tells whether no command may put more into At's cell: there may be more in it than they put there.
func crowded(t *table.Table, c api.Command) bool {
	to, _ := cells.Of(c.At)
	return len(t.Cell(to)) >= api.MaxCell
}

// intoCrowd tells whether c's thing would come into a crowded cell from another one.
func intoCrowd(t *table.Table, c api.Command) bool {
	x, _ := t.Get(c.ID)
	from, _ := cells.Of(x.At)
	to, _ := cells.Of(c.At)
	return from != to && crowded(t, c)
}
