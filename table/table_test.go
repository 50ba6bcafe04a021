package table_test

import (
	"cmp"
	"math"
	"math/rand"
	"slices"
	"strings"
	"testing"

	"vedette/api"
	"vedette/table"
)

func at(x, y int) api.Point { return api.Point{X: x, Y: y} }

func box(x0, y0, x1, y1 int) api.Rect { return api.Rect{X0: x0, Y0: y0, X1: x1, Y1: y1} }

// whole: the map.
func whole() api.Rect { return box(0, 0, 64, 64) }

// made: a thing with these fields, the others zero.
func made(id, x, y int, fields ...api.Field) api.Thing {
	t := api.Thing{ID: id, At: at(x, y)}
	copy(t.F[:], fields)
	return t
}

func number(n int64) api.Field { return api.Field{N: n} }

func text(s string) api.Field { return api.Field{Text: s} }

// plain: what a table should hold, as a list in whichever order, and what it should answer by the promises' words.
type plain []api.Thing

func (l plain) find(id int) int {
	return slices.IndexFunc(l, func(x api.Thing) bool { return x.ID == id })
}

// is: by the words of layer 7.
func is(x api.Thing) bool {
	if x.ID < 0 || x.ID > 1000000 || x.At.X < 0 || x.At.X > 63 || x.At.Y < 0 || x.At.Y > 63 {
		return false
	}
	for _, f := range x.F {
		if f.N != 0 && f.Text != "" || len(f.Text) > 12 {
			return false
		}
	}
	return true
}

func (l *plain) put(x api.Thing) api.Errno {
	switch {
	case !is(x) || l.find(x.ID) >= 0:
		return api.ErrForm
	case len(*l) == 200:
		return api.ErrFull
	}
	*l = append(*l, x)
	return api.OK
}

func (l *plain) set(x api.Thing) api.Errno {
	switch {
	case !is(x):
		return api.ErrForm
	case l.find(x.ID) < 0:
		return api.ErrID
	}
	(*l)[l.find(x.ID)] = x
	return api.OK
}

func (l *plain) drop(id int) api.Errno {
	i := l.find(id)
	if i < 0 {
		return api.ErrID
	}
	*l = slices.Delete(*l, i, i+1)
	return api.OK
}

// those: the ones that ask holds of, rising.
func (l plain) those(ask func(p api.Point) bool) []api.Thing {
	var found []api.Thing
	for _, x := range l {
		if ask(x.At) {
			found = append(found, x)
		}
	}
	slices.SortFunc(found, func(a, b api.Thing) int { return cmp.Compare(a.ID, b.ID) })
	return found
}

func (l plain) all() []api.Thing {
	return l.those(func(api.Point) bool { return true })
}

func (l plain) in(r api.Rect) []api.Thing {
	return l.those(func(p api.Point) bool { return r.X0 <= p.X && p.X < r.X1 && r.Y0 <= p.Y && p.Y < r.Y1 })
}

// cell: cells are numbered by the bits of their columns and rows by turns.
func (l plain) cell(c int) []api.Thing {
	return l.those(func(p api.Point) bool {
		x, y := p.X/16, p.Y/16
		return c == x%2+y%2*2+x/2*4+y/2*8
	})
}

// check holds all that q answers against l.
func check(t *testing.T, q *table.Table, l plain) {
	t.Helper()
	if got := q.Len(); got != len(l) {
		t.Fatalf("Len: %d, not %d", got, len(l))
	}
	if got, want := q.All(), l.all(); !slices.Equal(got, want) {
		t.Fatalf("All: %v, not %v", got, want)
	}
	if got, want := q.In(whole()), l.all(); !slices.Equal(got, want) {
		t.Fatalf("In the map: %v, not %v", got, want)
	}
	for _, x := range l {
		if got, ok := q.Get(x.ID); got != x || !ok {
			t.Fatalf("Get(%d): %v, %v, not %v", x.ID, got, ok, x)
		}
	}
	for c := -1; c <= 16; c++ {
		if got, want := q.Cell(c), l.cell(c); !slices.Equal(got, want) {
			t.Fatalf("Cell(%d): %v, not %v", c, got, want)
		}
	}
	for _, r := range []api.Rect{{}, box(0, 0, 32, 64), box(0, 0, 64, 32), box(20, 10, 50, 41)} {
		if got, want := q.In(r), l.in(r); !slices.Equal(got, want) {
			t.Fatalf("In(%v): %v, not %v", r, got, want)
		}
	}
}

// lacks tells of a number that q says is there.
func lacks(t *testing.T, q *table.Table, ids ...int) {
	t.Helper()
	for _, id := range ids {
		if x, ok := q.Get(id); x != (api.Thing{}) || ok {
			t.Errorf("Get(%d): %v, %v", id, x, ok)
		}
	}
}

// filled: a table and the list of just its things, put in this order.
func filled(t *testing.T, things ...api.Thing) (*table.Table, plain) {
	t.Helper()
	q := table.New()
	for _, x := range things {
		if e := q.Put(x); e != api.OK {
			t.Fatalf("Put(%v): %d", x, e)
		}
	}
	return q, slices.Clone(things)
}

// crowd: n things from the number first on, dealt over the map.
func crowd(first, n int) []api.Thing {
	var l []api.Thing
	for i := range n {
		l = append(l, made(first+i, i*37%64, i*23%61, number(int64(i)), text("crowd")))
	}
	return l
}

// wrong: things that may not stand on the map, each with the number id unless that is what is wrong.
func wrong(id int) []api.Thing {
	l := []api.Thing{
		made(-1, 1, 1), made(-id, 1, 1), made(1000001, 1, 1), made(math.MinInt, 1, 1), made(math.MaxInt, 1, 1), made(id+1<<32, 1, 1),
		made(-1, 64, 1), made(1000001, 1, 1, text("thirteenbytes")),
	}
	for _, n := range []int{math.MinInt, -1 << 32, 5 - 1<<16, -64, -1, 64, 65, 1<<16 + 5, 1<<32 + 5, math.MaxInt} {
		l = append(l, made(id, n, 5), made(id, 5, n), made(id, n, n))
	}
	for i := range 4 {
		for _, f := range []api.Field{
			{Text: "thirteenbytes"}, {Text: strings.Repeat("a", 300)}, {N: 1, Text: "a"}, {N: -1, Text: "a"}, {N: math.MinInt64, Text: "\x00"}, {Text: "ääääää."},
		} {
			x := made(id, 1, 1)
			x.F[i] = f
			l = append(l, x)
		}
	}
	return l
}

// P9.1
func TestNewIsNothing(t *testing.T) {
	q := table.New()
	check(t, q, nil)
	for _, id := range []int{math.MinInt, -1, 0, 1, 200, 1000000, math.MaxInt} {
		lacks(t, q, id)
		if e := q.Drop(id); e != api.ErrID {
			t.Errorf("Drop(%d): %d", id, e)
		}
	}
	if e := q.Set(made(0, 0, 0)); e != api.ErrID {
		t.Errorf("Set: %d", e)
	}
	check(t, q, nil)
}

// P9.1: a table that was declared, not made by New, is one of nothing too.
func TestDeclaredIsNothing(t *testing.T) {
	var q table.Table
	check(t, &q, nil)
	lacks(t, &q, 0, 1)
	if e := q.Drop(0); e != api.ErrID {
		t.Errorf("Drop: %d", e)
	}
	if e := q.Set(made(0, 0, 0)); e != api.ErrID {
		t.Errorf("Set: %d", e)
	}
	c := q.Copy()
	for _, one := range []*table.Table{&q, c} {
		if e := one.Put(made(3, 20, 4)); e != api.OK {
			t.Errorf("Put: %d", e)
		}
		check(t, one, plain{made(3, 20, 4)})
	}
	if e := c.Drop(3); e != api.OK {
		t.Errorf("Drop: %d", e)
	}
	check(t, &q, plain{made(3, 20, 4)})
	check(t, c, nil)
}

// P9.1: one table isn't touched by what is done with another.
func TestTablesAreApart(t *testing.T) {
	a, b := table.New(), table.New()
	a.Put(made(1, 2, 3))
	check(t, b, nil)
	if e := b.Put(made(1, 4, 5)); e != api.OK {
		t.Errorf("Put: %d", e)
	}
	a.Drop(1)
	check(t, a, nil)
	check(t, b, plain{made(1, 4, 5)})
}

// P9.1: what is on an edge is taken.
func TestPutEdges(t *testing.T) {
	q, l := table.New(), plain(nil)
	for _, x := range []api.Thing{
		made(1000000, 63, 63),
		made(0, 0, 0),
		made(5, 63, 0, number(math.MinInt64), number(math.MaxInt64), text("twelve bytes"), text("\x00")),
		made(3, 0, 63, number(-1), text("ääääää"), text("\xff"), number(1)),
		made(4, 0, 63, number(-1), text("ääääää"), text("\xff"), number(1)),
		made(999999, 15, 16),
	} {
		if e := q.Put(x); e != api.OK {
			t.Errorf("Put(%v): %d", x, e)
		}
		l = append(l, x)
		check(t, q, l)
	}
	lacks(t, q, -1, 1, 2, 6, 999998, 1000001, 5+1<<32, math.MinInt, math.MaxInt)
}

// P9.1: what may not stand on the map is refused, and so is a number that is there, and nothing is changed by it.
func TestPutErrors(t *testing.T) {
	q, l := filled(t, made(5, 1, 1, text("here")), made(0, 63, 63))
	refused := append(wrong(5), wrong(6)...)
	refused = append(refused, made(5, 1, 1, text("here")), made(5, 1, 1), made(5, 2, 1, text("here")), made(0, 63, 63), made(0, 1, 1))
	for _, x := range refused {
		if e := q.Put(x); e != api.ErrForm {
			t.Errorf("Put(%v): %d", x, e)
		}
		check(t, q, l)
	}
	lacks(t, q, 6, -1)
}

// P9.1: two hundred are taken, one more isn't; what else is wrong with it is told first.
func TestFull(t *testing.T) {
	q, l := filled(t, crowd(10, 199)...)
	if e := q.Put(made(9, 63, 0)); e != api.OK {
		t.Fatalf("the last one: %d", e)
	}
	l = append(l, made(9, 63, 0))
	check(t, q, l)
	for _, x := range append(wrong(8), made(9, 1, 1), made(10, 1, 1), made(208, 1, 1)) {
		if e := q.Put(x); e != api.ErrForm {
			t.Errorf("Put(%v): %d", x, e)
		}
	}
	for _, x := range []api.Thing{made(8, 1, 1), made(0, 0, 0), made(209, 1, 1), made(1000000, 63, 63)} {
		if e := q.Put(x); e != api.ErrFull {
			t.Errorf("Put(%v): %d", x, e)
		}
		lacks(t, q, x.ID)
	}
	check(t, q, l)
	if e := q.Set(made(9, 0, 0)); e != api.OK {
		t.Errorf("Set in a full table: %d", e)
	}
	if e := q.Set(made(8, 0, 0)); e != api.ErrID {
		t.Errorf("Set of nobody in a full table: %d", e)
	}
	if e := q.Drop(10); e != api.OK {
		t.Errorf("Drop in a full table: %d", e)
	}
	if e := q.Put(made(8, 1, 1)); e != api.OK {
		t.Errorf("Put where one went: %d", e)
	}
	if e := q.Put(made(10, 1, 1)); e != api.ErrFull {
		t.Errorf("Put into what is full again: %d", e)
	}
	l.set(made(9, 0, 0))
	l.drop(10)
	l.put(made(8, 1, 1))
	check(t, q, l)
}

// P9.1: two hundred fit into one cell, and at one point: the eight of a cell are no business of a table.
func TestCrowdedCell(t *testing.T) {
	q, l := table.New(), plain(nil)
	for i := range 200 {
		if e := q.Put(made(i, 40, 20)); e != api.OK {
			t.Fatalf("Put of %d: %d", i, e)
		}
		l = append(l, made(i, 40, 20))
	}
	check(t, q, l)
}

// P9.1
func TestSetRows(t *testing.T) {
	q, l := filled(t, made(5, 1, 1, number(3), text("north")), made(6, 1, 1), made(0, 62, 63))
	for _, c := range []struct {
		x    api.Thing
		want api.Errno
	}{
		{made(4, 2, 2), api.ErrID},
		{made(1, 0, 0), api.ErrID},
		{made(1000000, 2, 2), api.ErrID},
		{made(1000001, 2, 2), api.ErrForm},
		{made(-5, 2, 2), api.ErrForm},
		{made(4, 64, 2), api.ErrForm},
		{made(5, 64, 2), api.ErrForm},
		{made(5, 1, 1, api.Field{N: 1, Text: "a"}), api.ErrForm},
		{made(5, 1, 1, number(3), text("north")), api.OK},
		{made(5, 1, 1, number(3), text("south")), api.OK},
		{made(5, 1, 1), api.OK},
		{made(5, 1, 1, text("t"), number(0), number(0), number(9)), api.OK},
		{made(5, 63, 63, text("t"), number(0), number(0), number(9)), api.OK},
		{made(6, 15, 0, text("moved too")), api.OK},
		{made(6, 16, 0), api.OK},
		{made(0, 0, 0), api.OK},
		{made(0, 63, 0, text("twelve bytes"), text("twelve bytes"), number(math.MinInt64), number(math.MaxInt64)), api.OK},
	} {
		got := q.Set(c.x)
		if got != c.want {
			t.Errorf("Set(%v): %d, not %d", c.x, got, c.want)
		}
		if got == api.OK {
			l.set(c.x)
		}
		check(t, q, l)
	}
}

// P9.1: what may not stand on the map is told ahead of a number that isn't there, and changes nothing.
func TestSetErrors(t *testing.T) {
	q, l := filled(t, made(5, 1, 1, text("here")), made(0, 63, 63))
	for _, x := range append(wrong(5), wrong(6)...) {
		if e := q.Set(x); e != api.ErrForm {
			t.Errorf("Set(%v): %d", x, e)
		}
		check(t, q, l)
	}
}

// P9.1: just the one that is named goes, also of several at one point; it may come again as another.
func TestDropRows(t *testing.T) {
	q, l := filled(t, made(3, 9, 9), made(1, 9, 9, text("one")), made(2, 9, 9), made(0, 0, 0))
	for _, c := range []struct {
		id   int
		want api.Errno
	}{
		{4, api.ErrID},
		{-1, api.ErrID},
		{1 + 1<<32, api.ErrID},
		{math.MinInt, api.ErrID},
		{math.MaxInt, api.ErrID},
		{1, api.OK},
		{1, api.ErrID},
		{3, api.OK},
		{0, api.OK},
		{0, api.ErrID},
		{2, api.OK},
		{2, api.ErrID},
	} {
		got := q.Drop(c.id)
		if got != c.want {
			t.Errorf("Drop(%d): %d, not %d", c.id, got, c.want)
		}
		if got == api.OK {
			l.drop(c.id)
		}
		lacks(t, q, c.id)
		check(t, q, l)
	}
	if e := q.Set(made(1, 8, 7)); e != api.ErrID {
		t.Errorf("Set of what went: %d", e)
	}
	if e := q.Put(made(1, 8, 7)); e != api.OK {
		t.Errorf("Put again: %d", e)
	}
	check(t, q, plain{made(1, 8, 7)})
}

// ids: the numbers of l.
func ids(l []api.Thing) []int {
	var n []int
	for _, x := range l {
		n = append(n, x.ID)
	}
	return n
}

// P9.1
func TestInRows(t *testing.T) {
	q, _ := filled(t,
		made(8, 0, 0), made(1, 63, 63), made(7, 63, 0), made(2, 0, 63),
		made(6, 10, 20), made(3, 10, 20), made(9, 31, 31), made(4, 32, 32), made(5, 32, 31))
	all := []int{1, 2, 3, 4, 5, 6, 7, 8, 9}
	for _, c := range []struct {
		r    api.Rect
		want []int
	}{
		{whole(), all},
		{box(math.MinInt, math.MinInt, math.MaxInt, math.MaxInt), all},
		{box(-5, -5, 70, 70), all},
		{box(0, 0, 63, 64), []int{2, 3, 4, 5, 6, 8, 9}},
		{box(0, 0, 64, 63), []int{3, 4, 5, 6, 7, 8, 9}},
		{box(1, 0, 64, 64), []int{1, 3, 4, 5, 6, 7, 9}},
		{box(0, 1, 64, 64), []int{1, 2, 3, 4, 5, 6, 9}},
		{box(10, 20, 11, 21), []int{3, 6}},
		{box(10, 20, 10, 21), nil},
		{box(10, 20, 11, 20), nil},
		{box(9, 19, 10, 20), nil},
		{box(11, 21, 12, 22), nil},
		{box(31, 31, 33, 33), []int{4, 5, 9}},
		{box(63, 63, math.MaxInt, math.MaxInt), []int{1}},
		{box(math.MinInt, math.MinInt, 1, 1), []int{8}},
		{box(math.MinInt, math.MinInt, 0, 0), nil},
		{box(64, 0, 99, 64), nil},
		{box(0, -9, 64, 0), nil},
		{box(64, 64, 0, 0), nil},
		{box(64, 0, 0, 64), nil},
		{box(math.MaxInt, math.MaxInt, math.MinInt, math.MinInt), nil},
		{api.Rect{}, nil},
	} {
		if got := ids(q.In(c.r)); !slices.Equal(got, c.want) {
			t.Errorf("In(%v): %v, not %v", c.r, got, c.want)
		}
	}
}

// P9.1: those at the corners of each cell are in it; of no cell there are none, be there things in its like.
func TestCellRows(t *testing.T) {
	q := table.New()
	for i := range 16 {
		x, y := i%4*16, i/4*16
		q.Put(made(100-i*4, x, y))
		q.Put(made(101-i*4, x+15, y))
		q.Put(made(102-i*4, x, y+15))
		q.Put(made(103-i*4, x+15, y+15))
	}
	for i, c := range []int{0, 1, 4, 5, 2, 3, 6, 7, 8, 9, 12, 13, 10, 11, 14, 15} {
		first := 100 - i*4
		if got := ids(q.Cell(c)); !slices.Equal(got, []int{first, first + 1, first + 2, first + 3}) {
			t.Errorf("Cell(%d): %v, not from %d on", c, got, first)
		}
	}
	for _, c := range []int{math.MinInt, -1 << 32, -16, -15, -1, 16, 17, 31, 255, 256, 1 << 16, 1 << 32, math.MaxInt} {
		if got := q.Cell(c); len(got) != 0 {
			t.Errorf("Cell(%d): %v", c, got)
		}
	}
}

// P9.1: the example of the chapter.
func TestCellExample(t *testing.T) {
	q, l := filled(t, made(7, 3, 3))
	if got := q.Cell(0); !slices.Equal(got, l) {
		t.Errorf("Cell(0): %v", got)
	}
}

// P9.1: whatever order they were put in.
func TestAllRises(t *testing.T) {
	r := rand.New(rand.NewSource(91))
	for range 30 {
		q := table.New()
		for _, i := range r.Perm(200) {
			q.Put(made(i*5000, r.Intn(64), r.Intn(64)))
		}
		for _, l := range [][]api.Thing{q.All(), q.In(whole())} {
			for i, x := range l {
				if x.ID != i*5000 {
					t.Fatalf("at %d: %d", i, x.ID)
				}
			}
			if len(l) != 200 {
				t.Fatalf("%d things", len(l))
			}
		}
	}
}

// P9.1: what is done with one answer is not seen in another or in the table, the spare room of both included.
func TestAnswersAreNew(t *testing.T) {
	q, l := filled(t, crowd(0, 21)...)
	spoilt := made(-7, -7, -7, text("spoilt"))
	asks := []func() []api.Thing{
		q.All,
		func() []api.Thing { return q.In(whole()) },
		func() []api.Thing { return q.Cell(0) },
	}
	for i, ask := range asks {
		first, second, want := ask(), ask(), ask()
		first = first[:cap(first)]
		for i := range first {
			first[i] = spoilt
		}
		if !slices.Equal(second, want) || slices.Contains(second[:cap(second)], spoilt) {
			t.Errorf("ask %d: the other answer: %v", i, second[:cap(second)])
		}
		check(t, q, l)
	}
}

// P9.1: those that err are passed over: of two of one number the first is there.
func TestOfRows(t *testing.T) {
	for _, c := range []struct{ l, want []api.Thing }{
		{nil, nil},
		{[]api.Thing{}, nil},
		{[]api.Thing{made(3, 1, 1)}, []api.Thing{made(3, 1, 1)}},
		{[]api.Thing{made(3, 1, 1), made(0, 5, 5, text("a"))}, []api.Thing{made(3, 1, 1), made(0, 5, 5, text("a"))}},
		{[]api.Thing{made(3, 1, 1), made(3, 2, 2), made(3, 1, 1)}, []api.Thing{made(3, 1, 1)}},
		{[]api.Thing{made(3, 64, 1), made(3, 2, 2), made(3, 1, 1)}, []api.Thing{made(3, 2, 2)}},
		{append(wrong(3), made(2, 9, 40)), []api.Thing{made(2, 9, 40)}},
		{append([]api.Thing{made(2, 9, 40)}, wrong(3)...), []api.Thing{made(2, 9, 40)}},
		{wrong(3), nil},
		{crowd(0, 199), crowd(0, 199)},
		{crowd(0, 200), crowd(0, 200)},
		{crowd(0, 201), crowd(0, 200)},
		{crowd(0, 900), crowd(0, 200)},
		{append(wrong(500), crowd(0, 201)...), crowd(0, 200)},
		{append(crowd(0, 100), crowd(0, 300)...), crowd(0, 200)},
	} {
		handed := slices.Clone(c.l)
		check(t, table.Of(handed), c.want)
		if !slices.Equal(handed, c.l) {
			t.Errorf("Of changed what was handed in: %v", handed)
		}
	}
}

// P9.1: what is done with the list behind Of isn't seen in the table, nor the other way round.
func TestOfKeepsNothing(t *testing.T) {
	handed := crowd(0, 30)[:20]
	all := slices.Clone(handed[:30])
	q := table.Of(handed)
	q.Put(made(50, 1, 1))
	q.Set(made(0, 60, 60))
	q.Drop(19)
	if !slices.Equal(handed[:30], all) {
		t.Errorf("what was handed in is %v now", handed[:30])
	}
	l := plain(slices.Clone(handed))
	l.put(made(50, 1, 1))
	l.set(made(0, 60, 60))
	l.drop(19)
	clear(handed[:cap(handed)])
	check(t, q, l)
}

// P9.1: a copy is alike, and neither is touched by what is done with the other.
func TestCopyIsApart(t *testing.T) {
	for n := range 30 {
		q, l := filled(t, crowd(100, n)...)
		c := q.Copy()
		check(t, c, l)
		mine, other := slices.Clone(l), slices.Clone(l)
		for i := range 5 {
			q.Put(made(i, i, 1))
			mine.put(made(i, i, 1))
			c.Put(made(i, 63, i))
			other.put(made(i, 63, i))
			check(t, q, mine)
			check(t, c, other)
		}
		for i := range n {
			q.Set(made(100+i, i, 63-i, number(7)))
			mine.set(made(100+i, i, 63-i, number(7)))
			c.Drop(100 + n - 1 - i)
			other.drop(100 + n - 1 - i)
			check(t, q, mine)
			check(t, c, other)
		}
	}
}

// P9.1: copies of one table are apart, behind things that went too.
func TestCopiesAreApart(t *testing.T) {
	q, l := filled(t, crowd(100, 12)...)
	for len(l) > 0 {
		q.Drop(l[0].ID)
		l.drop(l[0].ID)
		a, b := q.Copy(), q.Copy()
		c := a.Copy()
		a.Put(made(1, 0, 0))
		b.Put(made(2, 0, 0))
		c.Put(made(3, 63, 63))
		check(t, q, l)
		check(t, a, append(slices.Clone(l), made(1, 0, 0)))
		check(t, b, append(slices.Clone(l), made(2, 0, 0)))
		check(t, c, append(slices.Clone(l), made(3, 63, 63)))
	}
}

// P9.1: a copy is full where its table is.
func TestCopyOfAFullTable(t *testing.T) {
	q, l := filled(t, crowd(0, 200)...)
	c := q.Copy()
	if e := c.Put(made(200, 1, 1)); e != api.ErrFull {
		t.Errorf("Put: %d", e)
	}
	check(t, c, l)
}

// somewhere: a thing, most often among the first wide points in both directions, so that many are near; now and then one that may not stand on the map.
func somewhere(r *rand.Rand, id, wide int) api.Thing {
	x := made(id, r.Intn(wide), r.Intn(wide))
	if r.Intn(4) == 0 {
		x.At = at(r.Intn(66)-1, r.Intn(66)-1)
	}
	some := []api.Field{{}, number(r.Int63() - r.Int63()), text("north"), text("twelve bytes")}
	for i := range x.F {
		x.F[i] = some[r.Intn(len(some))]
	}
	if r.Intn(30) == 0 {
		x.F[r.Intn(4)] = text("thirteenbytes")
	}
	return x
}

// P9.1 and P9.2: by whatever way the things came where they are, the answers are those of a list that is gone through.
func TestAgainstAPlainList(t *testing.T) {
	for seed := range int64(40) {
		r := rand.New(rand.NewSource(900 + seed))
		q, l := table.New(), plain(nil)
		wide, most := 2<<r.Intn(6), 20+r.Intn(240)
		for step := range 500 {
			x := somewhere(r, r.Intn(most)-1, wide)
			var got, want api.Errno
			switch r.Intn(8) {
			case 0, 1:
				got, want = q.Set(x), l.set(x)
			case 2:
				got, want = q.Drop(x.ID), l.drop(x.ID)
			default:
				got, want = q.Put(x), l.put(x)
			}
			if got != want {
				t.Fatalf("seed %d: %v: %d, not %d", seed, x, got, want)
			}
			asked := box(r.Intn(66)-1, r.Intn(66)-1, r.Intn(66)-1, r.Intn(66)-1)
			if got, want := q.In(asked), l.in(asked); !slices.Equal(got, want) {
				t.Fatalf("seed %d: In(%v): %v, not %v", seed, asked, got, want)
			}
			if step%50 == 0 {
				check(t, q, l)
				q = q.Copy()
			}
		}
		check(t, q, l)
		check(t, table.Of(q.All()), l)
	}
}

// P9.2: wherever a thing goes, it is there as it was told last, and nowhere else.
func TestOneThingOnePlace(t *testing.T) {
	q, l := filled(t, made(7, 0, 0), made(1, 5, 5), made(9, 63, 63))
	for y := 0; y < 64; y += 3 {
		for x := range 64 {
			now := made(7, x, y, number(int64(x)), number(int64(y)))
			if e := q.Set(now); e != api.OK {
				t.Fatalf("Set(%v): %d", now, e)
			}
			l.set(now)
			if got, ok := q.Get(7); got != now || !ok {
				t.Fatalf("Get: %v, %v, not %v", got, ok, now)
			}
			if got, want := q.In(box(x, y, x+1, y+1)), l.in(box(x, y, x+1, y+1)); !slices.Equal(got, want) {
				t.Fatalf("In %d, %d alone: %v, not %v", x, y, got, want)
			}
		}
		check(t, q, l)
	}
}

// P9.2: each thing is found point by point just once, and cell by cell, as it is found by its number.
func TestEachIsFoundOnce(t *testing.T) {
	r := rand.New(rand.NewSource(92))
	q, l := table.New(), plain(nil)
	for _, id := range r.Perm(200) {
		x := made(id, r.Intn(64), r.Intn(64), number(int64(id)))
		q.Put(x)
		l.put(x)
	}
	for i := range 100 {
		x := made(i*2, r.Intn(20), r.Intn(64), text("moved"))
		q.Set(x)
		l.set(x)
	}
	var points, inCells plain
	for y := range 64 {
		for x := range 64 {
			points = append(points, q.In(box(x, y, x+1, y+1))...)
		}
	}
	for c := range 16 {
		inCells = append(inCells, q.Cell(c)...)
	}
	if !slices.Equal(points.all(), l.all()) || !slices.Equal(inCells.all(), l.all()) {
		t.Errorf("%d point by point, %d cell by cell, of %d", len(points), len(inCells), len(l))
	}
	check(t, q, l)
}

// P9.2: what is asked doesn't change what is answered later.
func TestAskingChangesNothing(t *testing.T) {
	q, l := filled(t, crowd(0, 120)...)
	for i := range 200 {
		q.In(box(i%64, i%50, 64, 60))
		q.Cell(i - 50)
		q.Get(i)
		q.All()
		q.Copy().Drop(i)
		table.Of(q.All()).Set(made(i, 1, 1))
	}
	check(t, q, l)
}
