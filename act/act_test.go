package act_test

import (
	"math"
	"math/rand"
	"slices"
	"strings"
	"testing"

	"vedette/act"
	"vedette/api"
	"vedette/cmd"
	"vedette/table"
)

func at(x, y int) api.Point { return api.Point{X: x, Y: y} }

func number(n int64) api.Field { return api.Field{N: n} }

func text(s string) api.Field { return api.Field{Text: s} }

// made: a thing with these fields, the others zero.
func made(id, x, y int, fields ...api.Field) api.Thing {
	t := api.Thing{ID: id, At: at(x, y)}
	copy(t.F[:], fields)
	return t
}

func put(x, y int, fields ...api.Field) api.Command {
	c := api.Command{Kind: api.CPut, At: at(x, y)}
	copy(c.F[:], fields)
	return c
}

func move(id, x, y int) api.Command { return api.Command{Kind: api.CMove, ID: id, At: at(x, y)} }

func set(id, which int, f api.Field) api.Command {
	return api.Command{Kind: api.CSet, ID: id, Which: which, Value: f}
}

func drop(id int) api.Command { return api.Command{Kind: api.CDrop, ID: id} }

// filled: a table of just these things.
func filled(t *testing.T, things ...api.Thing) *table.Table {
	t.Helper()
	q := table.New()
	for _, x := range things {
		if e := q.Put(x); e != api.OK {
			t.Fatalf("Put(%v): %d", x, e)
		}
	}
	return q
}

// spread: n things from the number first on, dealt over the cells by turns.
func spread(first, n int) []api.Thing {
	var l []api.Thing
	for i := range n {
		l = append(l, made(first+i, i%4*16+i/16%16, i/4%4*16+15, number(int64(i)), text("spread")))
	}
	return l
}

// heap: n things from the number first on, all in the cell that begins at x, y.
func heap(first, n, x, y int) []api.Thing {
	var l []api.Thing
	for i := range n {
		l = append(l, made(first+i, x+i%16, y+i*7%16, text("heap")))
	}
	return l
}

// wantAll holds what is in q against l, by number, by cell and as a whole.
func wantAll(t *testing.T, q *table.Table, l []api.Thing) {
	t.Helper()
	l = slices.SortedFunc(slices.Values(l), func(a, b api.Thing) int { return a.ID - b.ID })
	if got := q.All(); !slices.Equal(got, l) || q.Len() != len(l) {
		t.Fatalf("%d things: %v, not %v", q.Len(), got, l)
	}
	for _, x := range l {
		if got, ok := q.Get(x.ID); got != x || !ok {
			t.Fatalf("Get(%d): %v, %v, not %v", x.ID, got, ok, x)
		}
	}
	for c := range 16 {
		want := slices.DeleteFunc(slices.Clone(l), func(x api.Thing) bool { return cellOf(x.At) != c })
		if got := q.Cell(c); !slices.Equal(got, want) {
			t.Fatalf("Cell(%d): %v, not %v", c, got, want)
		}
	}
}

// wantCheck asks q twice, and holds it against what it was.
func wantCheck(t *testing.T, q *table.Table, c api.Command, e api.Errno) {
	t.Helper()
	l := q.All()
	for range 2 {
		if got := act.Check(q, c); got != e {
			t.Errorf("Check(%+v): %d, not %d", c, got, e)
		}
	}
	wantAll(t, q, l)
}

// wantRefused: what Check and Do tell is e, and nothing is changed.
func wantRefused(t *testing.T, q *table.Table, c api.Command, id int, e api.Errno) {
	t.Helper()
	wantCheck(t, q, c, e)
	l := q.All()
	if n, got := act.Do(q, c, id); n != 0 || got != e {
		t.Errorf("Do(%+v, %d): %d, %d, not 0, %d", c, id, n, got, e)
	}
	wantAll(t, q, l)
}

// wantDone: Check has nothing against c, and Do of it tells n and makes q as l.
func wantDone(t *testing.T, q *table.Table, c api.Command, id, n int, l ...api.Thing) {
	t.Helper()
	wantCheck(t, q, c, api.OK)
	if got, e := act.Do(q, c, id); got != n || e != api.OK {
		t.Errorf("Do(%+v, %d): %d, %d, not %d", c, id, got, e, n)
	}
	wantAll(t, q, l)
}

// cellOf: cells are numbered by the bits of their columns and rows by turns.
func cellOf(p api.Point) int {
	x, y := p.X/16, p.Y/16
	return x%2 + y%2*2 + x/2*4 + y/2*8
}

// far: numbers that are none of a thing's.
var far = []int{math.MinInt, -1 << 32, -1000001, -1, 1000001, 1 << 32, 1<<32 + 5, math.MaxInt}

// P11.1
func TestCheckOfOtherKinds(t *testing.T) {
	for _, q := range []*table.Table{table.New(), filled(t, made(0, 0, 0), made(5, 1, 1)), filled(t, heap(0, 200, 0, 0)...)} {
		for _, c := range []api.Command{
			{Kind: api.CHand},
			{Kind: api.CHand, Which: 3, To: 1, Client: 2, Session: 9},
			{Kind: api.CJoin},
			{Kind: api.CJoin, Rect: api.Rect{X1: 9, Y1: 9}, Client: 1, Session: 1},
			{Kind: api.CTurn},
			{Kind: api.CTurn, Rect: api.Rect{X1: 64, Y1: 64}},
			{Kind: api.CQuit},
			{Kind: api.CQuit, Client: 3, Session: 1000000},
		} {
			if !cmd.Is(c) {
				t.Fatalf("%+v is no command", c)
			}
			wantRefused(t, q, c, 7, api.ErrForm)
		}
		for _, kind := range []int{0, -1, -4, 9, 10, 256 + api.CPut, 1<<32 + api.CPut, 1<<32 + api.CDrop, math.MinInt, math.MaxInt} {
			wantRefused(t, q, api.Command{Kind: kind}, 7, api.ErrForm)
			wantRefused(t, q, api.Command{Kind: kind, ID: 5}, 7, api.ErrForm)
		}
	}
}

// spoilt: c made ill-formed in all ways, one at a time.
func spoilt(c api.Command) []api.Command {
	var l []api.Command
	with := func(f func(c *api.Command)) {
		x := c
		f(&x)
		if cmd.Is(x) {
			return
		}
		l = append(l, x)
	}
	long, both := text("thirteenbytes"), api.Field{N: 1, Text: "a"}
	for _, n := range []int{math.MinInt, -1001, -1, 1, 2, 4, 101, 1001, 1000001, 1 << 32, math.MaxInt} {
		with(func(c *api.Command) { c.ID = n })
		with(func(c *api.Command) { c.Which = n })
		with(func(c *api.Command) { c.To = n })
		with(func(c *api.Command) { c.At.X = n })
		with(func(c *api.Command) { c.At.Y = n })
		with(func(c *api.Command) { c.Client = n })
		with(func(c *api.Command) { c.Session = n })
		with(func(c *api.Command) { c.Rect.X0 = n })
		with(func(c *api.Command) { c.Rect.Y1 = n })
	}
	for _, f := range []api.Field{long, both, number(1), text("a")} {
		with(func(c *api.Command) { c.Value = f })
		for i := range c.F {
			with(func(c *api.Command) { c.F[i] = f })
		}
	}
	return l
}

// P11.1, P11.3: what isn't a command is told ahead of all else, be it that its kind has nothing to do with what is wrong.
func TestCheckOfIllFormed(t *testing.T) {
	good := []api.Command{put(3, 3, number(1), text("a")), move(5, 3, 3), set(5, 1, text("a")), drop(5)}
	other := []api.Command{put(64, 3), put(0, 0), move(6, 3, 3), move(5, -1, 3), set(6, 1, text("a")), set(5, 9, number(1)), drop(6)}
	for _, things := range [][]api.Thing{{made(5, 1, 1, number(7))}, {made(0, 1, 1), made(5, 40, 40)}, heap(0, 200, 0, 0)} {
		q := filled(t, things...)
		for _, c := range append(good, other...) {
			l := spoilt(c)
			if len(l) < 60 {
				t.Fatalf("%+v: %d ways", c, len(l))
			}
			for _, x := range l {
				if got := act.Check(q, x); got != api.ErrForm {
					t.Errorf("Check(%+v): %d", x, got)
				}
				if n, got := act.Do(q, x, 300); n != 0 || got != api.ErrForm {
					t.Errorf("Do(%+v): %d, %d", x, n, got)
				}
			}
		}
		wantAll(t, q, things)
	}
}

// P11.1: at each edge of the map, in either direction, beyond it, and where it is no command's any more.
func TestCheckOfPlaces(t *testing.T) {
	q := filled(t, made(5, 1, 1))
	for _, c := range []struct {
		n int
		e api.Errno
	}{
		{0, api.OK}, {1, api.OK}, {15, api.OK}, {16, api.OK}, {62, api.OK}, {63, api.OK},
		{64, api.ErrPlace}, {65, api.ErrPlace}, {-1, api.ErrPlace}, {-2, api.ErrPlace}, {-64, api.ErrPlace}, {999, api.ErrPlace}, {1000, api.ErrPlace}, {-1000, api.ErrPlace},
		{1001, api.ErrForm}, {-1001, api.ErrForm}, {1 << 32, api.ErrForm}, {1<<32 + 5, api.ErrForm}, {math.MinInt, api.ErrForm}, {math.MaxInt, api.ErrForm},
	} {
		for _, p := range []api.Point{at(c.n, 5), at(5, c.n), at(c.n, c.n), at(c.n, 63), at(0, c.n)} {
			wantCheck(t, q, put(p.X, p.Y), c.e)
			wantCheck(t, q, move(5, p.X, p.Y), c.e)
			if c.e != api.OK {
				wantRefused(t, q, put(p.X, p.Y), 9, c.e)
				wantRefused(t, q, move(5, p.X, p.Y), 9, c.e)
			}
		}
	}
}

// P11.1: the thing has to be there, be its number nought or the greatest.
func TestCheckOfNumbers(t *testing.T) {
	for _, own := range []int{0, 1, 5, 1000000} {
		q := filled(t, made(own, 1, 1))
		for _, id := range []int{0, 1, 2, 4, 5, 6, 999999, 1000000} {
			e := api.ErrID
			if id == own {
				e = api.OK
			}
			for _, c := range []api.Command{move(id, 3, 3), set(id, 3, number(1)), drop(id)} {
				wantCheck(t, q, c, e)
				wantCheck(t, table.New(), c, api.ErrID)
			}
		}
		for _, id := range far {
			wantRefused(t, q, move(id, 3, 3), 9, api.ErrForm)
			wantRefused(t, q, set(id, 3, number(1)), 9, api.ErrForm)
			wantRefused(t, q, drop(id), 9, api.ErrForm)
		}
	}
}

// P11.1
func TestCheckOfFields(t *testing.T) {
	q := filled(t, made(5, 1, 1))
	for which, e := range map[int]api.Errno{
		0: api.OK, 1: api.OK, 2: api.OK, 3: api.OK,
		4: api.ErrField, 5: api.ErrField, -1: api.ErrField, 99: api.ErrField, 100: api.ErrField,
		-2: api.ErrForm, 101: api.ErrForm, 1 << 32: api.ErrForm, 1<<32 + 1: api.ErrForm, math.MinInt: api.ErrForm, math.MaxInt: api.ErrForm,
	} {
		for _, f := range []api.Field{{}, number(-1), text("a")} {
			wantCheck(t, q, set(5, which, f), e)
			if e != api.OK {
				wantRefused(t, q, set(5, which, f), 5, e)
			}
		}
	}
}

// P11.1: where several reasons hold the first one is told.
func TestCheckTellsTheFirst(t *testing.T) {
	// 200 things, nine of them in cell 0; and few, eight of them in cell 0.
	many := filled(t, append(heap(0, 9, 0, 0), heap(9, 191, 48, 48)...)...)
	few := filled(t, append(heap(0, 8, 0, 0), made(8, 20, 0))...)
	for _, c := range []struct {
		q *table.Table
		c api.Command
		e api.Errno
	}{
		{many, put(64, 0), api.ErrPlace},
		{many, put(0, -1), api.ErrPlace},
		{many, put(0, 0), api.ErrFull},
		{many, put(30, 30), api.ErrFull},
		{few, put(0, 64), api.ErrPlace},
		{few, put(0, 0), api.ErrFull},
		{few, put(30, 30), api.OK},
		{few, move(9, 64, 0), api.ErrID},
		{few, move(9, 0, 0), api.ErrID},
		{few, move(8, 0, 64), api.ErrPlace},
		{few, move(8, 0, 0), api.ErrFull},
		{few, move(8, 16, 0), api.OK},
		{many, move(200, -1, 0), api.ErrID},
		{many, move(199, -1, 0), api.ErrPlace},
		{many, move(199, 1, 0), api.ErrFull},
		{many, move(199, 20, 0), api.OK},
		{few, set(9, 4, number(1)), api.ErrID},
		{few, set(9, -1, number(1)), api.ErrID},
		{few, set(8, 4, number(1)), api.ErrField},
		{few, set(9, 0, number(1)), api.ErrID},
		{many, drop(200), api.ErrID},
		{table.New(), move(0, 64, 64), api.ErrID},
		{table.New(), set(0, 4, number(1)), api.ErrID},
	} {
		wantCheck(t, c.q, c.c, c.e)
	}
}

// P11.1: 199 things take one more, wherever there is room; 200 take none, but each of them may go on.
func TestFullTable(t *testing.T) {
	l := append(heap(10, 192, 48, 48), spread(300, 7)...)
	q := filled(t, l...)
	wantDone(t, q, put(20, 20, number(1)), 9, 9, append(l, made(9, 20, 20, number(1)))...)
	for _, p := range []api.Point{at(20, 20), at(0, 40), at(63, 0), at(63, 63)} {
		wantRefused(t, q, put(p.X, p.Y), 8, api.ErrFull)
	}
	// Check's error goes ahead of a number that can't be.
	for _, id := range append([]int{9, 10}, far...) {
		wantRefused(t, q, put(20, 20), id, api.ErrFull)
		wantRefused(t, q, put(64, 20), id, api.ErrPlace)
	}
	l = append(l, made(9, 21, 22, number(1)))
	wantDone(t, q, move(9, 21, 22), 8, 9, l...)
	l[len(l)-1].F[1] = text("b")
	wantDone(t, q, set(9, 1, text("b")), 8, 9, l...)
	wantDone(t, q, drop(9), 8, 9, l[:len(l)-1]...)
	wantCheck(t, q, put(63, 63), api.ErrFull)
	l[len(l)-1] = made(0, 0, 0)
	wantDone(t, q, put(0, 0), 0, 0, l...)
	wantRefused(t, q, put(0, 0), 1, api.ErrFull)
}

// P11.1: only the two hundredth thing leaves no room for another one.
func TestCheckByHowMany(t *testing.T) {
	for n := range 201 {
		q := filled(t, heap(0, n, 48, 48)...)
		e := api.OK
		if n == 200 {
			e = api.ErrFull
		}
		wantCheck(t, q, put(0, 0), e)
	}
}

// P11.1: in each cell the eighth is taken and the ninth isn't, at none of its corners; next to it there is room.
func TestFullCell(t *testing.T) {
	for cell := range 16 {
		x, y := cell%4*16, cell/4*16
		corners := []api.Point{at(x, y), at(x+15, y), at(x, y+15), at(x+15, y+15)}
		beside := []api.Point{at(x-1, y), at(x, y-1), at(x+16, y), at(x, y+16), at(x-1, y-1), at(x+16, y+16), at(x+16, y+15), at(x+15, y+16)}
		for n := range 12 {
			l := append(heap(10, n, x, y), made(5, (x+32)%64, y))
			q := filled(t, l...)
			for _, p := range corners {
				e := api.OK
				if n >= 8 {
					e = api.ErrFull
				}
				wantCheck(t, q, put(p.X, p.Y), e)
				wantCheck(t, q, move(5, p.X, p.Y), e)
			}
			for _, p := range beside {
				if p.X < 0 || p.X > 63 || p.Y < 0 || p.Y > 63 {
					continue
				}
				wantCheck(t, q, put(p.X, p.Y), api.OK)
				wantCheck(t, q, move(5, p.X, p.Y), api.OK)
			}
			wantAll(t, q, l)
		}
	}
}

// P11.1: what is in a full cell may move within it, and leave it; behind that there is room for one, if there were eight.
func TestMoveInAndOutOfAFullCell(t *testing.T) {
	for _, n := range []int{8, 9, 30} {
		l := append(heap(10, n, 16, 32), made(5, 15, 32))
		q := filled(t, l...)
		for i := range n {
			for _, p := range []api.Point{at(16, 32), at(31, 47), at(24, 40), l[i].At} {
				wantCheck(t, q, move(10+i, p.X, p.Y), api.OK)
			}
		}
		l[0].At = at(31, 47)
		wantDone(t, q, move(10, 31, 47), 0, 10, l...)
		wantRefused(t, q, move(5, 16, 32), 0, api.ErrFull)
		l[0].At = at(32, 47)
		wantDone(t, q, move(10, 32, 47), 0, 10, l...)
		if n > 8 {
			wantRefused(t, q, move(5, 16, 32), 0, api.ErrFull)
			wantRefused(t, q, put(16, 32), 0, api.ErrFull)
			continue
		}
		l[n].At = at(16, 32)
		wantDone(t, q, move(5, 16, 32), 0, 5, l...)
		wantRefused(t, q, move(10, 31, 47), 0, api.ErrFull)
		wantRefused(t, q, put(16, 32), 0, api.ErrFull)
	}
}

// P11.1: a full cell is no reason against a CSet or a CDrop; a place behind a CDrop is free.
func TestSetAndDropInAFullCell(t *testing.T) {
	l := heap(10, 8, 0, 0)
	q := filled(t, l...)
	l[3].F[3] = number(4)
	wantDone(t, q, set(13, 3, number(4)), 0, 13, l...)
	wantRefused(t, q, put(0, 15), 1, api.ErrFull)
	wantDone(t, q, drop(13), 0, 13, slices.Delete(slices.Clone(l), 3, 4)...)
	l[3] = made(1, 0, 15)
	wantDone(t, q, put(0, 15), 1, 1, l...)
	wantRefused(t, q, put(0, 15), 2, api.ErrFull)
}

// P11.2: of a new thing, its number, place and fields are those that were told.
func TestDoPut(t *testing.T) {
	q := table.New()
	var l []api.Thing
	for _, x := range []api.Thing{
		made(0, 0, 0),
		made(1000000, 63, 63, text("twelve bytes"), number(math.MinInt64), number(math.MaxInt64), text("\x00")),
		made(999999, 63, 0, number(-1), api.Field{}, text("ääääää"), number(1)),
		made(1, 0, 63, api.Field{}, api.Field{}, api.Field{}, text("\xff\xfe")),
		made(7, 0, 0, number(3)),
		made(200, 17, 45),
	} {
		l = append(l, x)
		wantDone(t, q, api.Command{Kind: api.CPut, At: x.At, F: x.F, Client: 3, Session: 9}, x.ID, x.ID, l...)
	}
}

// P11.2, P11.3
func TestDoPutOfNumbersThatCannotBe(t *testing.T) {
	l := []api.Thing{made(0, 3, 3), made(5, 3, 3, text("here")), made(1000000, 9, 9)}
	q := filled(t, l...)
	for _, id := range append([]int{0, 5, 1000000, -5, -1000000}, far...) {
		for _, c := range []api.Command{put(3, 3), put(3, 3, text("here")), put(60, 60, number(1))} {
			wantCheck(t, q, c, api.OK)
			if n, e := act.Do(q, c, id); n != 0 || e != api.ErrForm {
				t.Errorf("Do(%+v, %d): %d, %d", c, id, n, e)
			}
			wantAll(t, q, l)
		}
		wantRefused(t, q, put(-1, 3), id, api.ErrPlace)
	}
	// What went may come again.
	wantDone(t, q, drop(5), 0, 5, l[0], l[2])
	wantDone(t, q, put(8, 8), 5, 5, l[0], made(5, 8, 8), l[2])
}

// P11.2: a CMove changes the place and nothing else, be it the place where the thing is; the id that is handed in counts for nothing.
func TestDoMove(t *testing.T) {
	f := []api.Field{number(1), text("two"), number(-3), text("four")}
	other, q := made(0, 30, 30, text("other")), table.New()
	q.Put(other)
	q.Put(made(5, 30, 30, f...))
	for i, p := range []api.Point{at(30, 30), at(31, 30), at(31, 31), at(32, 31), at(63, 63), at(0, 0), at(0, 63), at(63, 0), at(63, 0)} {
		id := append([]int{0, 5, 6}, far...)[i]
		wantDone(t, q, move(5, p.X, p.Y), id, 5, other, made(5, p.X, p.Y, f...))
	}
	other.At = at(63, 0)
	wantDone(t, q, move(0, 63, 0), 5, 0, other, made(5, 63, 0, f...))
}

// P11.2: a CSet changes the field that is named and nothing else, be it as it is already; the id that is handed in counts for nothing.
func TestDoSet(t *testing.T) {
	other, x := made(0, 9, 9, text("other")), made(5, 9, 9, number(1), text("two"), number(-3), text("four"))
	q := filled(t, other, x)
	for which := range api.Fields {
		for i, f := range []api.Field{number(7), number(7), text("north"), text("twelve bytes"), number(math.MinInt64), {}, text("\x00"), number(math.MaxInt64)} {
			x.F[which] = f
			wantDone(t, q, set(5, which, f), far[i], 5, other, x)
		}
	}
	other.F[3] = number(9)
	wantDone(t, q, set(0, 3, number(9)), 5, 0, other, x)
	other.F[0] = api.Field{}
	wantDone(t, q, set(0, 0, api.Field{}), 0, 0, other, x)
}

// P11.2: a CDrop takes just its own thing away; the id that is handed in counts for nothing.
func TestDoDrop(t *testing.T) {
	a, b, c := made(0, 9, 9), made(5, 9, 9, text("b")), made(1000000, 9, 9)
	q := filled(t, a, b, c)
	wantDone(t, q, drop(5), 0, 5, a, c)
	wantRefused(t, q, drop(5), 0, api.ErrID)
	wantRefused(t, q, move(5, 9, 9), 5, api.ErrID)
	wantRefused(t, q, set(5, 1, number(1)), 5, api.ErrID)
	wantDone(t, q, drop(0), 1000000, 0, c)
	wantRefused(t, q, drop(0), 1000000, api.ErrID)
	wantDone(t, q, drop(1000000), -1, 1000000)
	wantRefused(t, q, drop(1000000), 0, api.ErrID)
}

// P11.1: the example of the chapter.
func TestNumberThatIsNotThere(t *testing.T) {
	wantRefused(t, table.New(), move(5, 3, 3), 5, api.ErrID)
	wantRefused(t, filled(t, made(4, 3, 3)), move(5, 3, 3), 5, api.ErrID)
}

// P11.1, P11.2: who asks, and in which session, makes no difference.
func TestWhoAsksIsNoReason(t *testing.T) {
	for _, c := range []api.Command{put(3, 3), move(5, 3, 3), set(5, 0, number(1)), drop(5), put(64, 3), move(6, 3, 3), set(5, 4, number(1)), drop(6)} {
		want := filled(t, made(5, 1, 1))
		n, e := act.Do(want, c, 8)
		for _, who := range [][2]int{{0, 1}, {1, 0}, {3, 1000000}} {
			q := filled(t, made(5, 1, 1))
			c.Client, c.Session = who[0], who[1]
			if gn, ge := act.Do(q, c, 8); gn != n || ge != e {
				t.Errorf("Do(%+v): %d, %d, not %d, %d", c, gn, ge, n, e)
			}
			wantAll(t, q, want.All())
		}
	}
}

// P11.2: what is done to a copy isn't done to the table that it was made of.
func TestDoOfACopy(t *testing.T) {
	l := spread(5, 40)
	q := filled(t, l...)
	for i, c := range []api.Command{put(3, 3), move(5, 60, 3), set(6, 0, number(1)), drop(7)} {
		if _, e := act.Do(q.Copy(), c, 100+i); e != api.OK {
			t.Errorf("Do(%+v): %d", c, e)
		}
		wantAll(t, q, l)
	}
}

// P11.1, P11.2: a table that was declared, not made, is one of nothing.
func TestDeclaredTable(t *testing.T) {
	var q table.Table
	wantRefused(t, &q, move(0, 1, 1), 0, api.ErrID)
	wantRefused(t, &q, set(0, 0, number(1)), 0, api.ErrID)
	wantRefused(t, &q, drop(0), 0, api.ErrID)
	wantRefused(t, &q, put(64, 0), 0, api.ErrPlace)
	wantCheck(t, &q, put(1, 1), api.OK)
	if n, e := act.Do(&q, put(1, 1), -1); n != 0 || e != api.ErrForm {
		t.Errorf("Do: %d, %d", n, e)
	}
	wantAll(t, &q, nil)
	wantDone(t, &q, put(1, 1), 3, 3, made(3, 1, 1))
}

// plain: what a table should hold, and what should be answered and done by the promises' words.
type plain map[int]api.Thing

func (l plain) crowded(p api.Point) bool {
	n := 0
	for _, x := range l {
		if cellOf(x.At) == cellOf(p) {
			n++
		}
	}
	return n >= 8
}

func (l plain) check(c api.Command) api.Errno {
	x, there := l[c.ID]
	on := 0 <= c.At.X && c.At.X < 64 && 0 <= c.At.Y && c.At.Y < 64
	about := c.Kind == api.CMove || c.Kind == api.CSet || c.Kind == api.CDrop
	places := c.Kind == api.CPut || c.Kind == api.CMove
	switch {
	case !cmd.Is(c) || !about && c.Kind != api.CPut:
		return api.ErrForm
	case about && !there:
		return api.ErrID
	case places && !on:
		return api.ErrPlace
	case c.Kind == api.CPut && (len(l) >= 200 || l.crowded(c.At)):
		return api.ErrFull
	case c.Kind == api.CMove && cellOf(c.At) != cellOf(x.At) && l.crowded(c.At):
		return api.ErrFull
	case c.Kind == api.CSet && (c.Which < 0 || c.Which > 3):
		return api.ErrField
	}
	return api.OK
}

func (l plain) do(c api.Command, id int) (int, api.Errno) {
	if e := l.check(c); e != api.OK {
		return 0, e
	}
	if c.Kind == api.CPut {
		if _, there := l[id]; there || id < 0 || id > 1000000 {
			return 0, api.ErrForm
		}
		l[id] = api.Thing{ID: id, At: c.At, F: c.F}
		return id, api.OK
	}
	x := l[c.ID]
	switch c.Kind {
	case api.CMove:
		x.At = c.At
	case api.CSet:
		x.F[c.Which] = c.Value
	}
	l[c.ID] = x
	if c.Kind == api.CDrop {
		delete(l, c.ID)
	}
	return c.ID, api.OK
}

func (l plain) all() []api.Thing {
	var all []api.Thing
	for _, x := range l {
		all = append(all, x)
	}
	return all
}

// asked: a command about one of most numbers, most often one that can be done, most places in the first wide points of the map.
func asked(r *rand.Rand, most, wide int) api.Command {
	fields := []api.Field{{}, number(r.Int63() - r.Int63()), text("north"), text(strings.Repeat("a", r.Intn(13)))}
	if r.Intn(20) == 0 {
		fields[2] = []api.Field{text("thirteenbytes"), {N: 1, Text: "a"}}[r.Intn(2)]
	}
	field := func() api.Field { return fields[r.Intn(len(fields))] }
	p := at(r.Intn(wide), r.Intn(wide))
	if r.Intn(5) == 0 {
		p = at(r.Intn(68)-2, r.Intn(68)-2)
	}
	var c api.Command
	switch r.Intn(10) {
	case 0, 1, 2, 3:
		c = put(p.X, p.Y, field(), field(), field(), field())
	case 4, 5, 6:
		c = move(r.Intn(most), p.X, p.Y)
	case 7:
		c = set(r.Intn(most), r.Intn(6)-1, field())
	case 8:
		c = drop(r.Intn(most))
	default:
		c = api.Command{Kind: r.Intn(11) - 1, ID: r.Intn(most)}
	}
	c.Client, c.Session = r.Intn(4), r.Intn(3)
	if r.Intn(30) == 0 {
		c.To = 1
	}
	return c
}

// P11.1 to P11.3: whatever was done ahead, Check and Do are as the promises' words; refused or not, the table holds what it should.
func TestAgainstAPlainMap(t *testing.T) {
	told := map[api.Errno]int{}
	for seed := range int64(30) {
		r := rand.New(rand.NewSource(1100 + seed))
		q, l := table.New(), plain{}
		// Some begin with more in their cells than commands put there, some with nearly all that may be.
		for _, x := range heap(0, []int{0, 9, 198}[seed%3], 0, 0) {
			q.Put(x)
			l[x.ID] = x
		}
		most, wide := 20+r.Intn(240), 16<<r.Intn(3)
		for step := range 600 {
			c, id := asked(r, most, wide), r.Intn(most+4)-2
			if r.Intn(40) == 0 {
				id = far[r.Intn(len(far))]
			}
			before, e := q.All(), l.check(c)
			if got := act.Check(q, c); got != e {
				t.Fatalf("seed %d, step %d: Check(%+v): %d, not %d", seed, step, c, got, e)
			}
			n, e := l.do(c, id)
			if gn, ge := act.Do(q, c, id); gn != n || ge != e {
				t.Fatalf("seed %d, step %d: Do(%+v, %d): %d, %d, not %d, %d", seed, step, c, id, gn, ge, n, e)
			}
			told[e]++
			if e != api.OK && !slices.Equal(q.All(), before) {
				t.Fatalf("seed %d, step %d: Do(%+v, %d), refused: %v, not %v", seed, step, c, id, q.All(), before)
			}
			if step%20 == 0 {
				wantAll(t, q, l.all())
			}
		}
		wantAll(t, q, l.all())
	}
	for _, e := range []api.Errno{api.OK, api.ErrForm, api.ErrPlace, api.ErrID, api.ErrFull, api.ErrField} {
		if told[e] < 100 {
			t.Errorf("error %d came %d times", e, told[e])
		}
	}
}

// P11.3: a table that was refused much does what comes then as one that was refused nothing.
func TestWhatIsRefusedIsForgotten(t *testing.T) {
	r := rand.New(rand.NewSource(1190))
	vexed, calm := table.New(), table.New()
	for range 3000 {
		c, id := asked(r, 60, 32), r.Intn(60)
		n, e := act.Do(vexed, c, id)
		if e != api.OK {
			if n != 0 {
				t.Fatalf("Do(%+v, %d): %d, %d", c, id, n, e)
			}
			continue
		}
		if gn, ge := act.Do(calm, c, id); gn != n || ge != e {
			t.Fatalf("Do(%+v, %d): %d, %d, not %d, %d", c, id, gn, ge, n, e)
		}
	}
	if vexed.Len() < 10 {
		t.Fatalf("%d things", vexed.Len())
	}
	wantAll(t, vexed, calm.All())
}
