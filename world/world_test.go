package world_test

import (
	"cmp"
	"math"
	"math/rand"
	"slices"
	"strings"
	"testing"

	"vedette/act"
	"vedette/api"
	"vedette/cmd"
	"vedette/table"
	"vedette/thing"
	"vedette/world"
)

func at(x, y int) api.Point { return api.Point{X: x, Y: y} }

func box(x0, y0, x1, y1 int) api.Rect { return api.Rect{X0: x0, Y0: y0, X1: x1, Y1: y1} }

func number(n int64) api.Field { return api.Field{N: n} }

func text(s string) api.Field { return api.Field{Text: s} }

// made: a thing with these fields, the others zero.
func made(id, x, y int, fields ...api.Field) api.Thing {
	t := api.Thing{ID: id, At: at(x, y)}
	copy(t.F[:], fields)
	return t
}

// put: a new thing with these fields, the others zero.
func put(x, y int, fields ...api.Field) api.Command {
	t := made(0, x, y, fields...)
	return api.Command{Kind: api.CPut, At: t.At, F: t.F}
}

func move(id, x, y int) api.Command { return api.Command{Kind: api.CMove, ID: id, At: at(x, y)} }

func set(id, which int, f api.Field) api.Command {
	return api.Command{Kind: api.CSet, ID: id, Which: which, Value: f}
}

func drop(id int) api.Command { return api.Command{Kind: api.CDrop, ID: id} }

// heap: n things from the number first on, all in the cell that begins at x, y.
func heap(first, n, x, y int) []api.Thing {
	var l []api.Thing
	for i := range n {
		l = append(l, made(first+i, x+i%16, y+i*7%16, text("heap")))
	}
	return l
}

// filled: a world of just these things, each put by a command.
func filled(t *testing.T, things ...api.Thing) *world.World {
	t.Helper()
	w := world.New()
	for _, x := range things {
		if n, e := w.Do(api.Command{Kind: api.CPut, At: x.At, F: x.F}, x.ID); n != x.ID || e != api.OK {
			t.Fatalf("Do, a CPut of %v: %d, %d", x, n, e)
		}
	}
	return w
}

// rising: l by the numbers of its things, l left as it is.
func rising(l []api.Thing) []api.Thing {
	return slices.SortedFunc(slices.Values(l), func(a, b api.Thing) int { return cmp.Compare(a.ID, b.ID) })
}

// within: those of l that are in r.
func within(l []api.Thing, r api.Rect) []api.Thing {
	return slices.DeleteFunc(slices.Clone(l), func(x api.Thing) bool {
		return x.At.X < r.X0 || x.At.X >= r.X1 || x.At.Y < r.Y0 || x.At.Y >= r.Y1
	})
}

// rects: of the map and not, with points and without.
var rects = []api.Rect{
	box(0, 0, 64, 64), box(0, 0, 16, 16), box(16, 0, 32, 64), box(5, 7, 6, 8), box(63, 63, 64, 64), box(15, 15, 17, 17), box(0, 0, 63, 63),
	box(-1000, -1000, 1000, 1000), box(-5, 3, 20, 90), box(math.MinInt, math.MinInt, math.MaxInt, math.MaxInt), box(40, math.MinInt, math.MaxInt, 40),
	{}, box(64, 0, 0, 64), box(0, 64, 64, 0), box(9, 9, 9, 20), box(9, 9, 20, 9), box(64, 64, 90, 90), box(-9, -9, 0, 0), box(math.MaxInt, math.MaxInt, math.MinInt, math.MinInt),
}

// wantAll holds what is in w against l, in all ways in which it is told.
func wantAll(t *testing.T, w *world.World, l []api.Thing) {
	t.Helper()
	l = rising(l)
	if got := w.All(); !slices.Equal(got, l) || w.Len() != len(l) {
		t.Fatalf("%d things: %v, not %v", w.Len(), got, l)
	}
	for _, r := range rects {
		if got, want := w.See(r), within(l, r); !slices.Equal(got, want) {
			t.Fatalf("See(%v): %v, not %v", r, got, want)
		}
	}
}

// wantRefused: what Do tells is e, and nothing is changed.
func wantRefused(t *testing.T, w *world.World, c api.Command, id int, e api.Errno) {
	t.Helper()
	l := w.All()
	for range 2 {
		if n, got := w.Do(c, id); n != 0 || got != e {
			t.Errorf("Do(%+v, %d): %d, %d, not 0, %d", c, id, n, got, e)
		}
		wantAll(t, w, l)
	}
}

// wantDone: Do tells n, and w is of l then.
func wantDone(t *testing.T, w *world.World, c api.Command, id, n int, l ...api.Thing) {
	t.Helper()
	if got, e := w.Do(c, id); got != n || e != api.OK {
		t.Errorf("Do(%+v, %d): %d, %d, not %d", c, id, got, e, n)
	}
	wantAll(t, w, l)
}

// far: numbers that are none of a thing's.
var far = []int{math.MinInt, -1 << 32, -1000001, -1, 1000001, 1 << 32, 1<<32 + 5, math.MaxInt}

// P12.1
func TestNew(t *testing.T) {
	w := world.New()
	wantAll(t, w, nil)
	wantRefused(t, w, move(0, 1, 1), 0, api.ErrID)
	wantRefused(t, w, set(0, 0, number(1)), 0, api.ErrID)
	wantRefused(t, w, drop(0), 0, api.ErrID)
	wantDone(t, w, put(1, 1), 3, 3, made(3, 1, 1))
	wantAll(t, world.New(), nil)
}

// P12.1: a world that was declared, not made, is one of nothing.
func TestDeclaredWorld(t *testing.T) {
	var w, v world.World
	wantAll(t, w.Copy(), nil)
	wantRefused(t, &w, move(0, 1, 1), 0, api.ErrID)
	wantRefused(t, &w, put(1, 1), -1, api.ErrForm)
	wantDone(t, &w, put(1, 1), 3, 3, made(3, 1, 1))
	wantAll(t, &v, nil)
}

// P12.1: the example of the chapter.
func TestPutAndDrop(t *testing.T) {
	w := world.New()
	wantDone(t, w, put(1, 1), 5, 5, made(5, 1, 1))
	wantDone(t, w, drop(5), 0, 5)
	wantRefused(t, w, drop(5), 0, api.ErrID)
	wantAll(t, world.Of([]api.Command{put(1, 1), drop(5)}, []int{5}), nil)
	wantAll(t, world.Of([]api.Command{put(1, 1), drop(0)}, nil), nil)
}

// P12.1: of a new thing, its number, place and fields are those that were told, be its cell full or not.
func TestDoPut(t *testing.T) {
	for _, l := range [][]api.Thing{nil, append(heap(10, 8, 0, 0), heap(30, 9, 48, 48)...)} {
		w := filled(t, l...)
		for _, x := range []api.Thing{
			made(0, 0, 0),
			made(1000000, 63, 63, text("twelve bytes"), number(math.MinInt64), number(math.MaxInt64), text("\x00")),
			made(999999, 63, 0, number(-1), api.Field{}, text("ääääää"), number(1)),
			made(1, 0, 63, api.Field{}, api.Field{}, api.Field{}, text("\xff\xfe")),
			made(7, 0, 0, number(3)),
			made(200, 63, 63),
		} {
			l = append(l, x)
			wantDone(t, w, api.Command{Kind: api.CPut, At: x.At, F: x.F, Client: 3, Session: 9}, x.ID, x.ID, l...)
		}
	}
}

// P12.1: a CMove, a CSet, a CDrop change what they name and nothing else; the id that is handed in counts for nothing.
func TestDoOfWhatIsThere(t *testing.T) {
	f := []api.Field{number(1), text("two"), number(-3), text("four")}
	other := append(heap(10, 8, 48, 48), made(0, 30, 30, text("other")))
	x := made(5, 30, 30, f...)
	w := filled(t, append(other, x)...)
	for i, p := range []api.Point{at(30, 30), at(31, 30), at(63, 63), at(48, 63), at(63, 63), at(0, 0), at(0, 63), at(63, 0)} {
		x.At = p
		wantDone(t, w, move(5, p.X, p.Y), far[i], 5, append(other, x)...)
	}
	for which := range api.Fields {
		for i, f := range []api.Field{number(7), text("north"), text("twelve bytes"), number(math.MinInt64), {}, {}, text("\x00"), number(math.MaxInt64)} {
			x.F[which] = f
			wantDone(t, w, set(5, which, f), far[i], 5, append(other, x)...)
		}
	}
	other[8].F[3] = number(9)
	wantDone(t, w, set(0, 3, number(9)), 5, 0, append(other, x)...)
	other[8].At = at(50, 50)
	wantDone(t, w, move(0, 50, 50), 5, 0, append(other, x)...)
	wantDone(t, w, drop(5), 0, 5, other...)
	wantDone(t, w, drop(0), 10, 0, other[:8]...)
}

// P12.1: what isn't about things, and what isn't a command, is told ahead of all else.
func TestIllFormed(t *testing.T) {
	for _, l := range [][]api.Thing{nil, heap(5, 8, 0, 0), heap(5, 200, 0, 0)} {
		w := filled(t, l...)
		for _, c := range []api.Command{
			{},
			{Kind: api.CHand}, {Kind: api.CHand, Which: 3, To: 1, Client: 2, Session: 9},
			{Kind: api.CJoin}, {Kind: api.CJoin, Rect: box(0, 0, 9, 9), Client: 1, Session: 1},
			{Kind: api.CTurn}, {Kind: api.CTurn, Rect: box(0, 0, 64, 64)},
			{Kind: api.CQuit}, {Kind: api.CQuit, Client: 3, Session: 1000000},
			{Kind: -1, ID: 5}, {Kind: 9, ID: 5}, {Kind: 1<<32 + api.CPut}, {Kind: math.MaxInt},
			{Kind: api.CPut, ID: 5}, {Kind: api.CPut, At: at(0, 0), Client: 4}, {Kind: api.CPut, At: at(64, 0), Session: -1}, {Kind: api.CPut, Session: 1000001},
			put(1001, 0), put(0, -1001), put(0, 0, text("thirteenbytes")), put(0, 0, number(0), api.Field{N: 1, Text: "a"}), put(math.MinInt, math.MaxInt),
			move(5, 1001, 0), move(5, 0, math.MinInt), move(-1, 0, 0), move(1000001, 0, 0), {Kind: api.CMove, ID: 5, Which: 1}, {Kind: api.CMove, ID: 5, To: -1},
			set(5, -2, number(1)), set(5, 101, number(1)), set(5, 0, text("thirteenbytes")), set(5, 0, api.Field{N: 1, Text: "a"}), set(-1, 0, number(1)), {Kind: api.CSet, ID: 5, At: at(0, 1)},
			drop(-1), drop(1000001), drop(math.MaxInt), {Kind: api.CDrop, ID: 5, Which: 1}, {Kind: api.CDrop, ID: 5, Rect: box(0, 0, 0, 1)}, {Kind: api.CDrop, ID: 5, Value: number(1)},
		} {
			wantRefused(t, w, c, 999, api.ErrForm)
		}
	}
}

// P12.1: at each edge of the map, in either direction, beyond it, and where it is no command's any more.
func TestPlaces(t *testing.T) {
	for _, c := range []struct {
		n int
		e api.Errno
	}{
		{0, api.OK}, {1, api.OK}, {15, api.OK}, {16, api.OK}, {62, api.OK}, {63, api.OK},
		{64, api.ErrPlace}, {-1, api.ErrPlace}, {-64, api.ErrPlace}, {1000, api.ErrPlace}, {-1000, api.ErrPlace},
		{1001, api.ErrForm}, {-1001, api.ErrForm}, {1 << 32, api.ErrForm}, {math.MinInt, api.ErrForm}, {math.MaxInt, api.ErrForm},
	} {
		for _, p := range []api.Point{at(c.n, 5), at(5, c.n), at(c.n, c.n), at(c.n, 63), at(0, c.n)} {
			w := filled(t, made(5, 1, 1))
			if c.e != api.OK {
				wantRefused(t, w, put(p.X, p.Y), 9, c.e)
				wantRefused(t, w, move(5, p.X, p.Y), 9, c.e)
				continue
			}
			wantDone(t, w, put(p.X, p.Y), 9, 9, made(5, 1, 1), made(9, p.X, p.Y))
			wantDone(t, w, move(5, p.X, p.Y), 9, 5, made(5, p.X, p.Y), made(9, p.X, p.Y))
		}
	}
}

// P12.1: the number of a new thing can be one, and isn't there yet, be its cell full or not.
func TestNumbersThatCannotBe(t *testing.T) {
	for _, n := range []int{0, 7, 8, 9, 40} {
		l := append(heap(10, n, 16, 16), made(0, 40, 40), made(5, 40, 40), made(1000000, 9, 9))
		w := filled(t, l...)
		for _, id := range append([]int{0, 5, 1000000, -5, -1000000}, far...) {
			for _, c := range []api.Command{put(16, 16), put(31, 31, text("here")), put(60, 60)} {
				wantRefused(t, w, c, id, api.ErrForm)
			}
			wantRefused(t, w, put(-1, 16), id, api.ErrPlace)
		}
		// What went may come again.
		l[n+1] = made(5, 16, 31)
		wantDone(t, w, drop(5), 0, 5, slices.Delete(slices.Clone(l), n+1, n+2)...)
		wantDone(t, w, put(16, 31), 5, 5, l...)
	}
}

// P12.1: in each cell, at each of its corners, there is room for as many as the world takes, by CPut as by CMove.
func TestNoCellIsFull(t *testing.T) {
	for cell := range 16 {
		x, y := cell%4*16, cell/4*16
		corners := []api.Point{at(x, y), at(x+15, y), at(x, y+15), at(x+15, y+15)}
		l := []api.Thing{made(500, (x+16)%64, y, text("comes"), number(1), text("from"), number(-1))}
		w := filled(t, l...)
		for i := range 199 {
			p := corners[i%4]
			if n, e := w.Do(put(p.X, p.Y, number(int64(i))), i); n != i || e != api.OK {
				t.Fatalf("cell %d: Do of thing %d: %d, %d", cell, i, n, e)
			}
			l = append(l, made(i, p.X, p.Y, number(int64(i))))
			if i > 10 && i < 198 {
				continue
			}
			wantAll(t, w, l)
			for _, p := range corners {
				l[0].At = p
				wantDone(t, w, move(500, p.X, p.Y), 0, 500, l...)
				l[0].At = at(x, (y+16)%64)
				wantDone(t, w, move(500, x, (y+16)%64), 0, 500, l...)
			}
		}
	}
}

// P12.1: 199 things take one more, wherever; 200 take none, wherever, but each of them may go on, into a full cell too.
func TestFullWorld(t *testing.T) {
	l := append(heap(10, 180, 48, 48), heap(300, 9, 0, 0)...)
	l = append(l, heap(400, 10, 32, 0)...)
	w := filled(t, l...)
	l = append(l, made(9, 50, 50, number(1)))
	wantDone(t, w, put(50, 50, number(1)), 9, 9, l...)
	for _, p := range []api.Point{at(50, 50), at(0, 0), at(0, 40), at(63, 0), at(63, 63)} {
		// So it is, whatever the number.
		for _, id := range append([]int{8, 9, 10, 0, 1000000}, far...) {
			wantRefused(t, w, put(p.X, p.Y), id, api.ErrFull)
		}
	}
	for _, id := range append([]int{8, 9}, far...) {
		wantRefused(t, w, put(64, 50), id, api.ErrPlace)
		wantRefused(t, w, put(0, -1), id, api.ErrPlace)
		wantRefused(t, w, put(50, 1001), id, api.ErrForm)
	}
	wantRefused(t, w, move(8, 50, 50), 9, api.ErrID)
	wantRefused(t, w, move(8, 64, 50), 9, api.ErrID)
	wantRefused(t, w, move(9, 64, 50), 9, api.ErrPlace)
	for _, p := range []api.Point{at(0, 15), at(32, 0), at(63, 48), at(20, 20), at(48, 48)} {
		l[199].At = p
		wantDone(t, w, move(9, p.X, p.Y), 8, 9, l...)
	}
	l[199].F[1] = text("b")
	wantDone(t, w, set(9, 1, text("b")), 8, 9, l...)
	wantRefused(t, w, set(9, 4, number(1)), 9, api.ErrField)
	wantDone(t, w, drop(9), 8, 9, l[:199]...)
	wantRefused(t, w, put(48, 48), 10, api.ErrForm)
	l[199] = made(0, 48, 48)
	wantDone(t, w, put(48, 48), 0, 0, l...)
	wantRefused(t, w, put(48, 48), 1, api.ErrFull)
}

// P12.1: where several reasons hold the first one is told, be there a full cell too.
func TestTheFirstReason(t *testing.T) {
	l := append(heap(0, 8, 0, 0), made(8, 20, 0))
	for _, c := range []struct {
		c  api.Command
		id int
		e  api.Errno
	}{
		{put(0, 64), 5, api.ErrPlace},
		{put(0, 64), -1, api.ErrPlace},
		{put(0, 0), 5, api.ErrForm},
		{move(9, 64, 0), 9, api.ErrID},
		{move(9, 0, 0), 9, api.ErrID},
		{move(8, 0, 64), 9, api.ErrPlace},
		{set(9, 4, number(1)), 9, api.ErrID},
		{set(9, 0, number(1)), 9, api.ErrID},
		{set(8, 4, number(1)), 9, api.ErrField},
		{set(8, -1, number(1)), 9, api.ErrField},
		{set(3, 100, number(1)), 9, api.ErrField},
		{drop(9), 8, api.ErrID},
	} {
		wantRefused(t, filled(t, l...), c.c, c.id, c.e)
	}
}

// P12.1: who asks, and in which session, makes no difference.
func TestWhoAsksIsNoReason(t *testing.T) {
	l := append(heap(10, 8, 0, 0), made(5, 30, 30))
	for _, c := range []api.Command{put(3, 3), put(40, 40), move(5, 3, 3), set(5, 0, number(1)), drop(5), put(64, 3), move(6, 3, 3), set(5, 4, number(1))} {
		want := filled(t, l...)
		n, e := want.Do(c, 8)
		for _, who := range [][2]int{{0, 1}, {1, 0}, {3, 1000000}} {
			w := filled(t, l...)
			c.Client, c.Session = who[0], who[1]
			if gn, ge := w.Do(c, 8); gn != n || ge != e {
				t.Errorf("Do(%+v): %d, %d, not %d, %d", c, gn, ge, n, e)
			}
			wantAll(t, w, want.All())
		}
	}
}

// P12.1: what was answered is the asker's own: what is done to it isn't done to the world, nor to another answer.
func TestAnswersAreNew(t *testing.T) {
	l := rising(append(heap(10, 9, 0, 0), made(5, 30, 30, text("a"))))
	w := filled(t, l...)
	for _, ask := range []func() []api.Thing{w.All, func() []api.Thing { return w.See(box(0, 0, 64, 64)) }} {
		kept := ask()
		for range 2 {
			got := ask()
			for i := range got[:cap(got)] {
				got[:cap(got)][i] = made(77, 7, 7)
			}
			wantAll(t, w, l)
		}
		w.Do(set(5, 0, text("b")), 0)
		w.Do(move(5, 0, 0), 0)
		if !slices.Equal(kept, l) {
			t.Errorf("%v, not %v", kept, l)
		}
		w.Do(move(5, 30, 30), 0)
		w.Do(set(5, 0, text("a")), 0)
	}
}

// P12.1: a copy is alike, and apart from then on, either way.
func TestCopy(t *testing.T) {
	for _, l := range [][]api.Thing{nil, {made(5, 1, 1)}, append(heap(10, 9, 0, 0), made(5, 40, 1)), append(heap(10, 199, 0, 0), made(5, 40, 1))} {
		w := filled(t, l...)
		c := w.Copy()
		wantAll(t, c, l)
		// What is asked for of both now is done by each for itself.
		for _, asked := range []api.Command{put(1, 1, number(2)), move(5, 2, 2), set(5, 0, number(1)), drop(5), drop(12), put(0, 9)} {
			a, b := w.Copy(), w.Copy()
			an, ae := a.Do(asked, 3)
			wantAll(t, w, l)
			wantAll(t, b, l)
			bn, be := b.Do(asked, 3)
			if an != bn || ae != be {
				t.Errorf("Do(%+v): %d, %d, and of a copy %d, %d", asked, an, ae, bn, be)
			}
			wantAll(t, b, a.All())
			w.Do(asked, 3)
			wantAll(t, c, l)
			w = c.Copy()
		}
	}
}

// P12.1: each command has the number at its place, or 0; what errs is passed over, and has its number alone.
func TestOf(t *testing.T) {
	for i, c := range []struct {
		l    []api.Command
		ids  []int
		want []api.Thing
	}{
		{nil, nil, nil},
		{nil, []int{5, 6}, nil},
		{[]api.Command{}, []int{}, nil},
		{[]api.Command{put(1, 1)}, nil, []api.Thing{made(0, 1, 1)}},
		{[]api.Command{put(1, 1)}, []int{}, []api.Thing{made(0, 1, 1)}},
		{[]api.Command{put(1, 1)}, []int{5}, []api.Thing{made(5, 1, 1)}},
		{[]api.Command{put(1, 1)}, []int{5, 6, 7}, []api.Thing{made(5, 1, 1)}},
		{[]api.Command{put(1, 1), put(2, 2)}, []int{5}, []api.Thing{made(5, 1, 1), made(0, 2, 2)}},
		{[]api.Command{put(1, 1), put(2, 2), put(3, 3)}, []int{5}, []api.Thing{made(5, 1, 1), made(0, 2, 2)}},
		{[]api.Command{put(1, 1), put(2, 2), put(3, 3)}, []int{5, 5, 4}, []api.Thing{made(5, 1, 1), made(4, 3, 3)}},
		{[]api.Command{put(1, 1), put(2, 2), put(3, 3)}, []int{-1, 1000001, 1000000}, []api.Thing{made(1000000, 3, 3)}},
		{[]api.Command{put(64, 1), {Kind: api.CJoin}, {}, put(3, 3), drop(9)}, []int{1, 2, 3, 4, 5}, []api.Thing{made(4, 3, 3)}},
		{[]api.Command{put(1, 1), move(5, 2, 2), set(5, 1, text("a"))}, []int{5, 6, 7}, []api.Thing{made(5, 2, 2, api.Field{}, text("a"))}},
		{[]api.Command{move(5, 2, 2), put(1, 1)}, []int{5, 5}, []api.Thing{made(5, 1, 1)}},
		{[]api.Command{put(1, 1), drop(5), put(2, 2)}, []int{5, 0, 5}, []api.Thing{made(5, 2, 2)}},
		{[]api.Command{put(1, 1), move(5, 2, 2), move(5, 3, 3)}, []int{5}, []api.Thing{made(5, 3, 3)}},
	} {
		t.Log("row", i)
		wantAll(t, world.Of(c.l, c.ids), c.want)
	}
}

// P12.1: as many as there may be, all in one cell, and none of those behind them.
func TestOfMany(t *testing.T) {
	var l []api.Command
	var ids []int
	for i := range 220 {
		l, ids = append(l, put(33, 17, number(int64(i)))), append(ids, 2*i)
	}
	l, ids = append(l, drop(0), put(34, 17), put(35, 17), move(2, 36, 17)), append(ids, 9, 8, 7, 6)
	w := world.Of(l, ids)
	var want []api.Thing
	for i := 1; i < 200; i++ {
		want = append(want, made(2*i, 33, 17, number(int64(i))))
	}
	want[0].At = at(36, 17)
	// The number 8 is there, so that the first CPut behind the CDrop is passed over.
	wantAll(t, w, append(want, made(7, 35, 17)))
}

// P12.1: what is handed in is neither changed nor kept, the room behind it included; what comes of it goes on as any world.
func TestOfLeavesItsLists(t *testing.T) {
	var room [12]api.Command
	var places [12]int
	for i := range room {
		room[i], places[i] = put(5, 5, number(int64(i)), text("room")), 20+i
	}
	room[3], room[4] = drop(20), put(64, 5)
	for i := range room {
		room[i].Client, room[i].Session = i%4, i
	}
	wasRoom, wasPlaces := room, places
	l, ids := room[:10], places[:7]
	w := world.Of(l, ids)
	if room != wasRoom || places != wasPlaces {
		t.Errorf("%v, %v", room, places)
	}
	was := w.All()
	clear(room[:])
	clear(places[:])
	wantAll(t, w, was)
	wantAll(t, world.Of(nil, nil), nil)
	wantDone(t, w, put(5, 5), 40, 40, append(was, made(40, 5, 5))...)
}

// plain: what a world should hold, and what should be answered and done by the promises' words.
type plain map[int]api.Thing

// refuses is the first reason against c.
func (l plain) refuses(c api.Command, id int) api.Errno {
	_, there := l[c.ID]
	_, taken := l[id]
	on := 0 <= c.At.X && c.At.X < 64 && 0 <= c.At.Y && c.At.Y < 64
	about := c.Kind == api.CMove || c.Kind == api.CSet || c.Kind == api.CDrop
	switch {
	case !cmd.Is(c) || !about && c.Kind != api.CPut:
		return api.ErrForm
	case about && !there:
		return api.ErrID
	case (c.Kind == api.CPut || c.Kind == api.CMove) && !on:
		return api.ErrPlace
	case c.Kind == api.CPut && len(l) >= 200:
		return api.ErrFull
	case c.Kind == api.CSet && (c.Which < 0 || c.Which > 3):
		return api.ErrField
	case c.Kind == api.CPut && (taken || id < 0 || id > 1000000):
		return api.ErrForm
	}
	return api.OK
}

func (l plain) do(c api.Command, id int) (int, api.Errno) {
	if e := l.refuses(c, id); e != api.OK {
		return 0, e
	}
	x := l[c.ID]
	switch c.Kind {
	case api.CPut:
		x = api.Thing{ID: id, At: c.At, F: c.F}
	case api.CMove:
		x.At = c.At
	case api.CSet:
		x.F[c.Which] = c.Value
	}
	l[x.ID] = x
	if c.Kind == api.CDrop {
		delete(l, x.ID)
	}
	return x.ID, api.OK
}

func (l plain) all() []api.Thing {
	var all []api.Thing
	for _, x := range l {
		all = append(all, x)
	}
	return all
}

// asked: a command about one of most numbers, most often one that can be done, most places in the first wide points of the map.
func asked(r *rand.Rand, most, wide int) api.Command {
	fields := []api.Field{{}, number(r.Int63() - r.Int63()), text("north"), text(strings.Repeat("a", r.Intn(13)))}
	if r.Intn(20) == 0 {
		fields[2] = []api.Field{text("thirteenbytes"), {N: 1, Text: "a"}}[r.Intn(2)]
	}
	field := func() api.Field { return fields[r.Intn(len(fields))] }
	p := at(r.Intn(wide), r.Intn(wide))
	if r.Intn(5) == 0 {
		p = at(r.Intn(68)-2, r.Intn(68)-2)
	}
	var c api.Command
	switch r.Intn(10) {
	case 0, 1, 2, 3:
		c = put(p.X, p.Y, field(), field(), field(), field())
	case 4, 5, 6:
		c = move(r.Intn(most), p.X, p.Y)
	case 7:
		c = set(r.Intn(most), r.Intn(6)-1, field())
	case 8:
		c = drop(r.Intn(most))
	default:
		c = api.Command{Kind: r.Intn(11) - 1, ID: r.Intn(most)}
	}
	c.Client, c.Session = r.Intn(4), r.Intn(3)
	return c
}

// P12.1, P12.2: whatever was done ahead, one by one or at once, Do and what it comes to are as the promises' words.
func TestAgainstAPlainMap(t *testing.T) {
	told := map[api.Errno]int{}
	for seed := range int64(30) {
		r := rand.New(rand.NewSource(1200 + seed))
		w, l := world.New(), plain{}
		var all []api.Command
		var ids []int
		most, wide := 20+r.Intn(400), 16<<r.Intn(3)
		for step := range 1200 {
			c, id := asked(r, most, wide), r.Intn(most+4)-2
			if r.Intn(40) == 0 {
				id = far[r.Intn(len(far))]
			}
			all, ids = append(all, c), append(ids, id)
			n, e := l.do(c, id)
			if gn, ge := w.Do(c, id); gn != n || ge != e {
				t.Fatalf("seed %d, step %d: Do(%+v, %d): %d, %d, not %d, %d", seed, step, c, id, gn, ge, n, e)
			}
			told[e]++
			if step%50 == 0 {
				wantAll(t, w, l.all())
				w = w.Copy()
			}
		}
		wantAll(t, w, l.all())
		wantAll(t, world.Of(all, ids), l.all())
	}
	for _, e := range []api.Errno{api.OK, api.ErrForm, api.ErrPlace, api.ErrID, api.ErrFull, api.ErrField} {
		if told[e] < 100 {
			t.Errorf("error %d came %d times", e, told[e])
		}
	}
}

// P12.1: where act finds nothing full, the world does just what act does.
func TestAsAct(t *testing.T) {
	full := 0
	for seed := range int64(10) {
		r := rand.New(rand.NewSource(1250 + seed))
		w, q := world.New(), table.New()
		for range 600 {
			c, id := asked(r, 90, 64), r.Intn(90)
			n, e := act.Do(q.Copy(), c, id)
			if e == api.ErrFull {
				full++
				continue
			}
			act.Do(q, c, id)
			if gn, ge := w.Do(c, id); gn != n || ge != e {
				t.Fatalf("Do(%+v, %d): %d, %d, not %d, %d", c, id, gn, ge, n, e)
			}
		}
		wantAll(t, w, q.All())
	}
	if full == 0 {
		t.Error("no cell was full")
	}
}

// P12.1: a world that was refused much does what comes then as one that was refused nothing.
func TestWhatIsRefusedIsForgotten(t *testing.T) {
	r := rand.New(rand.NewSource(1290))
	vexed, calm := world.New(), world.New()
	var done []api.Command
	var ids []int
	for range 3000 {
		c, id := asked(r, 300, 32), r.Intn(300)
		n, e := vexed.Do(c, id)
		if e != api.OK {
			continue
		}
		done, ids = append(done, c), append(ids, id)
		if gn, ge := calm.Do(c, id); gn != n || ge != e {
			t.Fatalf("Do(%+v, %d): %d, %d, not %d, %d", c, id, gn, ge, n, e)
		}
	}
	if vexed.Len() < 10 {
		t.Fatalf("%d things", vexed.Len())
	}
	wantAll(t, vexed, calm.All())
	wantAll(t, vexed, world.Of(done, ids).All())
}

// part: the server whose cell p is in, a column of cells each.
func part(p api.Point) int { return p.X / 16 }

// P12.2: four that share the map, each with a table of its own and no look at the others' cells, hand things over as they move; all together come to the world of what they accepted, cells with more than eight in them included.
func TestWhatAllMustComeTo(t *testing.T) {
	crowd := 0
	for seed := range int64(20) {
		r := rand.New(rand.NewSource(1270 + seed))
		var q [4]*table.Table
		for i := range q {
			q[i] = table.New()
		}
		var done []api.Command
		var ids []int
		for step := range 500 {
			c := put(r.Intn(64), r.Intn(64), number(int64(step)))
			who := part(c.At)
			for s := range q {
				if l := q[s].All(); len(l) > 0 && r.Intn(4) == 0 {
					x := l[r.Intn(len(l))].ID
					who = s
					c = []api.Command{move(x, r.Intn(64), r.Intn(24)), move(x, r.Intn(20), r.Intn(20)), set(x, r.Intn(4), text("set")), drop(x)}[r.Intn(4)]
				}
			}
			n, e := act.Do(q[who], c, thing.Number(who, step))
			if e != api.OK {
				continue
			}
			done, ids = append(done, c), append(ids, n)
			if x, ok := q[who].Get(n); ok && part(x.At) != who {
				q[who].Drop(n)
				if e := q[part(x.At)].Put(x); e != api.OK {
					t.Fatalf("seed %d, step %d: Put(%v): %d", seed, step, x, e)
				}
			}
		}
		var all []api.Thing
		for _, q := range q {
			all = append(all, q.All()...)
			for cell := range 16 {
				crowd = max(crowd, len(q.Cell(cell)))
			}
		}
		wantAll(t, world.Of(done, ids), all)
	}
	if crowd <= 8 {
		t.Errorf("%d things in a cell at most", crowd)
	}
}
