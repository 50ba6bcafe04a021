package quad_test

import (
	"math"
	"math/rand"
	"slices"
	"testing"

	"vedette/api"
	"vedette/quad"
)

func at(x, y int) api.Point { return api.Point{X: x, Y: y} }

func box(x0, y0, x1, y1 int) api.Rect { return api.Rect{X0: x0, Y0: y0, X1: x1, Y1: y1} }

// whole: the map.
func whole() api.Rect { return box(0, 0, 64, 64) }

// one: a thing and where it is.
type one struct {
	id int
	p  api.Point
}

// plain: what a tree should hold, as a list in whichever order, and what it should answer by the promises' words.
type plain []one

func (l plain) find(id int) int {
	return slices.IndexFunc(l, func(o one) bool { return o.id == id })
}

func (l *plain) put(id int, p api.Point) api.Errno {
	switch {
	case id < 0:
		return api.ErrForm
	case p.X < 0 || p.X > 63 || p.Y < 0 || p.Y > 63:
		return api.ErrPlace
	case l.find(id) >= 0:
		return api.ErrForm
	case len(*l) == 200:
		return api.ErrFull
	}
	*l = append(*l, one{id, p})
	return api.OK
}

func (l *plain) move(id int, p api.Point) api.Errno {
	switch {
	case l.find(id) < 0:
		return api.ErrID
	case p.X < 0 || p.X > 63 || p.Y < 0 || p.Y > 63:
		return api.ErrPlace
	}
	(*l)[l.find(id)].p = p
	return api.OK
}

func (l *plain) drop(id int) api.Errno {
	i := l.find(id)
	if i < 0 {
		return api.ErrID
	}
	*l = slices.Delete(*l, i, i+1)
	return api.OK
}

func (l plain) in(r api.Rect) []int {
	var ids []int
	for _, o := range l {
		if r.X0 <= o.p.X && o.p.X < r.X1 && r.Y0 <= o.p.Y && o.p.Y < r.Y1 {
			ids = append(ids, o.id)
		}
	}
	slices.Sort(ids)
	return ids
}

// depth: a level of squares is there, if in one of the level above there are more than four.
func (l plain) depth() int {
	for d := range 4 {
		side := 64 >> d
		in := map[api.Point]int{}
		most := 0
		for _, o := range l {
			square := at(o.p.X/side, o.p.Y/side)
			in[square]++
			most = max(most, in[square])
		}
		if most <= 4 {
			return d
		}
	}
	return 4
}

// check holds all that q answers against l.
func check(t *testing.T, q *quad.Tree, l plain) {
	t.Helper()
	if got := q.Len(); got != len(l) {
		t.Fatalf("Len: %d, not %d", got, len(l))
	}
	if got, want := q.Depth(), l.depth(); got != want {
		t.Fatalf("Depth: %d, not %d, of %v", got, want, l)
	}
	for _, o := range l {
		if p, ok := q.At(o.id); p != o.p || !ok {
			t.Fatalf("At(%d): %v, %v, not %v", o.id, p, ok, o.p)
		}
	}
	if got, want := q.In(whole()), l.in(whole()); !slices.Equal(got, want) {
		t.Fatalf("In the map: %v, not %v", got, want)
	}
	for y := 0; y < 64; y += 16 {
		for x := 0; x < 64; x += 16 {
			r := box(x, y, x+16, y+16)
			if got, want := q.In(r), l.in(r); !slices.Equal(got, want) {
				t.Fatalf("In(%v): %v, not %v", r, got, want)
			}
		}
	}
}

// filled: a tree and the list of just its things, put in this order.
func filled(t *testing.T, things ...one) (*quad.Tree, plain) {
	t.Helper()
	q := quad.New()
	for _, o := range things {
		if e := q.Put(o.id, o.p); e != api.OK {
			t.Fatalf("Put(%d, %v): %d", o.id, o.p, e)
		}
	}
	return q, slices.Clone(things)
}

// crowd: n things from the number first on, dealt over the map.
func crowd(first, n int) []one {
	var l []one
	for i := range n {
		l = append(l, one{first + i, at(i*37%64, i*23%61)})
	}
	return l
}

// off: points that aren't on the map, among them those whose lower bits are those of a point that is.
func off() []api.Point {
	var l []api.Point
	far := []int{math.MinInt, math.MinInt + 5, -1 << 32, -1 << 16, 5 - 1<<16, -64, -59, -1, 64, 65, 69, 128, 256, 1 << 16, 1<<16 + 5, 1<<32 + 5, math.MaxInt}
	for _, n := range far {
		l = append(l, at(n, 5), at(5, n), at(n, 0), at(63, n), at(n, n))
	}
	return l
}

// P8.1
func TestNewIsNothing(t *testing.T) {
	q := quad.New()
	if q.Len() != 0 || q.Depth() != 0 {
		t.Errorf("%d things, depth %d", q.Len(), q.Depth())
	}
	if got := q.In(whole()); len(got) != 0 {
		t.Errorf("In the map: %v", got)
	}
	for _, id := range []int{math.MinInt, -1, 0, 1, 200, math.MaxInt} {
		if p, ok := q.At(id); p != at(0, 0) || ok {
			t.Errorf("At(%d): %v, %v", id, p, ok)
		}
		if e := q.Drop(id); e != api.ErrID {
			t.Errorf("Drop(%d): %d", id, e)
		}
		if e := q.Move(id, at(1, 1)); e != api.ErrID {
			t.Errorf("Move(%d): %d", id, e)
		}
	}
}

// P8.1: one tree isn't touched by what is done with another.
func TestTreesAreApart(t *testing.T) {
	a, b := quad.New(), quad.New()
	a.Put(1, at(2, 3))
	check(t, b, nil)
	if e := b.Put(1, at(4, 5)); e != api.OK {
		t.Errorf("Put: %d", e)
	}
	a.Drop(1)
	check(t, a, nil)
	check(t, b, plain{{1, at(4, 5)}})
}

// P8.1: the error that is named first is answered, and nothing is changed by it.
func TestPutErrors(t *testing.T) {
	q, l := filled(t, one{5, at(1, 1)}, one{0, at(63, 63)}, one{math.MaxInt, at(0, 63)})
	for _, c := range []struct {
		id   int
		p    api.Point
		want api.Errno
	}{
		{-1, at(1, 1), api.ErrForm},
		{math.MinInt, at(1, 1), api.ErrForm},
		{-5, at(1, 1), api.ErrForm},
		{-1, at(64, 1), api.ErrForm},
		{5, at(64, 1), api.ErrPlace},
		{5, at(1, -1), api.ErrPlace},
		{6, at(1, 64), api.ErrPlace},
		{5, at(1, 1), api.ErrForm},
		{5, at(2, 2), api.ErrForm},
		{0, at(2, 2), api.ErrForm},
		{math.MaxInt, at(2, 2), api.ErrForm},
	} {
		if got := q.Put(c.id, c.p); got != c.want {
			t.Errorf("Put(%d, %v): %d, not %d", c.id, c.p, got, c.want)
		}
		check(t, q, l)
	}
}

// P8.1: a point that isn't on the map is refused, in whichever direction it is off.
func TestOffTheMap(t *testing.T) {
	q, l := filled(t, one{7, at(5, 5)})
	for _, p := range off() {
		if e := q.Put(8, p); e != api.ErrPlace {
			t.Errorf("Put at %v: %d", p, e)
		}
		if e := q.Move(7, p); e != api.ErrPlace {
			t.Errorf("Move to %v: %d", p, e)
		}
		if e := q.Move(8, p); e != api.ErrID {
			t.Errorf("Move of nobody to %v: %d", p, e)
		}
	}
	check(t, q, l)
}

// P8.1: two hundred are taken, one more isn't; what else is wrong with it is told first.
func TestFull(t *testing.T) {
	q, l := filled(t, crowd(10, 199)...)
	if e := q.Put(9, at(63, 0)); e != api.OK {
		t.Fatalf("the last one: %d", e)
	}
	l = append(l, one{9, at(63, 0)})
	check(t, q, l)
	for _, c := range []struct {
		id   int
		p    api.Point
		want api.Errno
	}{
		{8, at(1, 1), api.ErrFull},
		{math.MaxInt, at(63, 63), api.ErrFull},
		{-1, at(1, 1), api.ErrForm},
		{8, at(64, 1), api.ErrPlace},
		{9, at(1, 64), api.ErrPlace},
		{9, at(1, 1), api.ErrForm},
		{10, at(1, 1), api.ErrForm},
	} {
		if got := q.Put(c.id, c.p); got != c.want {
			t.Errorf("Put(%d, %v): %d, not %d", c.id, c.p, got, c.want)
		}
		check(t, q, l)
	}
	if e := q.Move(9, at(0, 0)); e != api.OK {
		t.Errorf("Move in a full tree: %d", e)
	}
	if e := q.Drop(10); e != api.OK {
		t.Errorf("Drop in a full tree: %d", e)
	}
	if e := q.Put(8, at(1, 1)); e != api.OK {
		t.Errorf("Put where one went: %d", e)
	}
	if e := q.Put(10, at(1, 1)); e != api.ErrFull {
		t.Errorf("Put into what is full again: %d", e)
	}
	l.move(9, at(0, 0))
	l.drop(10)
	l.put(8, at(1, 1))
	check(t, q, l)
}

// P8.1
func TestMoveRows(t *testing.T) {
	q, l := filled(t, one{5, at(1, 1)}, one{6, at(1, 1)}, one{7, at(62, 63)}, one{0, at(0, 0)})
	for _, c := range []struct {
		id   int
		p    api.Point
		want api.Errno
	}{
		{4, at(2, 2), api.ErrID},
		{-5, at(2, 2), api.ErrID},
		{-1, at(64, 64), api.ErrID},
		{math.MinInt, at(2, 2), api.ErrID},
		{math.MaxInt, at(99, 0), api.ErrID},
		{5, at(99, 0), api.ErrPlace},
		{5, at(0, -1), api.ErrPlace},
		{5, at(1, 1), api.OK},
		{5, at(62, 63), api.OK},
		{6, at(63, 0), api.OK},
		{7, at(0, 63), api.OK},
		{0, at(63, 63), api.OK},
		{0, at(0, 0), api.OK},
		{5, at(0, 0), api.OK},
	} {
		got := q.Move(c.id, c.p)
		if got != c.want {
			t.Errorf("Move(%d, %v): %d, not %d", c.id, c.p, got, c.want)
		}
		if got == api.OK {
			l.move(c.id, c.p)
		}
		check(t, q, l)
	}
}

// P8.1: just the one that is named goes, also of several at one point; it may come again.
func TestDropRows(t *testing.T) {
	q, l := filled(t, one{3, at(9, 9)}, one{1, at(9, 9)}, one{2, at(9, 9)}, one{0, at(0, 0)})
	for _, c := range []struct {
		id   int
		want api.Errno
	}{
		{4, api.ErrID},
		{-1, api.ErrID},
		{math.MinInt, api.ErrID},
		{math.MaxInt, api.ErrID},
		{1, api.OK},
		{1, api.ErrID},
		{3, api.OK},
		{0, api.OK},
		{0, api.ErrID},
		{2, api.OK},
		{2, api.ErrID},
	} {
		got := q.Drop(c.id)
		if got != c.want {
			t.Errorf("Drop(%d): %d, not %d", c.id, got, c.want)
		}
		if got == api.OK {
			l.drop(c.id)
			if p, ok := q.At(c.id); p != at(0, 0) || ok {
				t.Errorf("At(%d) behind Drop: %v, %v", c.id, p, ok)
			}
		}
		check(t, q, l)
	}
	if e := q.Put(1, at(8, 7)); e != api.OK {
		t.Errorf("Put again: %d", e)
	}
	check(t, q, plain{{1, at(8, 7)}})
}

// P8.1
func TestAtEachPoint(t *testing.T) {
	q := quad.New()
	q.Put(3, at(0, 0))
	for y := range 64 {
		for x := range 64 {
			p := at(x, y)
			if e := q.Move(3, p); e != api.OK {
				t.Fatalf("Move to %v: %d", p, e)
			}
			if got, ok := q.At(3); got != p || !ok {
				t.Fatalf("At: %v, %v, not %v", got, ok, p)
			}
			if got := q.In(box(x, y, x+1, y+1)); !slices.Equal(got, []int{3}) {
				t.Fatalf("In %v alone: %v", p, got)
			}
		}
	}
	for _, id := range []int{math.MinInt, -3, -1, 0, 2, 4, 3 + 1<<32, math.MaxInt} {
		if p, ok := q.At(id); p != at(0, 0) || ok {
			t.Errorf("At(%d): %v, %v", id, p, ok)
		}
	}
}

// P8.1
func TestInRows(t *testing.T) {
	q, _ := filled(t,
		one{8, at(0, 0)}, one{1, at(63, 63)}, one{7, at(63, 0)}, one{2, at(0, 63)},
		one{6, at(10, 20)}, one{3, at(10, 20)}, one{9, at(31, 31)}, one{4, at(32, 32)}, one{5, at(32, 31)})
	all := []int{1, 2, 3, 4, 5, 6, 7, 8, 9}
	for _, c := range []struct {
		r    api.Rect
		want []int
	}{
		{whole(), all},
		{box(math.MinInt, math.MinInt, math.MaxInt, math.MaxInt), all},
		{box(-5, -5, 70, 70), all},
		{box(0, 0, 63, 64), []int{2, 3, 4, 5, 6, 8, 9}},
		{box(0, 0, 64, 63), []int{3, 4, 5, 6, 7, 8, 9}},
		{box(1, 0, 64, 64), []int{1, 3, 4, 5, 6, 7, 9}},
		{box(0, 1, 64, 64), []int{1, 2, 3, 4, 5, 6, 9}},
		{box(10, 20, 11, 21), []int{3, 6}},
		{box(10, 20, 10, 21), nil},
		{box(10, 20, 11, 20), nil},
		{box(9, 19, 10, 20), nil},
		{box(11, 21, 12, 22), nil},
		{box(31, 31, 33, 33), []int{4, 5, 9}},
		{box(32, 31, 33, 33), []int{4, 5}},
		{box(31, 31, 33, 32), []int{5, 9}},
		{box(31, 32, 33, 33), []int{4}},
		{box(0, 0, 32, 32), []int{3, 6, 8, 9}},
		{box(32, 32, 64, 64), []int{1, 4}},
		{box(63, 63, math.MaxInt, math.MaxInt), []int{1}},
		{box(math.MinInt, math.MinInt, 1, 1), []int{8}},
		{box(math.MinInt, math.MinInt, 0, 0), nil},
		{box(64, 0, 99, 64), nil},
		{box(0, 64, 64, 99), nil},
		{box(-9, 0, 0, 64), nil},
		{box(0, -9, 64, 0), nil},
		{box(64, 64, 0, 0), nil},
		{box(64, 0, 0, 64), nil},
		{box(0, 64, 64, 0), nil},
		{box(math.MaxInt, math.MaxInt, math.MinInt, math.MinInt), nil},
		{api.Rect{}, nil},
	} {
		if got := q.In(c.r); !slices.Equal(got, c.want) {
			t.Errorf("In(%v): %v, not %v", c.r, got, c.want)
		}
	}
}

// P8.1: what is done with one answer is not seen in another or in the tree, the spare room of both included.
func TestInIsNew(t *testing.T) {
	q, l := filled(t, crowd(0, 21)...)
	want := l.in(whole())
	first, second := q.In(whole()), q.In(whole())
	first = first[:cap(first)]
	for i := range first {
		first[i] = -7
	}
	if !slices.Equal(second, want) {
		t.Errorf("the other answer: %v", second)
	}
	if slices.Contains(second[:cap(second)], -7) {
		t.Errorf("the other answer's spare room: %v", second[:cap(second)])
	}
	check(t, q, l)
}

// P8.1: a copy is alike, and neither is touched by what is done with the other.
func TestCopyIsApart(t *testing.T) {
	for n := range 40 {
		q, l := filled(t, crowd(100, n)...)
		c := q.Copy()
		check(t, c, l)
		mine, other := slices.Clone(l), slices.Clone(l)
		for i := range 5 {
			q.Put(i, at(i, 1))
			mine.put(i, at(i, 1))
			c.Put(i, at(63, i))
			other.put(i, at(63, i))
			check(t, q, mine)
			check(t, c, other)
		}
		for i := range n {
			q.Move(100+i, at(i, 63-i))
			mine.move(100+i, at(i, 63-i))
			c.Drop(100 + n - 1 - i)
			other.drop(100 + n - 1 - i)
			check(t, q, mine)
			check(t, c, other)
		}
		q.Drop(3)
		mine.drop(3)
		check(t, q, mine)
		check(t, c, other)
	}
}

// P8.1: copies of one tree are apart, behind things that went too.
func TestCopiesAreApart(t *testing.T) {
	q, l := filled(t, crowd(100, 30)...)
	for i := range 20 {
		q.Drop(100 + i)
		l.drop(100 + i)
	}
	a, b := q.Copy(), q.Copy()
	c := a.Copy()
	a.Put(1, at(0, 0))
	b.Put(2, at(0, 0))
	c.Put(3, at(63, 63))
	check(t, q, l)
	check(t, a, append(slices.Clone(l), one{1, at(0, 0)}))
	check(t, b, append(slices.Clone(l), one{2, at(0, 0)}))
	check(t, c, append(slices.Clone(l), one{3, at(63, 63)}))
}

// P8.1: a copy is full where its tree is.
func TestCopyOfAFullTree(t *testing.T) {
	q, l := filled(t, crowd(0, 200)...)
	c := q.Copy()
	if e := c.Put(200, at(1, 1)); e != api.ErrFull {
		t.Errorf("Put: %d", e)
	}
	check(t, c, l)
}

// P8.2
func TestDepthRows(t *testing.T) {
	for _, c := range []struct {
		l    []api.Point
		want int
	}{
		{nil, 0},
		{[]api.Point{at(20, 20), at(20, 20), at(20, 20), at(20, 20)}, 0},
		{[]api.Point{at(20, 20), at(20, 20), at(20, 20), at(20, 20), at(20, 20)}, 4},
		{[]api.Point{at(63, 63), at(63, 63), at(63, 63), at(63, 63), at(63, 63), at(63, 63)}, 4},
		{[]api.Point{at(0, 0), at(63, 0), at(0, 63), at(63, 63), at(32, 32)}, 1},
		{[]api.Point{at(31, 31), at(31, 31), at(31, 31), at(31, 31), at(32, 31)}, 1},
		{[]api.Point{at(31, 31), at(31, 31), at(31, 31), at(31, 31), at(31, 32)}, 1},
		{[]api.Point{at(15, 15), at(15, 15), at(15, 15), at(15, 15), at(16, 15)}, 2},
		{[]api.Point{at(47, 40), at(47, 40), at(47, 40), at(47, 40), at(48, 40)}, 2},
		{[]api.Point{at(7, 7), at(7, 7), at(7, 7), at(7, 7), at(7, 8)}, 3},
		{[]api.Point{at(56, 3), at(56, 3), at(56, 3), at(56, 3), at(55, 3)}, 3},
		{[]api.Point{at(3, 3), at(3, 3), at(3, 3), at(3, 3), at(4, 3)}, 4},
		{[]api.Point{at(0, 0), at(1, 1), at(2, 2), at(3, 3), at(0, 3)}, 4},
	} {
		q := quad.New()
		for i, p := range c.l {
			q.Put(i, p)
		}
		if got := q.Depth(); got != c.want {
			t.Errorf("%v: %d, not %d", c.l, got, c.want)
		}
	}
}

// P8.2: four at one point and one at another: split until they are in different squares, or the squares are of depth 4.
func TestDepthByWhereTheFifthIs(t *testing.T) {
	for _, p := range []api.Point{at(0, 0), at(63, 63), at(31, 32), at(20, 43), at(52, 7)} {
		q := quad.New()
		for i := range 4 {
			q.Put(i, p)
		}
		q.Put(4, p)
		for y := range 64 {
			for x := range 64 {
				q.Move(4, at(x, y))
				want := 1
				for want < 4 && x*(1<<want)/64 == p.X*(1<<want)/64 && y*(1<<want)/64 == p.Y*(1<<want)/64 {
					want++
				}
				if got := q.Depth(); got != want {
					t.Fatalf("four at %v, one at %d, %d: %d, not %d", p, x, y, got, want)
				}
			}
		}
	}
}

// P8.2: one square of many is enough, wherever it lies, and all are looked at.
func TestDepthOfTheDeepest(t *testing.T) {
	for y := 0; y < 64; y += 4 {
		for x := 0; x < 64; x += 4 {
			q := quad.New()
			for i, p := range []api.Point{at(0, 0), at(63, 0), at(0, 63), at(63, 63)} {
				q.Put(100+i, p)
			}
			for i := range 5 {
				q.Put(i, at(x+i%4, y+(i+1)%4))
			}
			if got := q.Depth(); got != 4 {
				t.Fatalf("five from %d, %d on: %d", x, y, got)
			}
		}
	}
}

// P8.2: what was split isn't any more, when there are few again.
func TestDepthGoesBack(t *testing.T) {
	q := quad.New()
	for i := range 200 {
		q.Put(i, at(20, 20))
	}
	if got := q.Depth(); got != 4 {
		t.Errorf("two hundred at one point: %d", got)
	}
	for i := range 195 {
		q.Drop(i)
	}
	for _, c := range []struct {
		p    api.Point
		want int
	}{
		{at(20, 20), 4}, {at(24, 20), 3}, {at(20, 15), 2}, {at(63, 63), 1}, {at(16, 31), 3}, {at(23, 23), 4},
	} {
		q.Move(197, c.p)
		if got := q.Depth(); got != c.want {
			t.Errorf("four at 20, 20, one at %v: %d, not %d", c.p, got, c.want)
		}
	}
	q.Drop(199)
	if got := q.Depth(); got != 0 {
		t.Errorf("four: %d", got)
	}
}

// somewhere: a point, most often among the first wide ones in both directions, so that many are near; now and then one just off the map.
func somewhere(r *rand.Rand, wide int) api.Point {
	p := at(r.Intn(wide), r.Intn(wide))
	if r.Intn(4) == 0 {
		p = at(r.Intn(66)-1, r.Intn(66)-1)
	}
	return p
}

// someRect: a rectangle, now and then one of no points or one that reaches beyond the map.
func someRect(r *rand.Rand, wide int) api.Rect {
	a, b := somewhere(r, wide+1), somewhere(r, wide+1)
	switch r.Intn(8) {
	case 0:
		return box(a.X, a.Y, b.X, b.Y)
	case 1:
		return box(math.MinInt, a.Y, b.X, math.MaxInt)
	}
	return box(min(a.X, b.X), min(a.Y, b.Y), max(a.X, b.X), max(a.Y, b.Y))
}

// P8.1 to P8.3: by whatever way the things came where they are, the answers are those of a list that is gone through.
func TestAgainstAPlainList(t *testing.T) {
	for seed := range int64(80) {
		r := rand.New(rand.NewSource(800 + seed))
		q, l := quad.New(), plain(nil)
		wide := 2 << r.Intn(6)
		ids := 20 + r.Intn(240)
		for range 400 {
			id, p := r.Intn(ids)-1, somewhere(r, wide)
			var got, want api.Errno
			switch r.Intn(8) {
			case 0, 1:
				got, want = q.Move(id, p), l.move(id, p)
			case 2:
				got, want = q.Drop(id), l.drop(id)
			default:
				got, want = q.Put(id, p), l.put(id, p)
			}
			if got != want {
				t.Fatalf("seed %d: %d at %v: %d, not %d", seed, id, p, got, want)
			}
			asked := someRect(r, wide)
			if got, want := q.In(asked), l.in(asked); !slices.Equal(got, want) {
				t.Fatalf("seed %d: In(%v): %v, not %v", seed, asked, got, want)
			}
			if got, want := q.Depth(), l.depth(); got != want {
				t.Fatalf("seed %d: Depth: %d, not %d", seed, got, want)
			}
		}
		check(t, q, l)
		check(t, q.Copy(), l)
	}
}

// P8.3: in a full tree each is found at its point and nowhere else, in order, whatever order they were put in.
func TestEachIsFoundOnce(t *testing.T) {
	for seed := range int64(6) {
		r := rand.New(rand.NewSource(830 + seed))
		var things []one
		for _, id := range r.Perm(200) {
			things = append(things, one{id * 1000, at(r.Intn(1<<(seed+1)), r.Intn(64))})
		}
		q, l := filled(t, things...)
		var all []int
		for y := range 64 {
			for x := range 64 {
				got := q.In(box(x, y, x+1, y+1))
				if want := l.in(box(x, y, x+1, y+1)); !slices.Equal(got, want) {
					t.Fatalf("at %d, %d: %v, not %v", x, y, got, want)
				}
				all = append(all, got...)
			}
		}
		slices.Sort(all)
		if !slices.Equal(all, q.In(whole())) || len(all) != 200 {
			t.Errorf("%d found point by point: %v", len(all), all)
		}
		check(t, q, l)
	}
}

// P8.3: what is asked doesn't change what is answered later.
func TestAskingChangesNothing(t *testing.T) {
	q, l := filled(t, crowd(0, 120)...)
	r := rand.New(rand.NewSource(84))
	for range 200 {
		q.In(someRect(r, 64))
		q.At(r.Intn(300) - 50)
		q.Depth()
		q.Copy().Drop(r.Intn(120))
	}
	check(t, q, l)
}
