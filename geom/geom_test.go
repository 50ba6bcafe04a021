package geom_test

import (
	"math"
	"math/rand"
	"slices"
	"testing"

	"vedette/api"
	"vedette/geom"
)

func rect(x0, y0, x1, y1 int) api.Rect { return api.Rect{X0: x0, Y0: y0, X1: x1, Y1: y1} }

func point(x, y int) api.Point { return api.Point{X: x, Y: y} }

// edges: the parts at which an answer may turn, and those at which sums and differences wrap round.
var edges = []int{
	math.MinInt, math.MinInt + 1, math.MinInt32, -api.Size, -1, 0, 1, 31,
	api.Size - 1, api.Size, api.Size + 1, math.MaxInt32, math.MaxInt - 1, math.MaxInt,
}

func edgeRect(r *rand.Rand) api.Rect {
	some := func() int { return edges[r.Intn(len(edges))] }
	return rect(some(), some(), some(), some())
}

// smallRect: its points, and those around it, can all be gone through by eachSmall.
func smallRect(r *rand.Rand) api.Rect {
	return rect(r.Intn(10)-2, r.Intn(10)-2, r.Intn(10)-2, r.Intn(10)-2)
}

func eachSmall(do func(p api.Point)) {
	for y := -4; y < 10; y++ {
		for x := -4; x < 10; x++ {
			do(point(x, y))
		}
	}
}

func eachEdge(do func(p api.Point)) {
	for _, x := range edges {
		for _, y := range edges {
			do(point(x, y))
		}
	}
}

// P3.1
func TestOn(t *testing.T) {
	for _, x := range edges {
		for _, y := range edges {
			want := x > -1 && x < 64 && y > -1 && y < 64
			if got := geom.On(point(x, y)); got != want {
				t.Errorf("On(%d, %d): %v", x, y, got)
			}
		}
	}
	n := 0
	for x := -70; x < 140; x++ {
		for y := -70; y < 140; y++ {
			if geom.On(point(x, y)) {
				n++
			}
		}
	}
	if n != 64*64 {
		t.Errorf("%d points are on the map", n)
	}
}

// P3.1
func TestIs(t *testing.T) {
	rows := []struct {
		r    api.Rect
		want bool
	}{
		{rect(0, 0, 0, 0), true},
		{rect(0, 0, 64, 64), true},
		{rect(64, 64, 64, 64), true},
		{rect(0, 64, 64, 64), true},
		{rect(63, 63, 64, 64), true},
		{rect(7, 2, 7, 9), true},
		{rect(2, 7, 9, 7), true},
		{rect(3, 4, 5, 6), true},
		{rect(-1, 0, 64, 64), false},
		{rect(0, -1, 64, 64), false},
		{rect(0, 0, 65, 64), false},
		{rect(0, 0, 64, 65), false},
		{rect(5, 4, 4, 6), false},
		{rect(3, 7, 5, 6), false},
		{rect(65, 0, 65, 1), false},
		{rect(0, 65, 1, 65), false},
		{rect(-1, 0, -1, 1), false},
		{rect(0, -1, 1, -1), false},
		{rect(math.MinInt, math.MinInt, math.MaxInt, math.MaxInt), false},
		{rect(math.MaxInt, math.MaxInt, math.MinInt, math.MinInt), false},
	}
	for _, c := range rows {
		if got := geom.Is(c.r); got != c.want {
			t.Errorf("Is(%v): %v", c.r, got)
		}
	}
	r := rand.New(rand.NewSource(31))
	side := func(from, to int) bool { return from >= 0 && to <= 64 && !(to < from) }
	for range 20000 {
		a := edgeRect(r)
		if got := geom.Is(a); got != (side(a.X0, a.X1) && side(a.Y0, a.Y1)) {
			t.Errorf("Is(%v): %v", a, got)
		}
	}
}

// P3.1
func TestEmpty(t *testing.T) {
	rows := []struct {
		r    api.Rect
		want bool
	}{
		{rect(0, 0, 0, 0), true},
		{rect(0, 0, 1, 1), false},
		{rect(0, 0, 0, 1), true},
		{rect(0, 0, 1, 0), true},
		{rect(1, 0, 0, 1), true},
		{rect(0, 1, 1, 0), true},
		{rect(9, 9, 1, 1), true},
		{rect(-3, -3, -2, -2), false},
		{rect(64, 64, 65, 65), false},
		{rect(math.MinInt, math.MinInt, math.MaxInt, math.MaxInt), false},
		{rect(math.MaxInt, 0, math.MinInt, 1), true},
		{rect(0, math.MaxInt, 1, math.MinInt), true},
		{rect(math.MaxInt-1, math.MinInt, math.MaxInt, math.MinInt+1), false},
		{rect(math.MaxInt, math.MinInt, math.MaxInt, math.MaxInt), true},
	}
	for _, c := range rows {
		if got := geom.Empty(c.r); got != c.want {
			t.Errorf("Empty(%v): %v", c.r, got)
		}
	}
}

// P3.1
func TestEmptyIsWithoutPoints(t *testing.T) {
	r := rand.New(rand.NewSource(32))
	for range 500 {
		a := smallRect(r)
		n := 0
		eachSmall(func(p api.Point) {
			if geom.In(a, p) {
				n++
			}
		})
		if geom.Empty(a) != (n == 0) {
			t.Errorf("Empty(%v): %v, with %d points", a, geom.Empty(a), n)
		}
	}
}

// P3.1
func TestIn(t *testing.T) {
	a := rect(2, 3, 5, 7)
	rows := []struct {
		r    api.Rect
		p    api.Point
		want bool
	}{
		{a, point(2, 3), true},
		{a, point(4, 3), true},
		{a, point(2, 6), true},
		{a, point(4, 6), true},
		{a, point(1, 3), false},
		{a, point(5, 3), false},
		{a, point(2, 2), false},
		{a, point(2, 7), false},
		{a, point(5, 7), false},
		{a, point(3, 1), false},
		{rect(0, 0, 0, 0), point(0, 0), false},
		{rect(5, 3, 2, 7), point(3, 5), false},
		{rect(2, 7, 5, 3), point(3, 5), false},
		{rect(-9, -9, -1, -1), point(-9, -2), true}, // a point needn't be on the map to be in a rectangle
		{rect(64, 64, 70, 70), point(64, 69), true},
		{rect(math.MinInt, math.MinInt, math.MaxInt, math.MaxInt), point(math.MinInt, math.MaxInt-1), true},
		{rect(math.MinInt, math.MinInt, math.MaxInt, math.MaxInt), point(math.MaxInt, 0), false},
		{rect(math.MinInt, math.MinInt, math.MaxInt, math.MaxInt), point(0, math.MaxInt), false},
	}
	for _, c := range rows {
		if got := geom.In(c.r, c.p); got != c.want {
			t.Errorf("In(%v, %v): %v", c.r, c.p, got)
		}
	}
}

// P3.1
func TestSame(t *testing.T) {
	a := rect(2, 3, 5, 7)
	rows := []struct {
		a, b api.Rect
		want bool
	}{
		{a, a, true},
		{a, rect(1, 3, 5, 7), false},
		{a, rect(2, 2, 5, 7), false},
		{a, rect(2, 3, 6, 7), false},
		{a, rect(2, 3, 5, 8), false},
		{a, rect(3, 2, 7, 5), false},
		{a, api.Rect{}, false},
		{a, rect(5, 7, 2, 3), false},
		{rect(0, 0, 1, 1), rect(1, 1, 2, 2), false},
		{api.Rect{}, api.Rect{}, true},
		{api.Rect{}, rect(9, 9, 1, 1), true},
		{rect(3, 0, 3, 9), rect(0, 4, 9, 4), true},
		{rect(math.MaxInt, 0, math.MinInt, 1), rect(0, math.MaxInt, 1, math.MinInt), true},
		{rect(-1, -1, 65, 65), rect(0, 0, 64, 64), false}, // the same points of the map, but others beside them
		{rect(70, 70, 80, 80), api.Rect{}, false},
		{rect(70, 70, 80, 80), rect(90, 90, 99, 99), false},
	}
	for _, c := range rows {
		if geom.Same(c.a, c.b) != c.want || geom.Same(c.b, c.a) != c.want {
			t.Errorf("Same of %v and %v isn't %v", c.a, c.b, c.want)
		}
	}
}

// P3.1
func TestSameHasTheSamePoints(t *testing.T) {
	r := rand.New(rand.NewSource(33))
	some := func() api.Rect { return rect(r.Intn(3), r.Intn(3), r.Intn(3), r.Intn(3)) }
	for range 5000 {
		a, b := some(), some()
		want := true
		eachSmall(func(p api.Point) { want = want && geom.In(a, p) == geom.In(b, p) })
		if got := geom.Same(a, b); got != want {
			t.Errorf("Same(%v, %v): %v", a, b, got)
		}
	}
}

// P3.2
func TestMeet(t *testing.T) {
	a := rect(2, 3, 5, 7)
	rows := []struct{ a, b, want api.Rect }{
		{a, a, a},
		{a, rect(0, 0, 64, 64), a},
		{a, rect(3, 4, 4, 5), rect(3, 4, 4, 5)},
		{a, rect(4, 6, 9, 9), rect(4, 6, 5, 7)},
		{a, rect(0, 0, 3, 4), rect(2, 3, 3, 4)},
		{a, rect(4, 0, 9, 4), rect(4, 3, 5, 4)},
		{a, rect(5, 3, 9, 7), api.Rect{}},
		{a, rect(2, 7, 5, 9), api.Rect{}},
		{a, rect(0, 0, 2, 3), api.Rect{}},
		{a, rect(20, 20, 30, 30), api.Rect{}},
		{a, rect(3, 4, 3, 6), api.Rect{}},
		{a, rect(4, 6, 3, 4), api.Rect{}},
		{a, api.Rect{}, api.Rect{}},
		{rect(9, 9, 1, 1), rect(9, 9, 1, 1), api.Rect{}},
		{rect(-9, -9, -1, -1), rect(-5, -5, 5, 5), rect(-5, -5, -1, -1)}, // what isn't on the map is met as well
		{rect(64, 64, 90, 90), rect(70, 0, 99, 99), rect(70, 64, 90, 90)},
		{rect(math.MinInt, math.MinInt, math.MaxInt, math.MaxInt), a, a},
		{rect(math.MinInt, 0, 0, math.MaxInt), rect(-7, math.MinInt, math.MaxInt, 7), rect(-7, 0, 0, 7)},
		{rect(math.MinInt, math.MinInt, 0, 0), rect(0, 0, math.MaxInt, math.MaxInt), api.Rect{}},
	}
	for _, c := range rows {
		if geom.Meet(c.a, c.b) != c.want || geom.Meet(c.b, c.a) != c.want {
			t.Errorf("Meet of %v and %v: %v, %v; want %v", c.a, c.b, geom.Meet(c.a, c.b), geom.Meet(c.b, c.a), c.want)
		}
	}
}

// checkMeet: the points of both, among those that each goes through.
func checkMeet(t *testing.T, a, b api.Rect, each func(func(api.Point))) {
	t.Helper()
	m := geom.Meet(a, b)
	if geom.Empty(m) && m != (api.Rect{}) {
		t.Errorf("Meet(%v, %v): %v is Empty", a, b, m)
	}
	each(func(p api.Point) {
		if geom.In(m, p) != (geom.In(a, p) && geom.In(b, p)) {
			t.Errorf("Meet(%v, %v): %v, at %v", a, b, m, p)
		}
	})
}

// P3.2, P3.3
func TestMeetHasThePointsOfBoth(t *testing.T) {
	r := rand.New(rand.NewSource(34))
	for range 2000 {
		checkMeet(t, smallRect(r), smallRect(r), eachSmall)
		checkMeet(t, edgeRect(r), edgeRect(r), eachEdge)
	}
}

// P3.2
func TestArea(t *testing.T) {
	rows := []struct {
		r    api.Rect
		want int
	}{
		{rect(0, 0, 64, 64), 4096},
		{rect(0, 0, 1, 1), 1},
		{rect(63, 63, 64, 64), 1},
		{rect(2, 3, 5, 7), 12},
		{rect(0, 0, 64, 1), 64},
		{rect(0, 0, 1, 64), 64},
		{rect(0, 0, 0, 0), 0},
		{rect(3, 4, 3, 9), 0},
		{rect(5, 3, 2, 7), 0},
		{rect(2, 7, 5, 3), 0},
		{rect(9, 9, 1, 1), 0}, // both sides below 0
		{rect(-1, 0, 4, 9), 36},
		{rect(0, -1, 4, 9), 36},
		{rect(0, 0, 65, 1), 64},
		{rect(0, 0, 1, 65), 64},
		{rect(-9, -9, 99, 99), 4096},
		{rect(64, 0, 90, 64), 0},
		{rect(0, 64, 64, 90), 0},
		{rect(70, 70, 80, 80), 0},
		{rect(-9, -9, 0, 0), 0},
		{rect(-9, 64, 99, 99), 0},
		{rect(math.MinInt, math.MinInt, math.MaxInt, math.MaxInt), 4096},
		{rect(math.MaxInt, math.MaxInt, math.MinInt, math.MinInt), 0},
		{rect(math.MinInt, 60, 5, math.MaxInt), 20},
		{rect(60, math.MinInt, math.MaxInt, 5), 20},
	}
	for _, c := range rows {
		if got := geom.Area(c.r); got != c.want {
			t.Errorf("Area(%v): %d, want %d", c.r, got, c.want)
		}
	}
}

// P3.2
func TestAreaIsHowManyPointsAreOn(t *testing.T) {
	r := rand.New(rand.NewSource(35))
	about := func() api.Rect {
		return rect(r.Intn(84)-10, r.Intn(84)-10, r.Intn(84)-10, r.Intn(84)-10)
	}
	for i := range 1000 {
		a := about()
		if i%2 == 0 {
			a = edgeRect(r)
		}
		n := 0
		for x := range 64 {
			for y := range 64 {
				if geom.In(a, point(x, y)) {
					n++
				}
			}
		}
		if got := geom.Area(a); got != n {
			t.Errorf("Area(%v): %d, want %d", a, got, n)
		}
	}
}

// P3.2
func TestMinus(t *testing.T) {
	a := rect(0, 0, 4, 4)
	far := rect(math.MinInt, math.MinInt, math.MaxInt, math.MaxInt)
	rows := []struct {
		a, b api.Rect
		want []api.Rect
	}{
		{a, rect(1, 1, 2, 2), []api.Rect{rect(0, 0, 4, 1), rect(0, 2, 4, 4), rect(0, 1, 1, 2), rect(2, 1, 4, 2)}},
		{a, a, nil},
		{a, rect(-1, -1, 5, 5), nil},
		{a, far, nil},
		{a, rect(0, 0, 4, 1), []api.Rect{rect(0, 1, 4, 4)}},
		{a, rect(0, 3, 4, 4), []api.Rect{rect(0, 0, 4, 3)}},
		{a, rect(0, 0, 1, 4), []api.Rect{rect(1, 0, 4, 4)}},
		{a, rect(3, 0, 4, 4), []api.Rect{rect(0, 0, 3, 4)}},
		{a, rect(-9, 1, 9, 2), []api.Rect{rect(0, 0, 4, 1), rect(0, 2, 4, 4)}},
		{a, rect(1, -9, 2, 9), []api.Rect{rect(0, 0, 1, 4), rect(2, 0, 4, 4)}},
		{a, rect(-9, -9, 1, 1), []api.Rect{rect(0, 1, 4, 4), rect(1, 0, 4, 1)}},
		{a, rect(3, 3, 9, 9), []api.Rect{rect(0, 0, 4, 3), rect(0, 3, 3, 4)}},
		{a, rect(3, -9, 9, 1), []api.Rect{rect(0, 1, 4, 4), rect(0, 0, 3, 1)}},
		{a, rect(-9, 3, 1, 9), []api.Rect{rect(0, 0, 4, 3), rect(1, 3, 4, 4)}},
		{a, rect(4, 0, 8, 4), []api.Rect{a}},
		{a, rect(0, 4, 4, 8), []api.Rect{a}},
		{a, rect(20, 20, 30, 30), []api.Rect{a}},
		{a, rect(1, 1, 1, 3), []api.Rect{a}}, // b is Empty: nothing goes, and a isn't cut either
		{a, rect(3, 3, 1, 1), []api.Rect{a}},
		{a, api.Rect{}, []api.Rect{a}},
		{rect(9, 9, 8, 8), a, nil},
		{rect(1, 1, 1, 3), a, nil},
		{api.Rect{}, api.Rect{}, nil},
		{rect(9, 9, 8, 8), rect(9, 9, 8, 8), nil},
		{rect(70, 70, 74, 74), rect(71, 71, 90, 90), []api.Rect{rect(70, 70, 74, 71), rect(70, 71, 71, 74)}},
		{far, a, []api.Rect{rect(math.MinInt, math.MinInt, math.MaxInt, 0), rect(math.MinInt, 4, math.MaxInt, math.MaxInt), rect(math.MinInt, 0, 0, 4), rect(4, 0, math.MaxInt, 4)}},
		{far, far, nil},
	}
	for _, c := range rows {
		if got := geom.Minus(c.a, c.b); !slices.Equal(got, c.want) {
			t.Errorf("Minus(%v, %v): %v, want %v", c.a, c.b, got, c.want)
		}
	}
}

// around: the smallest rectangle that all of l are in; it is what l's points are, if l is all of a rectangle.
func around(l []api.Point) api.Rect {
	r := rect(l[0].X, l[0].Y, l[0].X+1, l[0].Y+1)
	for _, p := range l {
		r = rect(min(r.X0, p.X), min(r.Y0, p.Y), max(r.X1, p.X+1), max(r.Y1, p.Y+1))
	}
	return r
}

// plainMinus: the chapter's words, point by point.
func plainMinus(a, b api.Rect) []api.Rect {
	var parts [4][]api.Point
	both := false
	eachSmall(func(p api.Point) {
		if !geom.In(a, p) {
			return
		}
		both = both || geom.In(b, p)
		switch {
		case p.Y < b.Y0:
			parts[0] = append(parts[0], p)
		case p.Y >= b.Y1:
			parts[1] = append(parts[1], p)
		case p.X < b.X0:
			parts[2] = append(parts[2], p)
		case p.X >= b.X1:
			parts[3] = append(parts[3], p)
		}
	})
	if geom.Empty(a) {
		return nil
	}
	if !both {
		return []api.Rect{a}
	}
	var want []api.Rect
	for _, l := range parts {
		if len(l) > 0 {
			want = append(want, around(l))
		}
	}
	return want
}

// P3.2
func TestMinusByPlainWords(t *testing.T) {
	r := rand.New(rand.NewSource(36))
	for range 5000 {
		a, b := smallRect(r), smallRect(r)
		if got, want := geom.Minus(a, b), plainMinus(a, b); !slices.Equal(got, want) {
			t.Errorf("Minus(%v, %v): %v, want %v", a, b, got, want)
		}
	}
}

// checkMinus: each point of a that isn't in b is in just one part, each other one in none.
func checkMinus(t *testing.T, a, b api.Rect, each func(func(api.Point))) {
	t.Helper()
	parts := geom.Minus(a, b)
	each(func(p api.Point) {
		want := 0
		if geom.In(a, p) && !geom.In(b, p) {
			want = 1
		}
		got := 0
		for _, c := range parts {
			if geom.In(c, p) {
				got++
			}
		}
		if got != want {
			t.Errorf("Minus(%v, %v): %v is in %d parts, want %d", a, b, p, got, want)
		}
	})
	for _, c := range parts {
		if geom.Empty(c) {
			t.Errorf("Minus(%v, %v): %v is Empty", a, b, c)
		}
	}
}

// P3.3
func TestMinusLosesNoPointAndHasNoneTwice(t *testing.T) {
	r := rand.New(rand.NewSource(37))
	for range 3000 {
		checkMinus(t, smallRect(r), smallRect(r), eachSmall)
		checkMinus(t, edgeRect(r), edgeRect(r), eachEdge)
	}
}

// P3.3: counted on the map, what is in both and what is left are all that was there.
func TestMinusAndMeetAreTheWhole(t *testing.T) {
	r := rand.New(rand.NewSource(38))
	some := func() api.Rect { return rect(r.Intn(65), r.Intn(65), r.Intn(65), r.Intn(65)) }
	for range 5000 {
		a, b := some(), some()
		n := geom.Area(geom.Meet(a, b))
		for _, c := range geom.Minus(a, b) {
			n += geom.Area(c)
		}
		if n != geom.Area(a) {
			t.Errorf("%v and %v: %d points of %d", a, b, n, geom.Area(a))
		}
	}
}

// Rule 3 of what holds everywhere: no answer is touched by what is done with another one.
func TestMinusAnswersNewMemory(t *testing.T) {
	spoil := func(l []api.Rect) {
		l = l[:cap(l)]
		for i := range l {
			l[i] = rect(-1, -1, -1, -1)
		}
	}
	a := rect(0, 0, 4, 4)
	for _, b := range []api.Rect{rect(1, 1, 2, 2), rect(0, 0, 4, 1), rect(9, 9, 10, 10), a} {
		want := slices.Clone(geom.Minus(a, b))
		first, second := geom.Minus(a, b), geom.Minus(a, b)
		spoil(first)
		if !slices.Equal(second, want) || !slices.Equal(geom.Minus(a, b), want) {
			t.Errorf("Minus(%v, %v) is touched by what is done with another answer", a, b)
		}
	}
}
