package diff_test

import (
	"maps"
	"math"
	"math/rand"
	"slices"
	"strings"
	"testing"

	"vedette/api"
	"vedette/diff"
	"vedette/event"
)

type things = []api.Thing

type events = []api.Event

func number(n int64) api.Field { return api.Field{N: n} }

func text(s string) api.Field { return api.Field{Text: s} }

func rect(x0, y0, x1, y1 int) api.Rect { return api.Rect{X0: x0, Y0: y0, X1: x1, Y1: y1} }

func made(id, x, y int, f ...api.Field) api.Thing {
	t := api.Thing{ID: id, At: api.Point{X: x, Y: y}}
	copy(t.F[:], f)
	return t
}

func enter(t api.Thing) api.Event { return api.Event{Kind: 1, ID: t.ID, Thing: t} }

func update(d api.Delta) api.Event { return api.Event{Kind: 2, ID: d.ID, Delta: d} }

func leave(id int) api.Event { return api.Event{Kind: 3, ID: id} }

func moves(id, x, y int) api.Event {
	return update(api.Delta{ID: id, Mask: 1, At: api.Point{X: x, Y: y}})
}

// sets: field i of the thing id becomes f.
func sets(id, i int, f api.Field) api.Event {
	d := api.Delta{ID: id, Mask: 2 << i}
	d.F[i] = f
	return update(d)
}

// wide: whatever is anywhere is in it, but at the greatest number.
func wide() api.Rect { return rect(math.MinInt, math.MinInt, math.MaxInt, math.MaxInt) }

// holds: whether p is in r, in plain words.
func holds(r api.Rect, p api.Point) bool {
	return p.X >= r.X0 && p.X < r.X1 && p.Y >= r.Y0 && p.Y < r.Y1
}

// plainSeen: those of l that are in r, by their numbers.
func plainSeen(l things, r api.Rect) map[int]api.Thing {
	in := map[int]api.Thing{}
	for _, t := range l {
		if holds(r, t.At) {
			in[t.ID] = t
		}
	}
	return in
}

// plainDelta: the change of a thing to b, part by part.
func plainDelta(a, b api.Thing) api.Delta {
	d := api.Delta{ID: b.ID}
	if b.At.X != a.At.X || b.At.Y != a.At.Y {
		d.Mask, d.At = 1, b.At
	}
	for i := range api.Fields {
		if b.F[i].N != a.F[i].N || b.F[i].Text != a.F[i].Text {
			d.Mask += 2 << i
			d.F[i] = b.F[i]
		}
	}
	return d
}

// plainOf: number by number, in plain words.
func plainOf(before things, was api.Rect, after things, now api.Rect) events {
	old, fresh := plainSeen(before, was), plainSeen(after, now)
	all := maps.Clone(old)
	maps.Copy(all, fresh)
	var l events
	for _, id := range slices.Sorted(maps.Keys(all)) {
		a, left := old[id]
		b, here := fresh[id]
		if !left {
			l = append(l, enter(b))
		} else if !here {
			l = append(l, leave(id))
		} else if d := plainDelta(a, b); d.Mask > 0 {
			l = append(l, update(d))
		}
	}
	return l
}

func wantOf(t *testing.T, before things, was api.Rect, after things, now api.Rect, want events) {
	t.Helper()
	if got := diff.Of(before, was, after, now); !slices.Equal(got, want) {
		t.Errorf("Of(%v, %v, %v, %v): %v; want %v", before, was, after, now, got, want)
	}
}

func wantSeen(t *testing.T, l things, r api.Rect, want things) {
	t.Helper()
	if got := diff.Seen(l, r); !slices.Equal(got, want) {
		t.Errorf("Seen(%v, %v): %v; want %v", l, r, got, want)
	}
}

// wantFolds: what is told makes what is seen now of what was seen before.
func wantFolds(t *testing.T, before things, was api.Rect, after things, now api.Rect) {
	t.Helper()
	es := diff.Of(before, was, after, now)
	for _, e := range es {
		if !event.Is(e) {
			t.Errorf("Of(%v, %v, %v, %v) tells %v, which isn't one", before, was, after, now, e)
		}
	}
	got, ok := event.Fold(diff.Seen(before, was), es)
	if want := diff.Seen(after, now); !ok || !slices.Equal(got, want) {
		t.Errorf("%v, %v, %v, %v: %v makes %v, %v; want %v", before, was, after, now, es, got, ok, want)
	}
}

// rects: of the map, beyond it, without points, and turned round.
func rects() []api.Rect {
	return []api.Rect{
		{}, wide(), rect(0, 0, 64, 64), rect(0, 0, 1, 1), rect(3, 3, 4, 4), rect(2, 2, 5, 5),
		rect(0, 0, 4, 64), rect(4, 0, 64, 64), rect(0, 3, 64, 4), rect(60, 60, 70, 70), rect(-9, -9, 4, 4),
		rect(63, 63, 64, 64), rect(64, 64, 65, 65), rect(4, 4, 3, 3), rect(3, 3, 3, 9), rect(3, 3, 9, 3),
		rect(5, 0, 2, 64), rect(0, 5, 64, 2), rect(math.MaxInt, math.MaxInt, math.MinInt, math.MinInt),
		rect(math.MinInt, 0, 0, math.MaxInt), rect(1<<32, 1<<32, 1<<32+9, 1<<32+9),
	}
}

func someRect(r *rand.Rand) api.Rect {
	if r.Intn(3) == 0 {
		l := rects()
		return l[r.Intn(len(l))]
	}
	return rect(r.Intn(7)-1, r.Intn(7)-1, r.Intn(9), r.Intn(9))
}

// someField: few kinds, so that two are often alike, or alike in one half.
func someField(r *rand.Rand) api.Field {
	l := []api.Field{{}, number(1), number(-1), text("a"), text("ab"), text("\x00"), number(1 << 32), number(math.MinInt64)}
	return l[r.Intn(len(l))]
}

// someThings: rising, about half of the numbers, at few places.
func someThings(r *rand.Rand, ids []int) things {
	var l things
	for _, id := range ids {
		if r.Intn(2) == 0 {
			l = append(l, made(id, r.Intn(7), r.Intn(7), someField(r), someField(r), someField(r), someField(r)))
		}
	}
	return l
}

// changed: l, some of which go, some change in one part or in more, some stay.
func changed(r *rand.Rand, l things) things {
	var m things
	for _, t := range l {
		switch r.Intn(6) {
		case 0:
			continue
		case 1:
			t.At.X = r.Intn(7)
		case 2:
			t.At.Y = r.Intn(7)
		case 3:
			t.F[r.Intn(api.Fields)] = someField(r)
		case 4:
			t.At = api.Point{X: r.Intn(7), Y: r.Intn(7)}
			for i := range t.F {
				t.F[i] = someField(r)
			}
		}
		m = append(m, t)
	}
	return m
}

// P16.1
func TestSeenRows(t *testing.T) {
	a, b, c, d := made(1, 3, 3), made(4, 7, 3, text("x")), made(9, 3, 9, number(1)), made(12, 9, 9)
	l := things{a, b, c, d}
	for _, x := range []struct {
		l    things
		r    api.Rect
		want things
	}{
		{nil, wide(), nil},
		{things{}, wide(), nil},
		{l, api.Rect{}, nil},
		{l, wide(), l},
		{l, rect(3, 3, 10, 10), l},
		{l, rect(4, 3, 10, 10), things{b, d}},
		{l, rect(3, 4, 10, 10), things{c, d}},
		{l, rect(3, 3, 9, 10), things{a, b, c}},
		{l, rect(3, 3, 10, 9), things{a, b}},
		{l, rect(7, 3, 8, 4), things{b}},
		{l, rect(8, 3, 9, 4), nil},
		{l, rect(3, 3, 3, 3), nil},
		{l, rect(10, 10, 3, 3), nil},
		{l, rect(3, 10, 10, 3), nil},
		{l, rect(10, 3, 3, 10), nil},
		{l, rect(-9, -9, 4, 4), things{a}},
		{l, rect(9, 9, 99, 99), things{d}},
	} {
		wantSeen(t, x.l, x.r, x.want)
	}
}

// P16.1: the edges of each rectangle, with things that are beyond the map, too.
func TestSeenAtEachEdge(t *testing.T) {
	for _, r := range rects() {
		var l, want things
		for _, x := range []int{r.X0 - 1, r.X0, r.X0 + 1, r.X1 - 1, r.X1, r.X1 + 1, 0, 63} {
			for _, y := range []int{r.Y0 - 1, r.Y0, r.Y0 + 1, r.Y1 - 1, r.Y1, r.Y1 + 1, 0, 63} {
				at := made(len(l), x, y)
				l = append(l, at)
				if holds(r, at.At) {
					want = append(want, at)
				}
			}
		}
		wantSeen(t, l, r, want)
	}
}

// P16.1
func TestOfRows(t *testing.T) {
	r, q := rect(0, 0, 10, 10), rect(5, 0, 15, 10)
	a, b, c := made(1, 1, 1), made(4, 7, 1, number(1), text("x")), made(9, 12, 1)
	at := func(t api.Thing, x, y int) api.Thing { return made(t.ID, x, y, t.F[:]...) }
	with := func(t api.Thing, i int, f api.Field) api.Thing { t.F[i] = f; return t }
	abc := things{a, b, c}
	for _, x := range []struct {
		before things
		was    api.Rect
		after  things
		now    api.Rect
		want   events
	}{
		{nil, wide(), nil, wide(), nil},
		{things{}, r, things{}, q, nil},
		{abc, r, abc, r, nil},
		{abc, wide(), abc, wide(), nil},
		// The rectangle moves.
		{abc, r, abc, q, events{leave(1), enter(c)}},
		{abc, q, abc, r, events{enter(a), leave(9)}},
		{things{a}, r, things{a}, q, events{leave(1)}},
		{abc, api.Rect{}, abc, r, events{enter(a), enter(b)}},
		{abc, r, abc, api.Rect{}, events{leave(1), leave(4)}},
		{abc, rect(0, 0, 2, 2), abc, rect(5, 0, 8, 2), events{leave(1), enter(b)}},
		{abc, rect(5, 0, 8, 2), abc, rect(0, 0, 2, 2), events{enter(a), leave(4)}},
		{abc, rect(12, 1, 13, 2), abc, wide(), events{enter(a), enter(b)}},
		{abc, r, abc, rect(9, 9, 1, 1), events{leave(1), leave(4)}},
		{abc, rect(9, 9, 1, 1), abc, r, events{enter(a), enter(b)}},
		// Things come and go.
		{nil, r, abc, r, events{enter(a), enter(b)}},
		{abc, r, nil, r, events{leave(1), leave(4)}},
		{things{a}, r, things{a, b}, r, events{enter(b)}},
		{things{b}, r, things{a, b}, r, events{enter(a)}},
		{things{a, b}, r, things{b}, r, events{leave(1)}},
		{things{a, b}, r, things{a}, r, events{leave(4)}},
		{things{a}, r, things{b}, r, events{leave(1), enter(b)}},
		{things{b}, r, things{a}, r, events{enter(a), leave(4)}},
		{nil, r, things{c}, r, nil},
		{things{c}, r, nil, r, nil},
		// Things move.
		{things{a}, r, things{at(a, 0, 0)}, r, events{moves(1, 0, 0)}},
		{things{a}, r, things{at(a, 1, 2)}, r, events{moves(1, 1, 2)}},
		{things{a}, r, things{at(a, 9, 9)}, r, events{moves(1, 9, 9)}},
		{things{a}, r, things{at(a, 10, 9)}, r, events{leave(1)}},
		{things{a}, r, things{at(a, 9, 10)}, r, events{leave(1)}},
		{things{at(b, 10, 9)}, r, things{b}, r, events{enter(b)}},
		{things{c}, r, things{at(c, 13, 1)}, r, nil},
		{things{c}, q, things{at(c, 14, 9)}, q, events{moves(9, 14, 9)}},
		// Both move: what counts is each list in its own rectangle.
		{things{b}, r, things{at(b, 14, 1)}, q, events{moves(4, 14, 1)}},
		{things{b}, q, things{at(b, 1, 1)}, r, events{moves(4, 1, 1)}},
		{things{a}, r, things{at(a, 14, 1)}, q, events{moves(1, 14, 1)}},
		{things{a}, q, things{at(a, 12, 1)}, r, nil},
		{things{b}, r, things{at(b, 1, 1)}, q, events{leave(4)}},
		{things{at(b, 1, 1)}, q, things{b}, r, events{enter(b)}},
		// Fields change.
		{things{b}, r, things{with(b, 0, number(2))}, r, events{sets(4, 0, number(2))}},
		{things{b}, r, things{with(b, 0, text("1"))}, r, events{sets(4, 0, text("1"))}},
		{things{b}, r, things{with(b, 1, text("y"))}, r, events{sets(4, 1, text("y"))}},
		{things{b}, r, things{with(b, 1, api.Field{})}, r, events{sets(4, 1, api.Field{})}},
		{things{b}, r, things{with(b, 2, text("\x00"))}, r, events{sets(4, 2, text("\x00"))}},
		{things{b}, r, things{with(b, 3, number(math.MinInt64))}, q, events{sets(4, 3, number(math.MinInt64))}},
		{things{c}, r, things{with(c, 3, number(1))}, r, nil},
		{things{c}, r, things{with(c, 3, number(1))}, q, events{enter(with(c, 3, number(1)))}},
		{things{c}, q, things{with(c, 3, number(1))}, r, events{leave(9)}},
		{things{b}, r, things{made(4, 0, 9, text("x"), number(1), text("z"), number(3))}, r, events{update(api.Delta{
			ID: 4, Mask: 31, At: api.Point{Y: 9}, F: [api.Fields]api.Field{text("x"), number(1), text("z"), number(3)},
		})}},
		{things{b}, r, things{made(4, 7, 1)}, r, events{update(api.Delta{ID: 4, Mask: 6})}},
		{things{b}, r, things{made(4, 0, 0, number(1), text("x"))}, r, events{moves(4, 0, 0)}},
	} {
		wantOf(t, x.before, x.was, x.after, x.now, x.want)
		wantFolds(t, x.before, x.was, x.after, x.now)
	}
}

// P16.1: an event of each kind, on either side of one of each kind.
func TestOfEachKindBesideEach(t *testing.T) {
	r := rect(0, 0, 5, 5)
	kinds := []struct {
		before, after func(id int) things
		want          func(id int) events
	}{
		{func(id int) things { return nil }, func(id int) things { return things{made(id, 1, 1)} }, func(id int) events { return events{enter(made(id, 1, 1))} }},
		{func(id int) things { return things{made(id, 1, 1)} }, func(id int) things { return nil }, func(id int) events { return events{leave(id)} }},
		{func(id int) things { return things{made(id, 5, 1)} }, func(id int) things { return things{made(id, 1, 1)} }, func(id int) events { return events{enter(made(id, 1, 1))} }},
		{func(id int) things { return things{made(id, 1, 1)} }, func(id int) things { return things{made(id, 1, 5)} }, func(id int) events { return events{leave(id)} }},
		{func(id int) things { return things{made(id, 1, 1)} }, func(id int) things { return things{made(id, 1, 2)} }, func(id int) events { return events{moves(id, 1, 2)} }},
		{func(id int) things { return things{made(id, 1, 1)} }, func(id int) things { return things{made(id, 1, 1)} }, func(id int) events { return nil }},
		{func(id int) things { return things{made(id, 6, 1)} }, func(id int) things { return things{made(id, 1, 6)} }, func(id int) events { return nil }},
		{func(id int) things { return nil }, func(id int) things { return nil }, func(id int) events { return nil }},
	}
	for _, a := range kinds {
		for _, b := range kinds {
			for _, c := range kinds {
				before := slices.Concat(a.before(0), b.before(7), c.before(1000000))
				after := slices.Concat(a.after(0), b.after(7), c.after(1000000))
				want := slices.Concat(a.want(0), b.want(7), c.want(1000000))
				wantOf(t, before, r, after, r, want)
				wantFolds(t, before, r, after, r)
			}
		}
	}
}

// P16.1: numbers are held against each other whole, and so are those that no thing has.
func TestOfFarNumbers(t *testing.T) {
	ids := []int{
		math.MinInt, math.MinInt + 1, -1 << 33, -1 << 32, 5 - 1<<32, math.MinInt32, -2, -1, 0, 1, 5, 255, 256, 261,
		1000000, 1000001, math.MaxInt32, 1 << 31, 1 << 32, 1<<32 + 1, 1<<32 + 5, 1 << 33, math.MaxInt - 1, math.MaxInt,
	}
	for _, i := range ids {
		for _, j := range ids {
			a, b := made(i, 1, 1), made(j, 1, 1, number(1))
			want := events{leave(i), enter(b)}
			if i > j {
				want = events{enter(b), leave(i)}
			}
			if i == j {
				want = events{sets(i, 0, number(1))}
			}
			wantOf(t, things{a}, wide(), things{b}, wide(), want)
		}
	}
	r := rand.New(rand.NewSource(161))
	for range 300 {
		before, after := someThings(r, ids), someThings(r, ids)
		p, q := someRect(r), someRect(r)
		wantOf(t, before, p, after, q, plainOf(before, p, after, q))
	}
}

// P16.1: lists that rise, of what is no thing: all that is told is what they have.
func TestOfWhatIsNoThing(t *testing.T) {
	long := strings.Repeat("a", 13)
	places := []api.Point{{X: -1}, {Y: 64}, {X: 1 << 32}, {X: math.MinInt, Y: math.MaxInt - 1}, {X: math.MaxInt}}
	l := []api.Field{text(long), {N: 1, Text: "a"}, {N: 2, Text: "a"}, {N: 1, Text: long}}
	var all things
	for _, p := range places {
		for _, f := range l {
			all = append(all, made(5, p.X, p.Y, api.Field{}, f), made(5, p.X, p.Y, f))
		}
	}
	for _, a := range all {
		for _, b := range all {
			for _, r := range []api.Rect{wide(), rect(-1, 0, 0, 1), rect(0, 0, 64, 65)} {
				wantSeen(t, things{a}, r, slices.DeleteFunc(things{a}, func(t api.Thing) bool { return !holds(r, t.At) }))
				wantOf(t, things{a}, r, things{b}, wide(), plainOf(things{a}, r, things{b}, wide()))
				wantOf(t, things{a}, wide(), things{b}, r, plainOf(things{a}, wide(), things{b}, r))
			}
		}
	}
}

// P16.1, P16.2
func TestOfRandom(t *testing.T) {
	r := rand.New(rand.NewSource(162))
	var ids []int
	for id := range 14 {
		ids = append(ids, id)
	}
	for range 20000 {
		before := someThings(r, ids)
		after := changed(r, before)
		if r.Intn(2) == 0 {
			after = someThings(r, ids)
		}
		p, q := someRect(r), someRect(r)
		if r.Intn(3) == 0 {
			q = p
		}
		wantOf(t, before, p, after, q, plainOf(before, p, after, q))
		wantFolds(t, before, p, after, q)
		if t.Failed() {
			return
		}
	}
}

// full: as many as a table has, over the whole map, from the number first on.
func full(first int) things {
	var l things
	for i := range api.MaxThings {
		l = append(l, made(first+i, i%64, i*7%64, number(int64(i))))
	}
	return l
}

// P16.1, P16.2: at as many as there may be, and at more.
func TestOfMany(t *testing.T) {
	whole := rect(0, 0, 64, 64)
	low, high, mixed := full(0), full(1000000-199), full(100)
	for _, a := range []things{nil, low, high, mixed} {
		for _, b := range []things{nil, low, high, mixed} {
			for _, r := range []api.Rect{whole, rect(0, 0, 32, 64), rect(20, 20, 50, 50)} {
				wantOf(t, a, r, b, whole, plainOf(a, r, b, whole))
				wantOf(t, a, whole, b, r, plainOf(a, whole, b, r))
				wantFolds(t, a, r, b, whole)
				wantFolds(t, a, whole, b, r)
			}
		}
	}
	if n := len(diff.Of(low, whole, high, whole)); n != 400 {
		t.Errorf("%d events of 200 that go and 200 that come", n)
	}
	var more, other things
	for id := range 50000 {
		more = append(more, made(2*id, 1, 1))
		other = append(other, made(3*id, 1, id%3))
	}
	wantSeen(t, more, whole, more)
	wantOf(t, more, whole, other, whole, plainOf(more, whole, other, whole))
}

// P16.2: a watcher who is told beat by beat sees what there is, while things and its rectangle move.
func TestWatcherSeesWhatThereIs(t *testing.T) {
	r := rand.New(rand.NewSource(163))
	ids := []int{0, 1, 2, 127, 128, 300, 999999, 1000000}
	for range 200 {
		world, at := things(nil), api.Rect{}
		var sees things
		for beat := range 30 {
			next, to := changed(r, world), at
			if r.Intn(3) == 0 {
				next = someThings(r, ids)
			}
			if r.Intn(3) == 0 {
				to = someRect(r)
			}
			ok := false
			if sees, ok = event.Fold(sees, diff.Of(world, at, next, to)); !ok {
				t.Fatalf("beat %d: what is told can't be", beat)
			}
			world, at = next, to
			if want := diff.Seen(world, at); !slices.Equal(sees, want) {
				t.Fatalf("beat %d: %v is seen; want %v", beat, sees, want)
			}
		}
	}
}

// P16.1: lists that don't rise have whatever answer, but one.
func TestOthersComeBack(t *testing.T) {
	r := rand.New(rand.NewSource(164))
	for range 3000 {
		var a, b things
		for range r.Intn(7) {
			a = append(a, made(r.Intn(4)-1, r.Intn(3), r.Intn(3)))
		}
		for range r.Intn(7) {
			b = append(b, made(r.Intn(4)-1, r.Intn(3), r.Intn(3), number(1)))
		}
		keptA, keptB := slices.Clone(a), slices.Clone(b)
		p, q := someRect(r), someRect(r)
		if l := diff.Of(a, p, b, q); len(l) > len(a)+len(b) {
			t.Errorf("Of(%v, %v, %v, %v): %v", a, p, b, q, l)
		}
		if l := diff.Seen(a, p); len(l) > len(a) {
			t.Errorf("Seen(%v, %v): %v", a, p, l)
		}
		if !slices.Equal(a, keptA) || !slices.Equal(b, keptB) {
			t.Errorf("%v, %v became %v, %v", keptA, keptB, a, b)
		}
	}
}

// roomy: l, with marked spare room behind it.
func roomy(l things) things {
	m := append(slices.Clone(l), made(77, 7, 7), made(78, 7, 7), made(79, 7, 7))
	return m[:len(l)]
}

// spoilt: overwrites l and its spare room.
func spoilt[T any](l []T, by T) {
	l = l[:cap(l)]
	for i := range l {
		l[i] = by
	}
}

// What holds everywhere, 3: what is handed in stays as it is; what is answered is new memory, its spare room too.
func TestNewMemory(t *testing.T) {
	whole := rect(0, 0, 64, 64)
	a, b := made(1, 1, 1), made(4, 7, 1)
	for _, l := range []things{nil, {}, {a}, {a, b}, full(0)} {
		for _, r := range []api.Rect{whole, rect(0, 0, 5, 64), {}, wide()} {
			before, after := roomy(l), roomy(l)
			for i := range after {
				after[i].F[1].N++
			}
			wasBefore, wasAfter := slices.Clone(before[:cap(before)]), slices.Clone(after[:cap(after)])
			seen, es := diff.Seen(before, r), diff.Of(before, whole, after, r)
			wantSeenAgain, wantAgain := slices.Clone(seen), slices.Clone(es)
			seen2, es2 := diff.Seen(before, r), diff.Of(before, whole, after, r)
			spoilt(seen2, made(-1, -1, -1))
			spoilt(es2, leave(-1))
			if !slices.Equal(seen, wantSeenAgain) || !slices.Equal(es, wantAgain) {
				t.Errorf("an answer is touched by what is done with another one")
			}
			if !slices.Equal(before[:cap(before)], wasBefore) || !slices.Equal(after[:cap(after)], wasAfter) {
				t.Errorf("what is handed in is touched by what is done with an answer")
			}
			spoilt(before, made(-1, -1, -1))
			spoilt(after, made(-1, -1, -1))
			if !slices.Equal(seen, wantSeenAgain) || !slices.Equal(es, wantAgain) {
				t.Errorf("an answer is touched by what is done with what was handed in")
			}
		}
	}
}

// What holds everywhere, 3 and 6: one list handed in twice is as two that are alike.
func TestOneListTwice(t *testing.T) {
	r := rand.New(rand.NewSource(165))
	for range 500 {
		l := someThings(r, []int{0, 1, 2, 3, 4, 5, 6, 7})
		p, q := someRect(r), someRect(r)
		wantOf(t, l, p, l, q, diff.Of(l, p, slices.Clone(l), q))
		wantOf(t, l, p, l, p, nil)
	}
}
