package watch_test

import (
	"math"
	"math/rand"
	"testing"

	"vedette/api"
	"vedette/watch"
)

// none: numbers of no client, among them those whose lower bits are those of one.
var none = []int{
	math.MinInt, math.MinInt + 1, -1 << 32, 1 - 1<<32, -1 << 31, -4, -3, -2, -1,
	4, 5, 7, 8, 100, 255, 256, 257, 1 << 16, 1 << 31, 1 << 32, 1<<32 + 1, math.MaxInt - 1, math.MaxInt,
}

type watches = [api.MaxClient]api.Watch

func rect(x0, y0, x1, y1 int) api.Rect { return api.Rect{X0: x0, Y0: y0, X1: x1, Y1: y1} }

func join(client, session int, r api.Rect) api.Command {
	return api.Command{Kind: api.CJoin, Client: client, Session: session, Rect: r}
}

func turn(client, session int, r api.Rect) api.Command {
	return api.Command{Kind: api.CTurn, Client: client, Session: session, Rect: r}
}

func quit(client, session int) api.Command {
	return api.Command{Kind: api.CQuit, Client: client, Session: session}
}

func on(session, start int, r api.Rect) api.Watch {
	return api.Watch{On: true, Session: session, Start: start, Rect: r}
}

func off(session, start int) api.Watch { return api.Watch{Session: session, Start: start} }

// holds: whether p is in r, in plain words.
func holds(r api.Rect, p api.Point) bool {
	return p.X >= r.X0 && p.X < r.X1 && p.Y >= r.Y0 && p.Y < r.Y1
}

// plainClip: the points of r that are on the map.
func plainClip(r api.Rect) api.Rect {
	r = rect(max(r.X0, 0), max(r.Y0, 0), min(r.X1, 64), min(r.Y1, 64))
	if r.X0 >= r.X1 || r.Y0 >= r.Y1 {
		return api.Rect{}
	}
	return r
}

// places: points at the edges of the rectangle and of the map, and far ones.
func places(r api.Rect) []api.Point {
	var l []api.Point
	far := []int{math.MinInt, -1 << 32, -1, 0, 1, 63, 64, 1 << 32, math.MaxInt}
	for _, x := range append([]int{r.X0 - 1, r.X0, r.X0 + 1, r.X1 - 1, r.X1}, far...) {
		for _, y := range append([]int{r.Y0 - 1, r.Y0, r.Y0 + 1, r.Y1 - 1, r.Y1}, far...) {
			l = append(l, api.Point{X: x, Y: y})
		}
	}
	return l
}

// wantAll holds b against what each client watches, in all ways in which it is told.
func wantAll(t *testing.T, b *watch.Book, want watches) {
	t.Helper()
	if got := b.All(); got != want {
		t.Fatalf("All: %v, not %v", got, want)
	}
	for client, w := range want {
		if got := b.Of(client); got != w {
			t.Fatalf("Of(%d): %v, not %v", client, got, w)
		}
		for _, p := range places(w.Rect) {
			if got := b.Sees(client, p); got != (w.On && holds(w.Rect, p)) {
				t.Fatalf("%v: Sees(%d, %v): %v", w, client, p, got)
			}
		}
	}
	for _, client := range none {
		if got := b.Of(client); got != (api.Watch{}) {
			t.Fatalf("Of(%d): %v", client, got)
		}
		if b.Sees(client, api.Point{}) || b.Sees(client, api.Point{X: 5, Y: 5}) {
			t.Fatalf("Sees(%d) of no client", client)
		}
	}
}

// wantDo: what Do tells is e, and b is as want then.
func wantDo(t *testing.T, b *watch.Book, c api.Command, beat int, e api.Errno, want watches) {
	t.Helper()
	if got := b.Do(c, beat); got != e {
		t.Errorf("Do(%v, %d): %d, not %d", c, beat, got, e)
	}
	wantAll(t, b, want)
}

// do: what Do is to tell of a command that is one of the three, done on w.
func do(w *watches, c api.Command, beat int) api.Errno {
	x := &w[c.Client]
	live := x.On && x.Session == c.Session
	switch {
	case c.Kind == api.CJoin && c.Session > x.Session:
		*x = on(c.Session, beat, plainClip(c.Rect))
	case c.Kind == api.CTurn && live:
		x.Rect = plainClip(c.Rect)
	case c.Kind == api.CQuit && live:
		x.On, x.Rect = false, api.Rect{}
	default:
		return api.ErrClient
	}
	return api.OK
}

// watched: a book in which client 1 watches in session 5 and client 2 did in session 6, and what they do.
func watched(t *testing.T) (*watch.Book, watches) {
	t.Helper()
	b := watch.New()
	w := watches{1: on(5, 50, rect(10, 10, 20, 20)), 2: off(6, 60)}
	for _, c := range []struct {
		c    api.Command
		beat int
	}{{join(1, 5, rect(10, 10, 20, 20)), 50}, {join(2, 6, rect(0, 0, 64, 64)), 60}, {quit(2, 6), 61}} {
		if e := b.Do(c.c, c.beat); e != api.OK {
			t.Fatalf("%v: %d", c, e)
		}
	}
	wantAll(t, b, w)
	return b, w
}

// P14.1: nobody watches; so it is of a book that was declared, not made.
func TestNew(t *testing.T) {
	wantAll(t, watch.New(), watches{})
	var b watch.Book
	wantAll(t, &b, watches{})
	wantAll(t, b.Copy(), watches{})
	wantDo(t, &b, join(3, 1, rect(1, 2, 3, 4)), 9, api.OK, watches{3: on(1, 9, rect(1, 2, 3, 4))})
}

// P14.1
func TestClipRows(t *testing.T) {
	for _, c := range []struct{ r, want api.Rect }{
		{rect(0, 0, 64, 64), rect(0, 0, 64, 64)},
		{rect(1, 2, 3, 4), rect(1, 2, 3, 4)},
		{rect(-1, -1, 65, 65), rect(0, 0, 64, 64)},
		{rect(-5, 10, 30, 900), rect(0, 10, 30, 64)},
		{rect(10, -5, 900, 30), rect(10, 0, 64, 30)},
		{rect(63, 63, 64, 64), rect(63, 63, 64, 64)},
		{rect(63, 63, 65, 65), rect(63, 63, 64, 64)},
		{rect(-1, -1, 1, 1), rect(0, 0, 1, 1)},
		{rect(-9, -9, 0, 9), api.Rect{}},
		{rect(-9, -9, 9, 0), api.Rect{}},
		{rect(64, 0, 65, 9), api.Rect{}},
		{rect(0, 64, 9, 65), api.Rect{}},
		{rect(5, 5, 5, 9), api.Rect{}},
		{rect(5, 5, 9, 5), api.Rect{}},
		{rect(9, 0, 3, 9), api.Rect{}},
		{rect(0, 9, 9, 3), api.Rect{}},
		{api.Rect{}, api.Rect{}},
		{rect(math.MinInt, math.MinInt, math.MaxInt, math.MaxInt), rect(0, 0, 64, 64)},
		{rect(math.MaxInt, math.MaxInt, math.MinInt, math.MinInt), api.Rect{}},
		{rect(1<<32, 0, 1<<32+9, 9), api.Rect{}},
		{rect(-1<<32, 3, 1<<32+9, 9), rect(0, 3, 64, 9)},
	} {
		if got := watch.Clip(c.r); got != c.want {
			t.Errorf("Clip(%v): %v, not %v", c.r, got, c.want)
		}
	}
}

// P14.1
func TestClipOfAllEdges(t *testing.T) {
	edges := []int{math.MinInt, -1, 0, 1, 32, 63, 64, 65, math.MaxInt}
	for _, x0 := range edges {
		for _, y0 := range edges {
			for _, x1 := range edges {
				for _, y1 := range edges {
					r := rect(x0, y0, x1, y1)
					if got := watch.Clip(r); got != plainClip(r) {
						t.Fatalf("Clip(%v): %v, not %v", r, got, plainClip(r))
					}
				}
			}
		}
	}
}

// P14.1: what isn't cmd's Is is ErrForm, though its session is right, or wrong.
func TestDoOfNoCommand(t *testing.T) {
	b, w := watched(t)
	r := rect(1, 1, 9, 9)
	spoil := []func(c *api.Command){
		func(c *api.Command) { c.ID = 1 },
		func(c *api.Command) { c.Which = 1 },
		func(c *api.Command) { c.To = -1 },
		func(c *api.Command) { c.At.X = 1 },
		func(c *api.Command) { c.At.Y = 1 },
		func(c *api.Command) { c.F[3].N = 1 },
		func(c *api.Command) { c.F[0].Text = "a" },
		func(c *api.Command) { c.Value.N = 1 },
		func(c *api.Command) { c.Value.Text = "a" },
		func(c *api.Command) { c.Rect.X0 = -1001 },
		func(c *api.Command) { c.Rect.Y0 = 1001 },
		func(c *api.Command) { c.Rect.X1 = 1001 },
		func(c *api.Command) { c.Rect.Y1 = math.MaxInt },
		func(c *api.Command) { c.Session = -1 },
		func(c *api.Command) { c.Session = 1000001 },
		func(c *api.Command) { c.Session = math.MaxInt },
		func(c *api.Command) { c.Session = math.MinInt },
	}
	for _, client := range none {
		spoil = append(spoil, func(c *api.Command) { c.Client = client })
	}
	for client := range api.MaxClient {
		for session := range 8 {
			for _, c := range []api.Command{join(client, session, r), turn(client, session, r), quit(client, session)} {
				for _, s := range spoil {
					x := c
					s(&x)
					wantDo(t, b, x, 70, api.ErrForm, w)
				}
			}
		}
	}
	wantDo(t, b, api.Command{Kind: api.CQuit, Client: 1, Session: 5, Rect: r}, 70, api.ErrForm, w)
	wantDo(t, b, api.Command{Kind: api.CQuit, Client: 1, Session: 5, Rect: rect(10, 10, 20, 20)}, 70, api.ErrForm, w)
}

// P14.1: what isn't one that Watches is ErrForm, whoever's it is.
func TestDoOfOtherKinds(t *testing.T) {
	b, w := watched(t)
	for client := range api.MaxClient {
		for session := range 8 {
			for _, kind := range []int{api.CPut, api.CMove, api.CSet, api.CDrop, api.CHand, 0, 9, -1, api.CJoin + 1<<8, api.CJoin - 1<<32, math.MaxInt, math.MinInt} {
				wantDo(t, b, api.Command{Kind: kind, Client: client, Session: session}, 70, api.ErrForm, w)
			}
			wantDo(t, b, api.Command{Kind: api.CPut, Client: client, Session: session, At: api.Point{X: 3, Y: 3}}, 70, api.ErrForm, w)
			wantDo(t, b, api.Command{Kind: api.CDrop, Client: client, Session: session, ID: 4}, 70, api.ErrForm, w)
			wantDo(t, b, api.Command{Kind: api.CHand, Client: client, Session: session, Which: 4, To: 1}, 70, api.ErrForm, w)
			wantDo(t, b, api.Command{}, 70, api.ErrForm, w)
		}
	}
}

// P14.1: who never watched has session 0, so that the first may be 1 or more.
func TestFirstJoin(t *testing.T) {
	r := rect(1, 2, 30, 40)
	for client := range api.MaxClient {
		b := watch.New()
		wantDo(t, b, join(client, 0, r), 1, api.ErrClient, watches{})
		wantDo(t, b, turn(client, 0, r), 1, api.ErrClient, watches{})
		wantDo(t, b, turn(client, 1, r), 1, api.ErrClient, watches{})
		wantDo(t, b, quit(client, 0), 1, api.ErrClient, watches{})
		wantDo(t, b, quit(client, 1), 1, api.ErrClient, watches{})
		for _, session := range []int{1, 2, 999999, 1000000} {
			w := watches{}
			w[client] = on(session, 3, r)
			wantDo(t, watch.New(), join(client, session, r), 3, api.OK, w)
		}
	}
}

// P14.1: the next one must be above it, whether it is on or not; it may be joined while the last one is on.
func TestNextJoin(t *testing.T) {
	b := watch.New()
	r, s := rect(1, 2, 30, 40), rect(0, 0, 5, 5)
	w := watches{2: on(5, 3, r)}
	wantDo(t, b, join(2, 5, r), 3, api.OK, w)
	for _, session := range []int{0, 1, 4, 5} {
		wantDo(t, b, join(2, session, s), 4, api.ErrClient, w)
		wantDo(t, b, join(2, session, r), 3, api.ErrClient, w)
	}
	w[2] = on(6, 4, s)
	wantDo(t, b, join(2, 6, s), 4, api.OK, w)
	w[2] = off(6, 4)
	wantDo(t, b, quit(2, 6), 7, api.OK, w)
	for _, session := range []int{0, 1, 5, 6} {
		wantDo(t, b, join(2, session, s), 8, api.ErrClient, w)
		wantDo(t, b, join(2, session, s), 4, api.ErrClient, w)
	}
	w[2] = on(7, 8, r)
	wantDo(t, b, join(2, 7, r), 8, api.OK, w)
	w[2] = on(1000000, 9, s)
	wantDo(t, b, join(2, 1000000, s), 9, api.OK, w)
	wantDo(t, b, join(2, 1000000, r), 9, api.ErrClient, w)
	wantDo(t, b, join(2, 999999, r), 9, api.ErrClient, w)
	wantDo(t, b, join(2, 1000001, r), 9, api.ErrForm, w)
}

// P14.1: Start is the beat, whichever it is, ahead of the one before too; nothing but a join changes it.
func TestStart(t *testing.T) {
	b := watch.New()
	w := watches{}
	r := rect(3, 3, 9, 9)
	for i, beat := range []int{0, 1, 7, 3, -3, api.MaxBeat, api.MaxBeat + 1, 1 << 32, math.MaxInt, math.MinInt, 0} {
		session := i + 1
		w[0] = on(session, beat, r)
		wantDo(t, b, join(0, session, r), beat, api.OK, w)
		w[0] = on(session, beat, rect(4, 4, 9, 9))
		wantDo(t, b, turn(0, session, rect(4, 4, 9, 9)), beat-1, api.OK, w)
		if i%2 == 0 {
			w[0] = off(session, beat)
			wantDo(t, b, quit(0, session), beat+1, api.OK, w)
		}
	}
}

// P14.1: the rectangle is what is on the map of it; it may be without points, and that client is on all the same.
func TestRectIsClipped(t *testing.T) {
	for _, c := range []struct{ r, want api.Rect }{
		{rect(-5, 10, 30, 900), rect(0, 10, 30, 64)},
		{rect(-1000, -1000, 1000, 1000), rect(0, 0, 64, 64)},
		{rect(1000, 1000, -1000, -1000), api.Rect{}},
		{rect(70, 0, 90, 5), api.Rect{}},
		{rect(0, -9, 9, 0), api.Rect{}},
		{rect(9, 9, 9, 9), api.Rect{}},
		{rect(20, 5, 3, 9), api.Rect{}},
		{api.Rect{}, api.Rect{}},
	} {
		b := watch.New()
		wantDo(t, b, join(1, 1, c.r), 2, api.OK, watches{1: on(1, 2, c.want)})
		wantDo(t, b, turn(1, 1, rect(1, 1, 2, 2)), 3, api.OK, watches{1: on(1, 2, rect(1, 1, 2, 2))})
		wantDo(t, b, turn(1, 1, c.r), 4, api.OK, watches{1: on(1, 2, c.want)})
		wantDo(t, b, turn(1, 1, c.r), 4, api.OK, watches{1: on(1, 2, c.want)})
		wantDo(t, b, turn(1, 1, rect(1, 1, 2, 2)), 5, api.OK, watches{1: on(1, 2, rect(1, 1, 2, 2))})
	}
}

// P14.1: only who is on with just that session turns, or quits.
func TestTurnAndQuitOfAnotherSession(t *testing.T) {
	b, w := watched(t)
	r := rect(1, 1, 9, 9)
	for client := range api.MaxClient {
		for session := range 9 {
			if client == 1 && session == 5 {
				continue
			}
			for _, beat := range []int{0, 50, 60, 70} {
				wantDo(t, b, turn(client, session, r), beat, api.ErrClient, w)
				wantDo(t, b, turn(client, session, w[client].Rect), beat, api.ErrClient, w)
				wantDo(t, b, quit(client, session), beat, api.ErrClient, w)
			}
		}
	}
	for _, session := range []int{5 + 1<<8, 5 + 1<<16, 1000000} {
		wantDo(t, b, turn(1, session, r), 70, api.ErrClient, w)
		wantDo(t, b, quit(1, session), 70, api.ErrClient, w)
	}
	w[1].Rect = r
	wantDo(t, b, turn(1, 5, r), 70, api.OK, w)
	w[1] = off(5, 50)
	wantDo(t, b, quit(1, 5), 70, api.OK, w)
	wantDo(t, b, quit(1, 5), 70, api.ErrClient, w)
	wantDo(t, b, turn(1, 5, r), 70, api.ErrClient, w)
}

// P14.1: what one client does is nothing to the others.
func TestClientsAreApart(t *testing.T) {
	b := watch.New()
	w := watches{}
	for client := range api.MaxClient {
		w[client] = on(3, 10+client, rect(client, 0, 20+client, 9))
		wantDo(t, b, join(client, 3, w[client].Rect), 10+client, api.OK, w)
	}
	for client := range api.MaxClient {
		w[client].Rect = rect(0, client, 9, 20+client)
		wantDo(t, b, turn(client, 3, w[client].Rect), 20, api.OK, w)
	}
	for _, client := range []int{2, 0, 3, 1} {
		w[client] = off(3, 10+client)
		wantDo(t, b, quit(client, 3), 30, api.OK, w)
	}
}

// P14.2: at each point on the map and around it.
func TestSees(t *testing.T) {
	for _, r := range []api.Rect{rect(0, 0, 64, 64), rect(5, 7, 11, 30), rect(63, 63, 64, 64), rect(-5, 60, 1, 70), rect(9, 9, 9, 20), {}} {
		b := watch.New()
		if e := b.Do(join(3, 2, r), 1); e != api.OK {
			t.Fatal(e)
		}
		for x := -3; x < 68; x++ {
			for y := -3; y < 68; y++ {
				p := api.Point{X: x, Y: y}
				want := holds(r, p) && x >= 0 && x < 64 && y >= 0 && y < 64
				if b.Sees(3, p) != want || b.Sees(0, p) || b.Sees(2, p) || b.Sees(4, p) || b.Sees(-1, p) {
					t.Fatalf("%v: Sees(%v) isn't %v", r, p, want)
				}
			}
		}
	}
}

// P14.2: who is on no more sees nothing.
func TestQuitSeesNothing(t *testing.T) {
	b := watch.New()
	for _, c := range []api.Command{join(0, 1, rect(0, 0, 64, 64)), quit(0, 1)} {
		if e := b.Do(c, 5); e != api.OK {
			t.Fatal(e)
		}
	}
	for x := range 64 {
		for y := range 64 {
			if b.Sees(0, api.Point{X: x, Y: y}) {
				t.Fatalf("sees %d, %d", x, y)
			}
		}
	}
}

// P14.2: what is done with a copy is not done with what it was made of, nor the other way.
func TestCopy(t *testing.T) {
	b, w := watched(t)
	c := b.Copy()
	wantAll(t, c, w)
	x := w
	x[1].Rect = rect(1, 1, 9, 9)
	wantDo(t, c, turn(1, 5, rect(1, 1, 9, 9)), 70, api.OK, x)
	x[0] = on(1, 71, rect(2, 2, 3, 3))
	wantDo(t, c, join(0, 1, rect(2, 2, 3, 3)), 71, api.OK, x)
	wantAll(t, b, w)
	y := w
	y[1] = off(5, 50)
	wantDo(t, b, quit(1, 5), 72, api.OK, y)
	y[2] = on(9, 73, rect(0, 0, 1, 1))
	wantDo(t, b, join(2, 9, rect(0, 0, 1, 1)), 73, api.OK, y)
	wantAll(t, c, x)
	wantAll(t, c.Copy(), x)
	wantAll(t, b.Copy(), y)
}

// P14.2: two books have nothing in common.
func TestTwoBooks(t *testing.T) {
	a, b := watch.New(), watch.New()
	wantDo(t, a, join(0, 1, rect(2, 2, 3, 3)), 1, api.OK, watches{on(1, 1, rect(2, 2, 3, 3))})
	wantAll(t, b, watches{})
	wantAll(t, watch.New(), watches{})
}

// P14.2: what is answered is new.
func TestAnswersAreNew(t *testing.T) {
	b, w := watched(t)
	all := b.All()
	for i := range all {
		all[i] = on(9, 9, rect(9, 9, 9, 9))
	}
	wantAll(t, b, w)
}

// someRect: small ones on the map and beyond it, and some without points.
func someRect(r *rand.Rand) api.Rect {
	x, y := r.Intn(80)-10, r.Intn(80)-10
	return rect(x, y, x+r.Intn(24)-2, y+r.Intn(24)-2)
}

// someCommand: one of the three, its session near the one that is there.
func someCommand(r *rand.Rand, w watches) api.Command {
	client := r.Intn(api.MaxClient)
	session := max(w[client].Session+r.Intn(5)-2, 0)
	if r.Intn(3) == 0 {
		session = w[client].Session
	}
	switch r.Intn(5) {
	case 0:
		return join(client, session, someRect(r))
	case 1:
		return quit(client, session)
	}
	return turn(client, session, someRect(r))
}

// P14.1, P14.2: random commands against plain words.
func TestRandomCommands(t *testing.T) {
	r := rand.New(rand.NewSource(14))
	for range 60 {
		b := watch.New()
		w := watches{}
		for beat := range 200 {
			c := someCommand(r, w)
			e := do(&w, c, beat)
			wantDo(t, b, c, beat, e, w)
		}
	}
}

// P14.3: once another session is on, or none, the one that was on is never on again, whatever is asked for.
func TestOverIsOver(t *testing.T) {
	r := rand.New(rand.NewSource(143))
	for range 60 {
		b := watch.New()
		var over [api.MaxClient]map[int]bool
		for client := range over {
			over[client] = map[int]bool{0: true}
		}
		for beat := range 300 {
			was := b.All()
			b.Do(someCommand(r, was), beat)
			for client, w := range b.All() {
				if x := was[client]; x.On && (!w.On || w.Session != x.Session) {
					over[client][x.Session] = true
				}
				if w.On && over[client][w.Session] || w.Session < was[client].Session {
					t.Fatalf("client %d: %v, and then %v", client, was[client], w)
				}
			}
		}
		wantNoneAgain(t, b, over)
	}
}

// wantNoneAgain: no session of those that are over can be joined, turned or quit.
func wantNoneAgain(t *testing.T, b *watch.Book, over [api.MaxClient]map[int]bool) {
	t.Helper()
	w := b.All()
	for client, sessions := range over {
		for session := range sessions {
			for _, c := range []api.Command{join(client, session, rect(0, 0, 9, 9)), turn(client, session, rect(0, 0, 9, 9)), quit(client, session)} {
				if e := b.Do(c, 999); e != api.ErrClient || b.All() != w {
					t.Fatalf("Do(%v): %d, %v", c, e, b.All())
				}
			}
		}
	}
}
