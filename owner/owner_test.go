package owner_test

import (
	"math"
	"math/rand"
	"slices"
	"testing"

	"vedette/api"
	"vedette/owner"
)

// none: numbers of no cell and of no server, among them those whose lower bits are those of one.
var none = []int{
	math.MinInt, math.MinInt + 1, -1 << 32, 1 - 1<<32, -1 << 31, -17, -16, -15, -2, -1,
	16, 17, 18, 31, 32, 255, 256, 257, 1 << 16, 1 << 31, 1 << 32, 1<<32 + 1, math.MaxInt - 1, math.MaxInt,
}

// dealt: the owners of a new map of n servers.
func dealt(n int) []api.Owner {
	l := make([]api.Owner, api.Cells)
	for c := range l {
		l[c].Server = c % n
	}
	return l
}

// loaded: a map of n servers and the owners l.
func loaded(t *testing.T, n int, l []api.Owner) *owner.Map {
	t.Helper()
	m, e := owner.Load(n, l)
	if m == nil || e != api.OK {
		t.Fatalf("Load(%d, %v): %v, %d", n, l, m, e)
	}
	return m
}

// wantAll holds m against n servers and the owners l, in all ways in which it is told.
func wantAll(t *testing.T, m *owner.Map, n int, l []api.Owner) {
	t.Helper()
	if got := m.All(); !slices.Equal(got, l) || m.Servers() != n {
		t.Fatalf("%d servers, %v, not %d, %v", m.Servers(), got, n, l)
	}
	for c, want := range l {
		if got, ok := m.Of(c); got != want || !ok {
			t.Fatalf("Of(%d): %v, %v, not %v", c, got, ok, want)
		}
	}
	for _, c := range none {
		if got, ok := m.Of(c); got != (api.Owner{}) || ok {
			t.Fatalf("Of(%d): %v, %v", c, got, ok)
		}
	}
	for s := -1; s <= api.MaxServer; s++ {
		var want []int
		for c, o := range l {
			if o.Server == s {
				want = append(want, c)
			}
		}
		if got := m.Cells(s); !slices.Equal(got, want) {
			t.Fatalf("Cells(%d): %v, not %v", s, got, want)
		}
	}
	for _, s := range none {
		if got := m.Cells(s); len(got) != 0 {
			t.Fatalf("Cells(%d): %v", s, got)
		}
	}
}

// wantHand: what Hand tells is e, and m is of n servers and the owners l then.
func wantHand(t *testing.T, m *owner.Map, c, from, to int, e api.Errno, n int, l []api.Owner) {
	t.Helper()
	if got := m.Hand(c, from, to); got != e {
		t.Errorf("Hand(%d, %d, %d): %d, not %d", c, from, to, got, e)
	}
	wantAll(t, m, n, l)
}

// hand: what Hand is to tell, done on l, the owners of a map of n servers.
func hand(n int, l []api.Owner, c, from, to int) api.Errno {
	if c < 0 || c > 15 {
		return api.ErrForm
	}
	if to < 0 || to >= n {
		return api.ErrServer
	}
	if l[c].Server != from {
		return api.ErrOwner
	}
	if from == to {
		return api.ErrServer
	}
	l[c].Server = to
	l[c].Epoch++
	return api.OK
}

// P13.1
func TestNewRows(t *testing.T) {
	for _, c := range []struct {
		n, server int
		want      []int
	}{
		{1, 0, []int{0, 1, 2, 3, 4, 5, 6, 7, 8, 9, 10, 11, 12, 13, 14, 15}},
		{1, 1, nil},
		{2, 0, []int{0, 2, 4, 6, 8, 10, 12, 14}},
		{2, 1, []int{1, 3, 5, 7, 9, 11, 13, 15}},
		{2, 2, nil},
		{3, 0, []int{0, 3, 6, 9, 12, 15}},
		{3, 1, []int{1, 4, 7, 10, 13}},
		{3, 2, []int{2, 5, 8, 11, 14}},
		{4, 0, []int{0, 4, 8, 12}},
		{4, 3, []int{3, 7, 11, 15}},
		{4, 4, nil},
		{4, -1, nil},
	} {
		if got := owner.New(c.n).Cells(c.server); !slices.Equal(got, c.want) {
			t.Errorf("New(%d).Cells(%d): %v, not %v", c.n, c.server, got, c.want)
		}
	}
}

// P13.1
func TestNew(t *testing.T) {
	for n := 1; n <= 4; n++ {
		wantAll(t, owner.New(n), n, dealt(n))
	}
}

// P13.1: held from 1 to MaxServer.
func TestNewIsHeld(t *testing.T) {
	for _, n := range []int{math.MinInt, -1 << 32, 2 - 1<<32, -2, -1, 0} {
		wantAll(t, owner.New(n), 1, dealt(1))
	}
	for _, n := range []int{5, 6, 8, 16, 1 << 32, 1<<32 + 2, math.MaxInt} {
		wantAll(t, owner.New(n), 4, dealt(4))
	}
}

// P13.1, P13.2: a map that was declared, not made, is one of a single server: each cell has an owner there too.
func TestDeclaredMap(t *testing.T) {
	var m owner.Map
	wantAll(t, &m, 1, dealt(1))
	wantAll(t, m.Copy(), 1, dealt(1))
	wantHand(t, &m, 0, 0, 1, api.ErrServer, 1, dealt(1))
	wantHand(t, &m, 0, 0, 0, api.ErrServer, 1, dealt(1))
	wantHand(t, &m, 16, 0, 0, api.ErrForm, 1, dealt(1))
}

// P13.1: the first reason is told, and what errs changes nothing.
func TestHandRefused(t *testing.T) {
	m := owner.New(3)
	l := dealt(3)
	for _, c := range []struct {
		c, from, to int
		e           api.Errno
	}{
		{16, 1, 0, api.ErrForm},
		{-1, 2, 0, api.ErrForm},
		{16, 1, 1, api.ErrForm},
		{16, 1, 9, api.ErrForm},
		{-1, -1, -1, api.ErrForm},
		{math.MaxInt, 0, 1, api.ErrForm},
		{math.MinInt, 0, 1, api.ErrForm},
		{1 << 32, 0, 1, api.ErrForm},
		{0, 0, 3, api.ErrServer},
		{0, 0, -1, api.ErrServer},
		{0, 1, 3, api.ErrServer},
		{0, 3, 3, api.ErrServer},
		{0, -1, -1, api.ErrServer},
		{0, 0, 1<<32 + 1, api.ErrServer},
		{0, 0, math.MinInt, api.ErrServer},
		{0, 1, 2, api.ErrOwner},
		{0, 1, 0, api.ErrOwner},
		{0, 1, 1, api.ErrOwner},
		{0, 3, 1, api.ErrOwner},
		{0, -1, 1, api.ErrOwner},
		{0, 1 << 32, 1, api.ErrOwner},
		{0, math.MaxInt, 0, api.ErrOwner},
		{15, 2, 1, api.ErrOwner},
		{0, 0, 0, api.ErrServer},
		{4, 1, 1, api.ErrServer},
		{14, 2, 2, api.ErrServer},
	} {
		wantHand(t, m, c.c, c.from, c.to, c.e, 3, l)
		wantHand(t, m, c.c, c.from, c.to, c.e, 3, l)
	}
}

// P13.1
func TestHandRows(t *testing.T) {
	m := owner.New(3)
	l := dealt(3)
	l[0] = api.Owner{Server: 2, Epoch: 1}
	wantHand(t, m, 0, 0, 2, api.OK, 3, l)
	wantHand(t, m, 0, 0, 2, api.ErrOwner, 3, l)
	l[0] = api.Owner{Server: 1, Epoch: 2}
	wantHand(t, m, 0, 2, 1, api.OK, 3, l)
	l[15] = api.Owner{Server: 1, Epoch: 1}
	wantHand(t, m, 15, 0, 1, api.OK, 3, l)
	l[0] = api.Owner{Server: 0, Epoch: 3}
	wantHand(t, m, 0, 1, 0, api.OK, 3, l)
	if got := m.Cells(1); !slices.Equal(got, []int{1, 4, 7, 10, 13, 15}) {
		t.Errorf("Cells(1): %v", got)
	}
}

// P13.1: a server whose last cell goes has none, and may be given one again.
func TestHandAll(t *testing.T) {
	m := owner.New(2)
	l := dealt(2)
	for c := 0; c < api.Cells; c += 2 {
		l[c] = api.Owner{Server: 1, Epoch: 1}
		wantHand(t, m, c, 0, 1, api.OK, 2, l)
	}
	if got := m.Cells(0); len(got) != 0 {
		t.Errorf("Cells(0): %v", got)
	}
	l[7] = api.Owner{Server: 0, Epoch: 1}
	wantHand(t, m, 7, 1, 0, api.OK, 2, l)
}

// P13.1, P13.2: at all arguments, in whichever state.
func TestHandAgainstPlainOwners(t *testing.T) {
	for n := 1; n <= 4; n++ {
		m := owner.New(n)
		l := dealt(n)
		for c := -2; c <= 17; c++ {
			for from := -2; from <= 5; from++ {
				for to := -2; to <= 5; to++ {
					e := hand(n, l, c, from, to)
					wantHand(t, m, c, from, to, e, n, l)
				}
			}
		}
	}
}

// P13.2: under whatever is handed each cell has one owner, which is a server, and no epoch goes back.
func TestRandomHands(t *testing.T) {
	r := rand.New(rand.NewSource(13))
	for round := range 40 {
		n := 1 + round%4
		m := owner.New(n)
		l := dealt(n)
		for range 300 {
			c, from, to := r.Intn(18)-1, r.Intn(n+2)-1, r.Intn(n+2)-1
			if r.Intn(2) == 0 && 0 <= c && c < 16 {
				from = l[c].Server
			}
			last := m.All()
			e := hand(n, l, c, from, to)
			wantHand(t, m, c, from, to, e, n, l)
			wantOneEach(t, m)
			for c, o := range m.All() {
				if o.Epoch < last[c].Epoch || o.Server != last[c].Server && o.Epoch == last[c].Epoch {
					t.Fatalf("cell %d: %v, then %v", c, last[c], o)
				}
			}
		}
	}
}

// wantOneEach: each cell is among those of just one server.
func wantOneEach(t *testing.T, m *owner.Map) {
	t.Helper()
	var all []int
	for s := range m.Servers() {
		all = append(all, m.Cells(s)...)
	}
	slices.Sort(all)
	if !slices.Equal(all, []int{0, 1, 2, 3, 4, 5, 6, 7, 8, 9, 10, 11, 12, 13, 14, 15}) {
		t.Fatalf("the servers' cells: %v", all)
	}
}

// P13.1: what is done with a copy is not done with what it was made of, nor the other way.
func TestCopy(t *testing.T) {
	m := owner.New(3)
	if e := m.Hand(5, 2, 1); e != api.OK {
		t.Fatal(e)
	}
	first := m.All()
	c := m.Copy()
	wantAll(t, c, 3, first)
	second := slices.Clone(first)
	second[5] = api.Owner{Server: 0, Epoch: 2}
	wantHand(t, c, 5, 1, 0, api.OK, 3, second)
	wantAll(t, m, 3, first)
	third := slices.Clone(first)
	third[0] = api.Owner{Server: 2, Epoch: 1}
	wantHand(t, m, 0, 0, 2, api.OK, 3, third)
	wantAll(t, c, 3, second)
	wantAll(t, c.Copy(), 3, second)
}

// P13.1: two maps have nothing in common.
func TestTwoMaps(t *testing.T) {
	a, b := owner.New(2), owner.New(2)
	if e := a.Hand(0, 0, 1); e != api.OK {
		t.Fatal(e)
	}
	wantAll(t, b, 2, dealt(2))
	wantAll(t, owner.New(2), 2, dealt(2))
}

// P13.1: what is answered is new memory, its spare room too.
func TestAnswersAreNew(t *testing.T) {
	m := owner.New(2)
	for range 2 {
		all, own := m.All(), m.Cells(1)
		for c := range all {
			all[c] = api.Owner{Server: 9, Epoch: 9}
		}
		_ = append(all, api.Owner{Server: 9})
		for i := range own {
			own[i] = 9
		}
		_ = append(own, 9, 9, 9, 9)
		wantAll(t, m, 2, dealt(2))
	}
	a, b := m.All(), m.All()
	a[0].Server = 9
	c, d := m.Cells(0), m.Cells(0)
	c[0] = 9
	if b[0].Server != 0 || d[0] != 0 {
		t.Errorf("two answers share memory: %v, %v", b, d)
	}
}

// P13.1
func TestLoad(t *testing.T) {
	for n := 1; n <= api.MaxServer; n++ {
		wantAll(t, loaded(t, n, dealt(n)), n, dealt(n))
		one := make([]api.Owner, api.Cells)
		for c := range one {
			one[c] = api.Owner{Server: n - 1, Epoch: c}
		}
		wantAll(t, loaded(t, n, one), n, one)
	}
	wantAll(t, loaded(t, 4, make([]api.Owner, api.Cells)), 4, make([]api.Owner, api.Cells))
}

// P13.1: what was told by All is such a map again, which goes on from there.
func TestLoadWhatAllTells(t *testing.T) {
	r := rand.New(rand.NewSource(131))
	for round := range 60 {
		n := 1 + round%4
		m := owner.New(n)
		for range 50 {
			m.Hand(r.Intn(16), r.Intn(n), r.Intn(n))
		}
		l := m.All()
		x := loaded(t, n, l)
		wantAll(t, x, n, l)
		for range 20 {
			c, from, to := r.Intn(16), r.Intn(n), r.Intn(n)
			wantHand(t, x, c, from, to, hand(n, l, c, from, to), n, l)
		}
	}
}

// wantNotLoaded: what Load tells of n and l is ErrForm, and nothing else.
func wantNotLoaded(t *testing.T, n int, l []api.Owner) {
	t.Helper()
	if m, e := owner.Load(n, l); m != nil || e != api.ErrForm {
		t.Errorf("Load(%d, %v): %v, %d", n, l, m, e)
	}
}

// P13.1
func TestLoadOfNoServers(t *testing.T) {
	for _, n := range []int{math.MinInt, -1 << 32, 1 - 1<<32, -1, 0, 5, 16, 1 << 32, 1<<32 + 1, math.MaxInt} {
		wantNotLoaded(t, n, make([]api.Owner, api.Cells))
		wantNotLoaded(t, n, nil)
	}
}

// P13.1
func TestLoadOfAnotherLength(t *testing.T) {
	for n := 1; n <= 4; n++ {
		for k := range 40 {
			if k != api.Cells {
				wantNotLoaded(t, n, make([]api.Owner, k))
			}
		}
		wantNotLoaded(t, n, nil)
		wantNotLoaded(t, n, make([]api.Owner, 15, 16))
		wantNotLoaded(t, n, make([]api.Owner, 1<<16+16))
	}
}

// P13.1: one owner that can't be is enough, whichever cell's it is.
func TestLoadOfNoOwners(t *testing.T) {
	for n := 1; n <= 4; n++ {
		for c := range api.Cells {
			l := dealt(n)
			for _, s := range append([]int{n, n + 1}, none...) {
				l[c] = api.Owner{Server: s}
				wantNotLoaded(t, n, l)
			}
			for _, epoch := range []int{math.MinInt, -1 << 32, -1 << 30, -1, 1<<30 + 1, 1 << 31, 1 << 32, 1<<32 + 1, math.MaxInt} {
				l[c] = api.Owner{Server: n - 1, Epoch: epoch}
				wantNotLoaded(t, n, l)
			}
			for _, epoch := range []int{0, 1, 1<<30 - 1, 1 << 30} {
				l[c] = api.Owner{Server: n - 1, Epoch: epoch}
				wantAll(t, loaded(t, n, l), n, l)
			}
		}
	}
}

// P13.1: the list is neither changed nor kept, nor the room behind it.
func TestLoadKeepsNothing(t *testing.T) {
	room := append(dealt(3), api.Owner{Server: 7, Epoch: 7}, api.Owner{Server: 8, Epoch: 8})
	was := slices.Clone(room)
	m := loaded(t, 3, room[:api.Cells])
	if e := m.Hand(0, 0, 1); e != api.OK {
		t.Fatal(e)
	}
	if !slices.Equal(room, was) {
		t.Errorf("the list is %v, was %v", room, was)
	}
	want := m.All()
	for c := range room {
		room[c] = api.Owner{Server: 2, Epoch: 9}
	}
	wantAll(t, m, 3, want)
}

// P13.1, P13.2: an epoch rises above MaxBeat too, though such owners can't be loaded again.
func TestHandAtTheGreatestEpoch(t *testing.T) {
	l := dealt(2)
	l[3].Epoch = api.MaxBeat
	m := loaded(t, 2, l)
	l[3] = api.Owner{Server: 0, Epoch: api.MaxBeat + 1}
	wantHand(t, m, 3, 1, 0, api.OK, 2, l)
	wantNotLoaded(t, 2, m.All())
}
