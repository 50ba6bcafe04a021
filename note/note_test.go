package note_test

import (
	"encoding/binary"
	"math"
	"math/rand"
	"slices"
	"strings"
	"testing"
	"unsafe"

	"vedette/api"
	"vedette/cells"
	"vedette/cmd"
	"vedette/note"
	"vedette/sum"
	"vedette/thing"
)

func number(n int64) api.Field { return api.Field{N: n} }

func text(s string) api.Field { return api.Field{Text: s} }

func made(id, x, y int, f ...api.Field) api.Thing {
	t := api.Thing{ID: id, At: api.Point{X: x, Y: y}}
	copy(t.F[:], f)
	return t
}

func hand(cell, to int) api.Hand { return api.Hand{Cell: cell, To: to} }

func join(client, session int, r api.Rect) api.Command {
	return api.Command{Kind: 6, Client: client, Session: session, Rect: r}
}

func turn(client, session int, r api.Rect) api.Command {
	return api.Command{Kind: 7, Client: client, Session: session, Rect: r}
}

func quit(client, session int) api.Command {
	return api.Command{Kind: 8, Client: client, Session: session}
}

// many: n things at one point, from that number on.
func many(n, id int, at api.Point) []api.Thing {
	var l []api.Thing
	for i := range n {
		l = append(l, api.Thing{ID: id + i, At: at})
	}
	return l
}

// put: a number as bytes, by another one's hand than num.
func put(n int) string { return string(binary.AppendUvarint(nil, uint64(n))) }

func zigged(l ...int) string {
	var b []byte
	for _, n := range l {
		b = binary.AppendVarint(b, int64(n))
	}
	return string(b)
}

// oneThing: the bytes of a thing, whether it is one or not.
func oneThing(t api.Thing) string {
	s := put(t.ID) + "\x1f" + put(t.At.X) + put(t.At.Y)
	for _, f := range t.F {
		s += put(len(f.Text)) + f.Text
		if f.Text == "" {
			s += string(binary.AppendVarint(nil, f.N))
		}
	}
	return s
}

// oneCommand: the bytes of a command, and of one about watching also if it is none.
func oneCommand(c api.Command) string {
	if s, e := cmd.Bytes(c); e == api.OK {
		return s
	}
	s := zigged(c.Kind, c.Client, c.Session)
	if c.Kind == 6 || c.Kind == 7 {
		s += zigged(c.Rect.X0, c.Rect.Y0, c.Rect.X1, c.Rect.Y1)
	}
	return s
}

func oneHand(h api.Hand) string { return put(h.Cell) + put(h.To) }

func listed[T any](l []T, one func(T) string) string {
	s := put(len(l))
	for _, x := range l {
		s += one(x)
	}
	return s
}

// written: what is framed of a note, part by part, whether it is one or not.
func written(n api.Note) string {
	return put(n.From) + put(n.Beat) + listed(n.Moved, oneThing) + listed(n.Hands, oneHand) + listed(n.Given, oneThing) + listed(n.Watch, oneCommand)
}

// far: numbers that are none of a note, some of them alike to one in their lower bits.
func far() []int {
	return []int{-1, -2, -1 << 32, 1<<32 - 1, 1 << 32, 1<<32 + 1, 1<<32 + 3, math.MaxInt32, math.MinInt32, math.MaxInt, math.MinInt, math.MinInt + 1, math.MinInt + 3}
}

// goodNotes: each is one, many of them at an end.
func goodNotes() []api.Note {
	long := text(strings.Repeat("é", 6))
	whole := api.Rect{X0: -1000, Y0: 1000, X1: 1000, Y1: -1000}
	var all []api.Hand
	for c := range api.Cells {
		all = append(all, hand(c, 1+c%3))
	}
	return []api.Note{
		{},
		{From: 3},
		{Beat: 1},
		{From: 3, Beat: 1 << 30},
		{Moved: []api.Thing{{}}},
		{Moved: []api.Thing{made(0, 63, 63), made(1000000, 0, 0, long, number(math.MinInt64), number(math.MaxInt64), text("\x00"))}},
		{From: 1, Hands: []api.Hand{hand(0, 0)}},
		{From: 1, Hands: []api.Hand{hand(15, 3)}},
		{From: 1, Hands: []api.Hand{hand(3, 0), hand(4, 2), hand(9, 2), hand(15, 3)}},
		{Hands: all},
		{Hands: all, Given: []api.Thing{made(1, 0, 0), made(2, 63, 63), made(999999, 0, 63), made(1000000, 63, 0)}},
		{From: 2, Hands: []api.Hand{hand(1, 0)}, Moved: []api.Thing{made(1, 15, 15), made(4, 32, 0)}, Given: []api.Thing{made(2, 16, 0), made(3, 31, 15)}},
		// A thing that goes, and one of its number that goes with a cell: each list is asked for itself.
		{From: 2, Hands: []api.Hand{hand(1, 0)}, Moved: []api.Thing{made(5, 0, 0)}, Given: []api.Thing{made(5, 16, 0)}},
		{Watch: []api.Command{join(0, 0, api.Rect{})}},
		{Watch: []api.Command{quit(0, 0)}},
		{Watch: []api.Command{turn(3, 1000000, whole), join(0, 1, whole), quit(3, 1000000), quit(3, 1000000), join(3, 5, api.Rect{X1: 64, Y1: 64})}},
	}
}

// wrongThings: none of them may stand on the map, each for one reason.
func wrongThings() []api.Thing {
	l := []api.Thing{made(1000001, 1, 1), made(1<<32+5, 1, 1)}
	for _, id := range far() {
		l = append(l, made(id, 1, 1))
	}
	for _, x := range append(far(), 64, 65) {
		l = append(l, made(5, x, 1), made(5, 1, x))
	}
	for i := range api.Fields {
		for _, f := range []api.Field{{N: 1, Text: "a"}, text(strings.Repeat("a", 13)), text(strings.Repeat("é", 7))} {
			x := made(5, 1, 1)
			x.F[i] = f
			l = append(l, x)
		}
	}
	return l
}

// wrongCommands: none of them is a command about watching, each for one reason.
func wrongCommands() []api.Command {
	l := []api.Command{{}, {Kind: 9}, {Kind: -1}, {Kind: 1<<32 + 8}, quit(4, 1), quit(-1, 1), quit(1, -1), quit(1, 1000001), quit(1<<32, 1), quit(1, 1<<32)}
	for kind := 1; kind < 6; kind++ { // those about things
		l = append(l, api.Command{Kind: kind}, api.Command{Kind: kind, Client: 1, Session: 2})
	}
	for _, n := range []int{-1001, 1001, math.MinInt, math.MaxInt} {
		l = append(l, join(1, 1, api.Rect{X0: n}), turn(1, 1, api.Rect{Y0: n}), join(1, 1, api.Rect{X1: n}), turn(1, 1, api.Rect{Y1: n}))
	}
	// What they don't have.
	for _, c := range []api.Command{quit(1, 1), join(1, 1, api.Rect{}), turn(1, 1, api.Rect{})} {
		for i, x := range []api.Command{c, c, c, c, c, c} {
			switch i {
			case 0:
				x.ID = 1
			case 1:
				x.Which = 1
			case 2:
				x.To = 1
			case 3:
				x.At.Y = 1
			case 4:
				x.F[3] = number(1)
			case 5:
				x.Value = text("a")
			}
			l = append(l, x)
		}
	}
	return append(l, api.Command{Kind: 8, Client: 1, Rect: api.Rect{X1: 1}})
}

// wrongNotes: none of them is a note, each for one reason.
func wrongNotes() []api.Note {
	var l []api.Note
	one := []api.Hand{hand(0, 1)}
	for _, n := range append(far(), 4, 5) {
		l = append(l, api.Note{From: n}, api.Note{Hands: []api.Hand{hand(0, n)}}, api.Note{From: 1, Hands: []api.Hand{hand(3, 0), hand(4, n)}})
	}
	for _, n := range append(far(), 1<<30+1, 1<<30+2, 1<<31) {
		if n < 0 || n > 1<<30 { // 2^31 - 1 is one of them too
			l = append(l, api.Note{Beat: n})
		}
	}
	for _, n := range append(far(), 16, 17) {
		l = append(l, api.Note{Hands: []api.Hand{hand(n, 1)}}, api.Note{Hands: []api.Hand{hand(15, 1), hand(n, 1)}})
	}
	for _, x := range wrongThings() {
		l = append(l, api.Note{Moved: []api.Thing{x}}, api.Note{Hands: one, Given: []api.Thing{x}})
		l = append(l, api.Note{Moved: []api.Thing{made(0, 1, 1), x}}, api.Note{Hands: one, Given: []api.Thing{made(0, 1, 1), x}})
	}
	for _, c := range wrongCommands() {
		l = append(l, api.Note{Watch: []api.Command{c}}, api.Note{Watch: []api.Command{quit(0, 0), c}}, api.Note{Watch: []api.Command{c, quit(0, 0)}})
	}
	// What doesn't rise.
	for _, s := range [][]int{{5, 5}, {5, 4}, {0, 0}, {1, 2, 2}, {1, 3, 2}, {2, 1, 3}, {1000000, 0}} {
		var things []api.Thing
		var hands []api.Hand
		for _, id := range s {
			things = append(things, made(id, 1, 1, number(int64(len(things)))))
			hands = append(hands, hand(id%16, 1+len(hands)%3))
		}
		l = append(l, api.Note{Moved: things}, api.Note{Hands: one, Given: things}, api.Note{Hands: hands})
	}
	// To whom it is from.
	for from := range 4 {
		l = append(l, api.Note{From: from, Hands: []api.Hand{hand(7, from)}}, api.Note{From: from, Hands: []api.Hand{hand(7, (from+1)%4), hand(8, from)}})
	}
	// What stands where it can't.
	return append(l,
		api.Note{Given: []api.Thing{made(1, 1, 1)}},
		api.Note{Hands: one, Given: []api.Thing{made(1, 16, 1)}},
		api.Note{Hands: one, Given: []api.Thing{made(1, 1, 1), made(2, 1, 16)}},
		api.Note{Hands: one, Moved: []api.Thing{made(1, 1, 1)}},
		api.Note{Hands: one, Moved: []api.Thing{made(1, 16, 1), made(2, 1, 1)}},
		api.Note{Hands: []api.Hand{hand(0, 1), hand(15, 1)}, Moved: []api.Thing{made(2, 63, 63)}},
	)
}

// someField: a field as it may be, often one at an end.
func someField(r *rand.Rand) api.Field {
	ends := []int64{1, -1, 63, 64, -64, -65, math.MaxInt64, math.MinInt64}
	switch r.Intn(4) {
	case 0:
		return number(ends[r.Intn(len(ends))])
	case 1:
		return text(strings.Repeat(string(rune('a'+r.Intn(2))), r.Intn(api.MaxText+1)))
	}
	return api.Field{}
}

// someNote: a note as it may be.
func someNote(r *rand.Rand) api.Note {
	n := api.Note{From: r.Intn(4), Beat: []int{0, 1, 127, 128, r.Intn(1 << 30), 1 << 30}[r.Intn(6)]}
	left := map[int]bool{}
	for c := range api.Cells {
		if r.Intn(4) == 0 {
			n.Hands = append(n.Hands, hand(c, (n.From+1+r.Intn(3))%4))
			left[c] = true
		}
	}
	for id := r.Intn(3); id <= 1000000 && r.Intn(9) > 0; id += 1 + r.Intn(300) {
		x := made(id, r.Intn(64), r.Intn(64), someField(r), someField(r), someField(r), someField(r))
		if c, _ := cells.Of(x.At); left[c] {
			n.Given = append(n.Given, x)
		} else {
			n.Moved = append(n.Moved, x)
		}
	}
	for range r.Intn(4) {
		c := api.Command{Kind: 6 + r.Intn(3), Client: r.Intn(4), Session: []int{0, 1, 1000000}[r.Intn(3)]}
		if c.Kind < 8 {
			c.Rect = api.Rect{X0: r.Intn(2001) - 1000, Y0: r.Intn(64), X1: r.Intn(64), Y1: 1000}
		}
		n.Watch = append(n.Watch, c)
	}
	return n
}

// strange: a note of whatever parts, most of them such that it is none.
func strange(r *rand.Rand) api.Note {
	n := someNote(r)
	if r.Intn(8) == 0 {
		n.From = r.Intn(7) - 1
	}
	if r.Intn(8) == 0 {
		n.Beat = []int{-1, 1<<30 + 1}[r.Intn(2)]
	}
	for i := range n.Hands {
		if r.Intn(30) == 0 {
			n.Hands[i] = hand(r.Intn(18)-1, r.Intn(6)-1)
		}
	}
	for _, l := range [][]api.Thing{n.Moved, n.Given} {
		for i := range l {
			if r.Intn(40) == 0 {
				l[i] = made(r.Intn(9)-1, r.Intn(66)-1, r.Intn(66)-1)
			}
		}
	}
	if r.Intn(20) == 0 {
		n.Moved, n.Given = n.Given, n.Moved
	}
	for i := range n.Watch {
		if r.Intn(20) == 0 {
			n.Watch[i].Kind = r.Intn(10)
		}
	}
	return n
}

// plain: the chapter's words, one by one.
func plain(n api.Note, servers int) bool {
	if servers > 4 {
		servers = 4
	}
	is := n.From >= 0 && n.From < servers && n.Beat >= 0 && n.Beat <= 1073741824
	is = is && len(n.Moved) <= 200 && len(n.Given) <= 200 && len(n.Hands) <= 16 && len(n.Watch) <= 20
	for _, l := range [][]api.Thing{n.Moved, n.Given} {
		is = is && slices.IsSortedFunc(l, func(a, b api.Thing) int { return a.ID - b.ID })
		for i, x := range l {
			is = is && thing.Is(x) && (i == 0 || l[i-1].ID != x.ID)
		}
	}
	for i, h := range n.Hands {
		is = is && cells.Is(h.Cell) && h.To >= 0 && h.To < servers && h.To != n.From && (i == 0 || n.Hands[i-1].Cell < h.Cell)
	}
	goes := func(x api.Thing) bool {
		c, e := cells.Of(x.At)
		return slices.ContainsFunc(n.Hands, func(h api.Hand) bool { return e == 0 && h.Cell == c })
	}
	stays := func(x api.Thing) bool { return !goes(x) }
	is = is && !slices.ContainsFunc(n.Moved, goes) && !slices.ContainsFunc(n.Given, stays)
	for _, c := range n.Watch {
		is = is && cmd.Is(c) && c.Kind >= 6
	}
	return is
}

// wantIs: n is a note of 4 servers, and so it is told and read.
func wantIs(t *testing.T, n api.Note, what string) {
	t.Helper()
	if !note.Is(n, api.MaxServer) {
		t.Errorf("%s: %+v isn't Is", what, n)
	}
	s, e := note.Bytes(n)
	if b, k, f := sum.Open(s); b == "" || k != len(s) || e != api.OK || f != api.OK {
		t.Errorf("%s: Bytes(%+v): %x, %d; opened: %d, %d", what, n, s, e, k, f)
	}
	for _, tail := range []string{"", "\x00", s, "tail"} {
		wantRead(t, s+tail, n, len(s), api.OK)
	}
}

// wantNot: n is none of 4 servers, and isn't told.
func wantNot(t *testing.T, n api.Note, what string) {
	t.Helper()
	if note.Is(n, api.MaxServer) {
		t.Errorf("%s: %+v is Is", what, n)
	}
	if s, e := note.Bytes(n); s != "" || e != api.ErrForm {
		t.Errorf("%s: Bytes(%+v): %x, %d", what, n, s, e)
	}
}

func wantRead(t *testing.T, s string, n api.Note, size int, e api.Errno) {
	t.Helper()
	gn, gs, ge := note.Read(s)
	if !alike(gn, n) || gs != size || ge != e {
		t.Errorf("Read(%.200x): %+v, %d, %d; want %+v, %d, %d", s, gn, gs, ge, n, size, e)
	}
}

// alike: by another one's hand than Same.
func alike(a, b api.Note) bool {
	ok := a.From == b.From && a.Beat == b.Beat && len(a.Moved) == len(b.Moved) && len(a.Hands) == len(b.Hands) && len(a.Given) == len(b.Given) && len(a.Watch) == len(b.Watch)
	for i := 0; ok && i < len(a.Moved); i++ {
		ok = a.Moved[i] == b.Moved[i]
	}
	for i := 0; ok && i < len(a.Hands); i++ {
		ok = a.Hands[i] == b.Hands[i]
	}
	for i := 0; ok && i < len(a.Given); i++ {
		ok = a.Given[i] == b.Given[i]
	}
	for i := 0; ok && i < len(a.Watch); i++ {
		ok = a.Watch[i] == b.Watch[i]
	}
	return ok
}

// copied: a note whose lists are others.
func copied(n api.Note) api.Note {
	n.Moved, n.Hands, n.Given, n.Watch = slices.Clone(n.Moved), slices.Clone(n.Hands), slices.Clone(n.Given), slices.Clone(n.Watch)
	return n
}

// P17.1, P17.2, P17.3
func TestNotesAreToldAndRead(t *testing.T) {
	for _, n := range goodNotes() {
		wantIs(t, n, "good")
	}
	r := rand.New(rand.NewSource(171))
	for range 1000 {
		wantIs(t, someNote(r), "some")
	}
}

// P17.1, P17.2
func TestWhatIsNoNote(t *testing.T) {
	for _, n := range wrongNotes() {
		wantNot(t, n, "wrong")
	}
}

// P17.1
func TestFromAndToHangOnTheServers(t *testing.T) {
	for _, servers := range []int{math.MinInt, math.MinInt + 1, -1, 0, 1, 2, 3, 4, 5, 6, 1 << 32, 1<<32 + 1, math.MaxInt} {
		for _, from := range []int{math.MinInt, -1, 0, 1, 2, 3, 4, 5, 1 << 32, math.MaxInt} {
			is := from >= 0 && from < 4 && from < servers
			if got := note.Is(api.Note{From: from}, servers); got != is {
				t.Errorf("from %d of %d: %v", from, servers, got)
			}
			for _, to := range []int{math.MinInt, -1, 0, 1, 2, 3, 4, 5, 1 << 32, math.MaxInt} {
				is := is && to >= 0 && to < 4 && to < servers && to != from
				for _, cell := range []int{0, 7, 15} {
					if got := note.Is(api.Note{From: from, Hands: []api.Hand{hand(cell, to)}}, servers); got != is {
						t.Errorf("from %d to %d of %d: %v", from, to, servers, got)
					}
				}
			}
		}
	}
}

// P17.1
func TestBeatsAndCellsAtTheirEnds(t *testing.T) {
	for _, beat := range []int{0, 1, 127, 128, 1<<30 - 1, 1 << 30} {
		wantIs(t, api.Note{Beat: beat}, "beat")
	}
	for _, beat := range []int{-1, math.MinInt, 1<<30 + 1, 1 << 31, 1 << 32, 1<<32 + 1, math.MaxInt} {
		wantNot(t, api.Note{Beat: beat}, "beat")
	}
	for a := -2; a < 19; a++ {
		for b := -2; b < 19; b++ {
			n := api.Note{From: 2, Hands: []api.Hand{hand(a, 3), hand(b, 0)}}
			if 0 <= a && a < b && b < 16 {
				wantIs(t, n, "cells")
			} else {
				wantNot(t, n, "cells")
			}
		}
	}
}

// P17.1: what is in a cell that goes is given, all else is moved; at each corner of each cell, and beside it.
func TestGivenIsInTheCellsAndMovedIsNot(t *testing.T) {
	for c := range api.Cells {
		r, _ := cells.Rect(c)
		hands := []api.Hand{hand(c, 1)}
		for _, x := range []int{r.X0 - 1, r.X0, r.X0 + 7, r.X1 - 1, r.X1} {
			for _, y := range []int{r.Y0 - 1, r.Y0, r.Y0 + 7, r.Y1 - 1, r.Y1} {
				on := x >= 0 && x < 64 && y >= 0 && y < 64
				in := x >= r.X0 && x < r.X1 && y >= r.Y0 && y < r.Y1
				l := []api.Thing{made(9, x, y)}
				if got := note.Is(api.Note{Hands: hands, Given: l}, 2); got != in {
					t.Errorf("%d, %d given with cell %d: %v", x, y, c, got)
				}
				if got := note.Is(api.Note{Hands: hands, Moved: l}, 2); got != (on && !in) {
					t.Errorf("%d, %d moved beside cell %d: %v", x, y, c, got)
				}
				if got := note.Is(api.Note{Moved: l}, 2); got != on {
					t.Errorf("%d, %d moved: %v", x, y, got)
				}
				if note.Is(api.Note{Given: l}, 2) {
					t.Errorf("%d, %d given without a cell", x, y)
				}
			}
		}
	}
}

// P17.1
func TestAsManyAsMayBe(t *testing.T) {
	here, there := api.Point{X: 1, Y: 1}, api.Point{X: 63, Y: 63}
	one := []api.Hand{hand(0, 1)}
	for _, n := range []int{0, 1, 127, 128, 199, 200} {
		wantIs(t, api.Note{Moved: many(n, 5, here)}, "moved")
		wantIs(t, api.Note{Hands: one, Given: many(n, 5, here)}, "given")
		wantIs(t, api.Note{Hands: one, Moved: many(n, 300, there), Given: many(200, 0, here)}, "both")
		wantIs(t, api.Note{Hands: one, Moved: many(200, 300, there), Given: many(n, 0, here)}, "both")
	}
	for _, n := range []int{201, 202, 256, 400, 70000} {
		wantNot(t, api.Note{Moved: many(n, 5, here)}, "moved")
		wantNot(t, api.Note{Hands: one, Given: many(n, 5, here)}, "given")
		wantNot(t, api.Note{Hands: one, Moved: many(n, 300, there), Given: many(1, 0, here)}, "both")
		wantNot(t, api.Note{Hands: one, Moved: many(1, 300, there), Given: many(n, 0, here)}, "both")
	}
	for _, n := range []int{1, 19, 20} {
		wantIs(t, api.Note{Watch: slices.Repeat([]api.Command{quit(1, 1)}, n)}, "watch")
	}
	for _, n := range []int{21, 22, 256, 70000} {
		wantNot(t, api.Note{Watch: slices.Repeat([]api.Command{quit(1, 1)}, n)}, "watch")
	}
	var all []api.Hand
	for c := range 16 {
		all = append(all, hand(c, 1))
		wantIs(t, api.Note{Hands: all}, "hands")
	}
	wantNot(t, api.Note{Hands: append(all, hand(15, 1))}, "hands")
	wantNot(t, api.Note{Hands: append(all, hand(16, 1))}, "hands")
	wantNot(t, api.Note{Hands: slices.Repeat(all, 2)}, "hands")
}

// P17.1, P17.2: of several wrong things or of one, wherever it stands.
func TestOneWrongAmongMany(t *testing.T) {
	for _, at := range []int{0, 1, 100, 198, 199} {
		n := api.Note{Hands: []api.Hand{hand(0, 1)}, Moved: many(200, 0, api.Point{X: 63}), Given: many(200, 0, api.Point{X: 3})}
		wantIs(t, n, "many")
		for _, x := range []api.Thing{{ID: -1}, made(at, 64, 0), made(at, 1, 1, api.Field{N: 1, Text: "a"}), made(1000001, 1, 1), made(at, 16, 16), made((at+100)%200, 1, 1)} {
			m := copied(n)
			m.Given[at] = x
			wantNot(t, m, "given")
			if x.At.X == 1 {
				x.At.X = 62
			}
			m = copied(n)
			m.Moved[at] = x
			if x.At.X == 16 { // it needn't be where the others are
				wantIs(t, m, "moved")
			} else {
				wantNot(t, m, "moved")
			}
		}
	}
	for at := range 20 {
		w := slices.Repeat([]api.Command{join(2, 2, api.Rect{X1: 5})}, 20)
		w[at] = api.Command{Kind: api.CDrop, Client: 2}
		wantNot(t, api.Note{Watch: w}, "watch")
	}
}

// P17.1: against the chapter's words, one by one.
func TestIsOfWhateverNotes(t *testing.T) {
	r := rand.New(rand.NewSource(172))
	count := 0
	for range 20000 {
		n := strange(r)
		servers := r.Intn(7) - 1
		is := plain(n, servers)
		if got := note.Is(n, servers); got != is {
			t.Fatalf("Is(%+v, %d): %v", n, servers, got)
		}
		if is {
			count++
		}
		if s, e := note.Bytes(n); (e == api.OK) != plain(n, 4) || (s == "") != (e == api.ErrForm) {
			t.Fatalf("Bytes(%+v): %x, %d", n, s, e)
		}
	}
	if count < 2000 || count > 18000 {
		t.Errorf("%d of them are notes", count)
	}
}

// differs: n with each part in turn another one.
func differs(n api.Note) []api.Note {
	var l []api.Note
	with := func(change func(x *api.Note)) {
		x := copied(n)
		change(&x)
		l = append(l, x)
	}
	with(func(x *api.Note) { x.From++ })
	with(func(x *api.Note) { x.From += 1 << 32 })
	with(func(x *api.Note) { x.Beat-- })
	with(func(x *api.Note) { x.Beat += 1 << 32 })
	with(func(x *api.Note) { x.Moved = append(x.Moved, made(0, 0, 0)) })
	with(func(x *api.Note) { x.Hands = append(x.Hands, hand(0, 0)) })
	with(func(x *api.Note) { x.Given = append(x.Given, made(0, 0, 0)) })
	with(func(x *api.Note) { x.Watch = append(x.Watch, api.Command{}) })
	for i := range n.Hands {
		with(func(x *api.Note) { x.Hands[i].Cell++ })
		with(func(x *api.Note) { x.Hands[i].To-- })
		with(func(x *api.Note) { x.Hands = slices.Delete(x.Hands, i, i+1) })
	}
	for _, list := range []func(x *api.Note) *[]api.Thing{func(x *api.Note) *[]api.Thing { return &x.Moved }, func(x *api.Note) *[]api.Thing { return &x.Given }} {
		for i := range *list(&n) {
			with(func(x *api.Note) { (*list(x))[i].ID++ })
			with(func(x *api.Note) { (*list(x))[i].At.X++ })
			with(func(x *api.Note) { (*list(x))[i].At.Y-- })
			with(func(x *api.Note) { *list(x) = slices.Delete(*list(x), i, i+1) })
			for k := range api.Fields {
				with(func(x *api.Note) { (*list(x))[i].F[k].N++ })
				with(func(x *api.Note) { (*list(x))[i].F[k].Text += "\x00" })
			}
		}
	}
	for i := range n.Watch {
		for _, at := range []func(c *api.Command) *int{
			func(c *api.Command) *int { return &c.Kind }, func(c *api.Command) *int { return &c.ID }, func(c *api.Command) *int { return &c.Which },
			func(c *api.Command) *int { return &c.To }, func(c *api.Command) *int { return &c.At.X }, func(c *api.Command) *int { return &c.At.Y },
			func(c *api.Command) *int { return &c.Client }, func(c *api.Command) *int { return &c.Session },
			func(c *api.Command) *int { return &c.Rect.X0 }, func(c *api.Command) *int { return &c.Rect.Y0 },
			func(c *api.Command) *int { return &c.Rect.X1 }, func(c *api.Command) *int { return &c.Rect.Y1 },
		} {
			with(func(x *api.Note) { *at(&x.Watch[i])++ })
		}
		with(func(x *api.Note) { x.Watch[i].F[3].N++ })
		with(func(x *api.Note) { x.Watch[i].F[0].Text += "a" })
		with(func(x *api.Note) { x.Watch[i].Value.N++ })
		with(func(x *api.Note) { x.Watch[i].Value.Text += "a" })
		with(func(x *api.Note) { x.Watch = slices.Delete(x.Watch, i, i+1) })
	}
	return l
}

// P17.1
func TestSameIsAllParts(t *testing.T) {
	r := rand.New(rand.NewSource(173))
	l := append(goodNotes(), wrongNotes()[:20]...)
	for range 60 {
		l = append(l, someNote(r))
	}
	for _, n := range l {
		if !note.Same(n, copied(n)) {
			t.Fatalf("%+v isn't the same as itself", n)
		}
		for _, x := range differs(n) {
			if alike(n, x) { // one of several that are alike is gone, and another one came
				continue
			}
			if note.Same(n, x) || note.Same(x, n) {
				t.Fatalf("%+v is the same as %+v", n, x)
			}
		}
	}
}

// P17.1
func TestSameRows(t *testing.T) {
	a, b := made(1, 2, 3), made(2, 3, 4)
	none := api.Note{Moved: []api.Thing{}, Hands: []api.Hand{}, Given: []api.Thing{}, Watch: []api.Command{}}
	for _, c := range []struct {
		a, b api.Note
		want bool
	}{
		{api.Note{}, none, true},
		{none, api.Note{}, true},
		{none, none, true},
		{api.Note{Moved: []api.Thing{a}}, api.Note{Given: []api.Thing{a}}, false},
		{api.Note{Moved: []api.Thing{a, b}}, api.Note{Moved: []api.Thing{b, a}}, false},
		{api.Note{Given: []api.Thing{a, b}}, api.Note{Given: []api.Thing{a}}, false},
		{api.Note{Hands: []api.Hand{hand(1, 2)}}, api.Note{Hands: []api.Hand{hand(2, 1)}}, false},
		{api.Note{Watch: []api.Command{quit(1, 2), quit(2, 1)}}, api.Note{Watch: []api.Command{quit(2, 1), quit(1, 2)}}, false},
		{api.Note{From: 1}, api.Note{Beat: 1}, false},
		{api.Note{Moved: []api.Thing{made(1, 2, 3, text("north"))}}, api.Note{Moved: []api.Thing{made(1, 2, 3, text(strings.Clone("north")))}}, true}, // texts that lie elsewhere
	} {
		if got := note.Same(c.a, c.b); got != c.want {
			t.Errorf("Same(%+v, %+v): %v", c.a, c.b, got)
		}
	}
}

// P17.2: no note comes to more than MaxBytes: so the greatest one is told.
func TestTheGreatestNoteIsTold(t *testing.T) {
	long := text(strings.Repeat("z", api.MaxText))
	n := api.Note{From: 3, Beat: api.MaxBeat}
	for c := range 15 {
		n.Hands = append(n.Hands, hand(c, 2))
	}
	for i := range api.MaxThings {
		n.Moved = append(n.Moved, made(1000000-api.MaxThings+1+i, 63, 63, long, long, long, long))
		n.Given = append(n.Given, made(1000000-api.MaxThings+1+i, 47, 47, long, long, long, long))
	}
	n.Watch = slices.Repeat([]api.Command{join(3, 1000000, api.Rect{X0: -1000, Y0: -1000, X1: 1000, Y1: 1000})}, api.MaxOpen)
	wantIs(t, n, "the greatest")
	s, _ := note.Bytes(n)
	if b, _, _ := sum.Open(s); len(b) < 20000 || len(b) > api.MaxBytes {
		t.Errorf("%d bytes", len(b))
	}
}

// P17.2: the errors of sum's Open ahead of all.
func TestReadTellsFirstWhatOpenTells(t *testing.T) {
	large := sum.Wrap(strings.Repeat("\x00", api.MaxBytes+1))
	s, _ := note.Bytes(api.Note{From: 1, Beat: 3, Watch: []api.Command{quit(1, 1)}})
	for _, c := range []struct {
		s    string
		want api.Errno
	}{
		{"", api.ErrShort},
		{"\x80", api.ErrShort},
		{"\x05", api.ErrShort},
		{"\x00\x00\x00\x00", api.ErrShort},
		{"\x80\x00", api.ErrForm},
		{strings.Repeat("\xff", 10), api.ErrForm},
		{strings.Repeat("\xff", 9) + "\x01", api.ErrLarge},
		{large, api.ErrLarge},
		{large[:3], api.ErrLarge},
		{"\xc1\xb8\x02", api.ErrLarge},
		{"\xc0\xb8\x02", api.ErrShort},
		{"\x00\x00\x00\x00\x01", api.ErrSum},
		{"\x03\xff\xff\xff\x00\x00\x00\x00", api.ErrSum}, // that it is no note isn't asked
		{sum.Wrap("\xff\xff\xff"), api.ErrForm},
		{sum.Wrap(""), api.ErrForm},
		{sum.Wrap(strings.Repeat("\x00", api.MaxBytes)), api.ErrForm},
		{sum.Wrap(strings.Repeat("\xff", api.MaxBytes)), api.ErrForm},
		{sum.Wrap(strings.Repeat("\x01", api.MaxBytes)), api.ErrForm},
		{"\x00" + s, api.ErrSum},
	} {
		wantRead(t, c.s, api.Note{}, 0, c.want)
	}
	for k := range len(s) {
		wantRead(t, s[:k], api.Note{}, 0, api.ErrShort)
	}
	wantRead(t, "\x00\x00\x00\x00\x00"+s, api.Note{}, 0, api.ErrForm)
}

// P17.2: what is framed is no note, or isn't told so.
func TestReadRefusesWhatIsNoNote(t *testing.T) {
	for _, n := range append(goodNotes(), wrongNotes()...) {
		b := written(n)
		told, e := note.Bytes(n)
		if e == api.OK && told != sum.Wrap(b) {
			t.Fatalf("Bytes(%+v): %x: the rows below aren't what they are taken for", n, told)
		}
		if e != api.OK && !hidden(n) {
			wantRead(t, sum.Wrap(b), api.Note{}, 0, api.ErrForm)
		}
		if e == api.OK {
			for _, tail := range []string{"\x00", "\x01", "\x80", b, "tail"} {
				wantRead(t, sum.Wrap(b+tail), api.Note{}, 0, api.ErrForm)
			}
			for k := range len(b) {
				wantRead(t, sum.Wrap(b[:k]), api.Note{}, 0, api.ErrForm)
			}
		}
	}
	for n := range 3 {
		for _, more := range []int{201, 202, 70000} {
			b := "\x00\x00" + strings.Repeat("\x00", n) + put(more) + strings.Repeat("\x00", 3-n)
			wantRead(t, sum.Wrap(b), api.Note{}, 0, api.ErrForm)
		}
	}
	here := many(201, 5, api.Point{X: 1, Y: 1})
	for _, n := range []api.Note{
		{Moved: here},
		{Hands: []api.Hand{hand(0, 1)}, Given: here},
		{Watch: slices.Repeat([]api.Command{quit(1, 1)}, 21)},
		{Hands: slices.Repeat([]api.Hand{hand(15, 1)}, 17)},
	} {
		wantRead(t, sum.Wrap(written(n)), api.Note{}, 0, api.ErrForm)
	}
}

// hidden: what is wrong of n, a part that a command or a field doesn't have, isn't written.
func hidden(n api.Note) bool {
	for _, c := range n.Watch {
		x := api.Command{Kind: c.Kind, Client: c.Client, Session: c.Session}
		if c.Kind == 6 || c.Kind == 7 {
			x.Rect = c.Rect
		}
		if x != c && cmd.Is(x) && cmd.Watches(x) {
			return true
		}
	}
	for _, x := range slices.Concat(n.Moved, n.Given) {
		for _, f := range x.F {
			if f.N != 0 && f.Text != "" {
				return true
			}
		}
	}
	return false
}

// P17.2: numbers that are told longer than need be, or are far beyond, with a sum that is right.
func TestReadRefusesNumbersThatAreNotTold(t *testing.T) {
	ill := strings.Repeat("\xff", 9) + "\x02"
	huge := strings.Repeat("\xff", 9) + "\x01"
	half := strings.Repeat("\x80", 9) + "\x01" // 2^63
	for _, b := range []string{
		"\x80\x00" + strings.Repeat("\x00", 5),
		"\x00\x81\x00" + strings.Repeat("\x00", 4),
		"\x00\x00\x80\x00\x00\x00\x00",
		"\x00\x00\x00\x80\x00\x00\x00",
		"\x00\x00\x00\x00\x80\x00\x00",
		"\x00\x00\x00\x00\x00\x80\x00",
		"\x01\x00\x00\x01\x83\x00\x00\x00\x00",
		"\x01\x00\x00\x01\x03\x80\x00\x00\x00",
	} {
		wantRead(t, sum.Wrap(b), api.Note{}, 0, api.ErrForm)
	}
	for _, n := range []string{ill, huge, half, put(1 << 32), put(1<<32 + 1), put(1 << 62), put(-1), put(-4), put(math.MinInt + 1)} {
		for at := range 6 {
			b := strings.Repeat("\x00", at) + n + strings.Repeat("\x00", 5-at)
			wantRead(t, sum.Wrap(b), api.Note{}, 0, api.ErrForm)
		}
		wantRead(t, sum.Wrap("\x01\x00\x00\x01"+n+"\x00\x00\x00"), api.Note{}, 0, api.ErrForm)
		wantRead(t, sum.Wrap("\x01\x00\x00\x01\x03"+n+"\x00\x00"), api.Note{}, 0, api.ErrForm)
	}
	// As they are without those numbers.
	wantRead(t, sum.Wrap(strings.Repeat("\x00", 6)), api.Note{}, 11, api.OK)
	wantRead(t, sum.Wrap("\x01\x00\x00\x01\x03\x00\x00\x00"), api.Note{From: 1, Hands: []api.Hand{hand(3, 0)}}, 13, api.OK)
}

// P17.2: whatever is framed with a sum that is right: what is read is told so, all else is ErrForm.
func TestReadOfWhateverIsFramed(t *testing.T) {
	r := rand.New(rand.NewSource(174))
	read := 0
	check := func(b string) {
		s := sum.Wrap(b)
		n, k, e := note.Read(s + "more")
		if e == api.OK {
			read++
			if again, f := note.Bytes(n); again != s || k != len(s) || f != api.OK {
				t.Fatalf("Read(%x): %+v, %d, of which Bytes tells %x, %d", s, n, k, again, f)
			}
		} else if !alike(n, api.Note{}) || k != 0 || e != api.ErrForm {
			t.Fatalf("Read(%x): %+v, %d, %d", s, n, k, e)
		}
	}
	for _, n := range goodNotes() {
		b := written(n)
		for at := range len(b) {
			for bit := range 8 {
				x := []byte(b)
				x[at] ^= 1 << bit
				check(string(x))
			}
			check(b[:at] + b[at+1:])
			check(b[:at] + "\x00" + b[at:])
			check(b[:at] + "\x01" + b[at:])
		}
	}
	for range 20000 {
		x := make([]byte, r.Intn(16))
		for i := range x {
			x[i] = byte(r.Intn(4))
			if r.Intn(9) == 0 {
				x[i] = byte(r.Intn(256))
			}
		}
		check(string(x))
	}
	if read < 500 {
		t.Errorf("%d of them are notes", read)
	}
}

// P17.3
func TestABitThatIsTurnedIsSeen(t *testing.T) {
	r := rand.New(rand.NewSource(175))
	l := goodNotes()
	for range 60 {
		l = append(l, someNote(r))
	}
	for _, n := range l {
		s, _ := note.Bytes(n)
		for at := range len(s) {
			for bit := range 8 {
				x := []byte(s)
				x[at] ^= 1 << bit
				for _, tail := range []string{"", s} {
					if m, k, e := note.Read(string(x) + tail); e == api.OK || k != 0 || !alike(m, api.Note{}) {
						t.Fatalf("Read of %x, bit %d of byte %d turned: %+v, %d, %d", s, bit, at, m, k, e)
					}
				}
			}
		}
	}
}

// P17.3: one behind the other, from the front.
func TestNotesBehindOneAnother(t *testing.T) {
	r := rand.New(rand.NewSource(176))
	for range 100 {
		var l []api.Note
		all := ""
		for range r.Intn(8) {
			l = append(l, someNote(r))
			s, _ := note.Bytes(l[len(l)-1])
			all += s
		}
		for _, want := range l {
			n, k, e := note.Read(all)
			if !note.Same(n, want) || e != api.OK {
				t.Fatalf("Read(%x): %+v, %d, %d; want %+v", all, n, k, e, want)
			}
			all = all[k:]
		}
		wantRead(t, all, api.Note{}, 0, api.ErrShort)
	}
}

// P17.2: two notes that aren't the same aren't told the same.
func TestOtherNotesAreToldOtherwise(t *testing.T) {
	r := rand.New(rand.NewSource(177))
	l := goodNotes()
	for range 40 {
		l = append(l, someNote(r))
	}
	for _, n := range l {
		s, _ := note.Bytes(n)
		for _, x := range differs(n) {
			if u, e := note.Bytes(x); e == api.OK && s == u && !alike(n, x) {
				t.Fatalf("Bytes(%+v) and Bytes(%+v): %x", n, x, s)
			}
		}
	}
}

// Rule 3 of what holds everywhere: what is handed in stays as it is, its spare room too.
func TestNothingHandedInIsChanged(t *testing.T) {
	r := rand.New(rand.NewSource(178))
	for range 200 {
		n := strange(r)
		room := copied(n)
		room.Moved = append(room.Moved, made(7, 7, 7), made(8, 8, 8))
		room.Hands = append(room.Hands, hand(7, 7), hand(8, 8))
		room.Given = append(room.Given, made(7, 7, 7), made(8, 8, 8))
		room.Watch = append(room.Watch, quit(1, 7), quit(1, 8))
		was := copied(room)
		x := n
		x.Moved, x.Hands, x.Given, x.Watch = room.Moved[:len(n.Moved)], room.Hands[:len(n.Hands)], room.Given[:len(n.Given)], room.Watch[:len(n.Watch)]
		a, b := note.Is(x, 4), note.Is(n, 4)
		s, e := note.Bytes(x)
		u, f := note.Bytes(n)
		if a != b || s != u || e != f || !note.Same(x, n) || !note.Same(n, x) {
			t.Fatalf("%+v is told otherwise where there is room behind it", n)
		}
		if !alike(room, was) {
			t.Fatalf("%+v is changed to %+v", was, room)
		}
	}
}

// Rule 3 of what holds everywhere: no list that is read is touched by what is done with another one.
func TestWhatIsReadIsNewMemory(t *testing.T) {
	r := rand.New(rand.NewSource(179))
	for range 100 {
		n := someNote(r)
		s, _ := note.Bytes(n)
		for i := range 4 {
			a, _, _ := note.Read(s)
			b, _, _ := note.Read(s)
			want := copied(n)
			switch i {
			case 0:
				spoil(a.Moved, made(-1, -1, -1, text("spoilt")))
				a.Moved = nil
				want.Moved = nil
			case 1:
				spoil(a.Hands, hand(-1, -1))
				a.Hands = nil
				want.Hands = nil
			case 2:
				spoil(a.Given, made(-1, -1, -1, text("spoilt")))
				a.Given = nil
				want.Given = nil
			case 3:
				spoil(a.Watch, quit(-1, -1))
				a.Watch = nil
				want.Watch = nil
			}
			if !alike(a, want) || !alike(b, n) {
				t.Fatalf("what is read of %+v is touched: %+v, %+v", n, a, b)
			}
			wantRead(t, s, n, len(s), api.OK)
		}
	}
	s, _ := note.Bytes(api.Note{Moved: []api.Thing{made(1, 1, 1, number(0), number(0), number(0), text("north"))}})
	n, _, _ := note.Read(s)
	got := unsafe.StringData(n.Moved[0].F[3].Text)
	if got == unsafe.StringData(s[strings.Index(s, "north"):]) {
		t.Error("a text is a piece of what was handed in")
	}
}

// spoil: all that l has, its spare room too, becomes x.
func spoil[T any](l []T, x T) {
	l = l[:cap(l)]
	for i := range l {
		l[i] = x
	}
}
