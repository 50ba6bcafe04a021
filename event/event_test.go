package event_test

import (
	"encoding/binary"
	"maps"
	"math"
	"math/rand"
	"slices"
	"strings"
	"testing"
	"unsafe"

	"vedette/api"
	"vedette/event"
	"vedette/fields"
	"vedette/thing"
)

func number(n int64) api.Field { return api.Field{N: n} }

func text(s string) api.Field { return api.Field{Text: s} }

func made(id, x, y int, f ...api.Field) api.Thing {
	t := api.Thing{ID: id, At: api.Point{X: x, Y: y}}
	copy(t.F[:], f)
	return t
}

func enter(t api.Thing) api.Event { return api.Event{Kind: 1, ID: t.ID, Thing: t} }

func update(d api.Delta) api.Event { return api.Event{Kind: 2, ID: d.ID, Delta: d} }

func leave(id int) api.Event { return api.Event{Kind: 3, ID: id} }

func moves(id, x, y int) api.Event {
	return update(api.Delta{ID: id, Mask: 1, At: api.Point{X: x, Y: y}})
}

// sets: field i of the thing id becomes f.
func sets(id, i int, f api.Field) api.Event {
	d := api.Delta{ID: id, Mask: 2 << i}
	d.F[i] = f
	return update(d)
}

// put: a number as bytes, by another one's hand than num.
func put(n uint64) string { return string(binary.AppendUvarint(nil, n)) }

// field: a field as bytes.
func field(f api.Field) string {
	if f.Text != "" {
		return put(uint64(len(f.Text))) + f.Text
	}
	return "\x00" + string(binary.AppendVarint(nil, f.N))
}

// one: the bytes of an event, part by part, whether it is one or not.
func one(e api.Event) string {
	d := e.Delta
	switch e.Kind {
	case 3:
		return "\x03" + put(uint64(e.ID))
	case 1:
		d = api.Delta{ID: e.Thing.ID, Mask: 31, At: e.Thing.At, F: e.Thing.F}
	}
	s := put(uint64(e.Kind)) + put(uint64(d.ID)) + put(uint64(d.Mask))
	if d.Mask&1 > 0 {
		s += put(uint64(d.At.X)) + put(uint64(d.At.Y))
	}
	for i, f := range d.F {
		if d.Mask&(2<<i) > 0 {
			s += field(f)
		}
	}
	return s
}

// written: the bytes of many, whether they may stand so or not.
func written(l ...api.Event) string {
	s := put(uint64(len(l)))
	for _, e := range l {
		s += one(e)
	}
	return s
}

// someField: a field as it may be, often one at an end.
func someField(r *rand.Rand) api.Field {
	ends := []int64{1, -1, 63, 64, -64, -65, math.MaxInt64, math.MinInt64}
	switch r.Intn(5) {
	case 0:
		return number(int64(r.Uint64()))
	case 1:
		return number(ends[r.Intn(len(ends))])
	case 2:
		return text(strings.Repeat(string(rune('a'+r.Intn(2))), r.Intn(api.MaxText+1)))
	case 3:
		return text(string([]byte{byte(r.Intn(256)), byte(r.Intn(256))}))
	}
	return api.Field{}
}

// someThing: a thing as it may be, of that number.
func someThing(r *rand.Rand, id int) api.Thing {
	return made(id, r.Intn(api.Size), r.Intn(api.Size), someField(r), someField(r), someField(r), someField(r))
}

// someEvent: an event as it may be, about the thing of that number.
func someEvent(r *rand.Rand, id int) api.Event {
	switch r.Intn(3) {
	case 0:
		return enter(someThing(r, id))
	case 1:
		return leave(id)
	}
	d := api.Delta{ID: id, Mask: uint8(1 + r.Intn(31))}
	if d.Mask&1 > 0 {
		d.At = api.Point{X: r.Intn(api.Size), Y: r.Intn(api.Size)}
	}
	for i := range d.F {
		if d.Mask&(2<<i) > 0 {
			d.F[i] = someField(r)
		}
	}
	return update(d)
}

// someEvents: n of them, about few things and far ones.
func someEvents(r *rand.Rand, n int) []api.Event {
	var l []api.Event
	for range n {
		ids := []int{0, 1, 127, 128, 999999, 1000000, r.Intn(1000001)}
		l = append(l, someEvent(r, ids[r.Intn(len(ids))]))
	}
	return l
}

// goodEvents: each is one, many of them at an end.
func goodEvents() []api.Event {
	long := strings.Repeat("a", 12)
	return []api.Event{
		enter(api.Thing{}),
		enter(made(1000000, 63, 63, text(long), number(math.MinInt64), text("\x00"), number(math.MaxInt64))),
		enter(made(7, 63, 0)),
		update(api.Delta{Mask: 1}),
		update(api.Delta{ID: 1000000, Mask: 31, At: api.Point{X: 63, Y: 63}}),
		update(api.Delta{ID: 5, Mask: 31}),
		update(api.Delta{ID: 5, Mask: 30}),
		moves(5, 63, 63),
		sets(5, 0, text(long)),
		sets(5, 1, number(-1)),
		sets(5, 2, api.Field{}),
		sets(5, 3, text(strings.Repeat("é", 6))),
		leave(0),
		leave(1),
		leave(999999),
		leave(1000000),
	}
}

// far: numbers that are none of a thing, some of them alike to one in their lower bits.
func far() []int {
	return []int{-1, -2, 1000001, 1000002, 1 << 32, 1<<32 + 5, -1 << 32, math.MaxInt32, math.MinInt32, math.MaxInt, math.MinInt, math.MinInt + 5}
}

// wrongEvents: none of them is an event, each for one reason.
func wrongEvents() []api.Event {
	var l []api.Event
	for _, id := range far() {
		l = append(l, leave(id), enter(made(id, 1, 1)), moves(id, 1, 1))
	}
	// Things that are none.
	for _, p := range []api.Point{{X: 64}, {Y: 64}, {X: -1}, {Y: -1}, {X: 1 << 32}, {Y: 1<<32 + 1}, {X: math.MaxInt}, {Y: math.MinInt}} {
		l = append(l, enter(made(5, p.X, p.Y)), moves(5, p.X, p.Y))
	}
	for i := range api.Fields {
		for _, f := range []api.Field{{N: 1, Text: "a"}, {N: math.MinInt64, Text: "\x00"}, text(strings.Repeat("a", 13)), text(strings.Repeat("é", 7))} {
			x := made(5, 1, 1)
			x.F[i] = f
			l = append(l, enter(x), sets(5, i, f))
		}
	}
	// Changes that are none.
	for _, mask := range []uint8{0, 32, 33, 63, 64, 128, 129, 255} {
		l = append(l, update(api.Delta{ID: 5, Mask: mask}))
	}
	l = append(l, update(api.Delta{ID: 5, Mask: 2, At: api.Point{X: 1}}))
	for i := range api.Fields {
		d := api.Delta{ID: 5, Mask: 31 &^ (2 << i)}
		d.F[i] = number(1)
		l = append(l, update(d))
	}
	// Each good one with a number, a kind that isn't its, or with something that its kind doesn't have.
	for _, e := range goodEvents() {
		x := e
		x.ID++
		if e.Kind == 3 {
			x.ID = 1000001 + e.ID
		}
		y := e
		y.ID += 1 << 32
		l = append(l, x, y)
		for _, kind := range []int{0, -1, 4, 5, -3, 256, 257, 258, 259, 1 << 32, 1<<32 + 1, 1<<32 + 2, 1<<32 + 3, math.MinInt, math.MaxInt} {
			x := e
			x.Kind = kind
			l = append(l, x)
		}
		l = append(l, spare(e)...)
	}
	return append(l, api.Event{}, api.Event{Kind: 1, ID: 5}, api.Event{Kind: 2}, api.Event{Kind: 2, ID: 5}, api.Event{ID: 5})
}

// spare: e with each part in turn that its kind doesn't have.
func spare(e api.Event) []api.Event {
	things := []api.Thing{{ID: 1}, {ID: -1}, made(0, 1, 0), made(0, 0, 1), made(e.ID, 1, 1)}
	deltas := []api.Delta{{ID: 1}, {ID: -1}, {Mask: 1}, {Mask: 255}, {At: api.Point{X: 1}}, {At: api.Point{Y: 1}}, {ID: e.ID, Mask: 1}}
	for i := range api.Fields {
		t, u := api.Thing{}, api.Thing{}
		t.F[i], u.F[i] = number(1), text("a")
		things = append(things, t, u)
		deltas = append(deltas, api.Delta{F: t.F}, api.Delta{F: u.F})
	}
	var l []api.Event
	for _, t := range things {
		if x := e; e.Kind != 1 {
			x.Thing = t
			l = append(l, x)
		}
	}
	for _, d := range deltas {
		if x := e; e.Kind != 2 {
			x.Delta = d
			l = append(l, x)
		}
	}
	return l
}

func wantBytes(t *testing.T, l []api.Event, want string, e api.Errno) {
	t.Helper()
	if s, f := event.Bytes(l); s != want || f != e {
		t.Errorf("Bytes(%v): %x, %d; want %x, %d", l, s, f, want, e)
	}
}

func wantRead(t *testing.T, s string, l []api.Event, size int, e api.Errno) {
	t.Helper()
	if gl, gs, ge := event.Read(s); !slices.Equal(gl, l) || gs != size || ge != e {
		t.Errorf("Read(%x): %v, %d, %d; want %v, %d, %d", s, gl, gs, ge, l, size, e)
	}
}

// wantFold: what comes of l by es; if ok is false, l as it is.
func wantFold(t *testing.T, l []api.Thing, es []api.Event, want []api.Thing, ok bool) {
	t.Helper()
	if !ok {
		want = l
	}
	if got, gok := event.Fold(l, es); !slices.Equal(got, want) || gok != ok {
		t.Errorf("Fold(%v, %v): %v, %v; want %v, %v", l, es, got, gok, want, ok)
	}
	if len(es) != 1 {
		return
	}
	if got, gok := event.Apply(l, es[0]); !slices.Equal(got, want) || gok != ok {
		t.Errorf("Apply(%v, %v): %v, %v; want %v, %v", l, es[0], got, gok, want, ok)
	}
}

// P15.1, P15.2
func TestIsTakes(t *testing.T) {
	l := goodEvents()
	r := rand.New(rand.NewSource(151))
	for _, e := range append(l, someEvents(r, 3000)...) {
		if !event.Is(e) {
			t.Errorf("%+v isn't Is", e)
		}
		s := "\x01" + one(e)
		wantBytes(t, []api.Event{e}, s, api.OK)
		wantRead(t, s, []api.Event{e}, len(s), api.OK)
	}
}

// P15.1, and what hangs on it in P15.2 and P15.3
func TestIsRefuses(t *testing.T) {
	l := []api.Thing{{}, made(5, 1, 1), made(7, 2, 2)}
	for _, e := range wrongEvents() {
		if event.Is(e) {
			t.Errorf("%+v is Is", e)
		}
		wantBytes(t, []api.Event{e}, "", api.ErrForm)
		wantFold(t, l, []api.Event{e}, nil, false)
		wantFold(t, nil, []api.Event{e}, nil, false)
	}
}

// P15.1
func TestSameIsAllPartsOfAll(t *testing.T) {
	r := rand.New(rand.NewSource(152))
	wrong := wrongEvents()
	for range 300 {
		l := append(someEvents(r, r.Intn(5)), wrong[r.Intn(len(wrong))])
		if !event.Same(l, slices.Clone(l)) {
			t.Fatalf("%v isn't the same as itself", l)
		}
		at := r.Intn(len(l))
		for _, e := range differs(l[at]) {
			m := slices.Clone(l)
			m[at] = e
			if event.Same(l, m) || event.Same(m, l) {
				t.Fatalf("%v is the same as %v", l, m)
			}
		}
		m := append(slices.Clone(l), l[at])
		if event.Same(l, m) || event.Same(m, l) {
			t.Fatalf("%v is the same as %v", l, m)
		}
	}
}

// differs: e with each part in turn another one.
func differs(e api.Event) []api.Event {
	var l []api.Event
	with := func(change func(x *api.Event)) {
		x := e
		change(&x)
		l = append(l, x)
	}
	with(func(x *api.Event) { x.Kind++ })
	with(func(x *api.Event) { x.ID++ })
	with(func(x *api.Event) { x.Thing.ID++ })
	with(func(x *api.Event) { x.Thing.At.X++ })
	with(func(x *api.Event) { x.Thing.At.Y-- })
	with(func(x *api.Event) { x.Delta.ID++ })
	with(func(x *api.Event) { x.Delta.Mask ^= 128 })
	with(func(x *api.Event) { x.Delta.At.X++ })
	with(func(x *api.Event) { x.Delta.At.Y-- })
	for i := range api.Fields {
		with(func(x *api.Event) { x.Thing.F[i].N++ })
		with(func(x *api.Event) { x.Thing.F[i].Text += "\x00" })
		with(func(x *api.Event) { x.Delta.F[i].N++ })
		with(func(x *api.Event) { x.Delta.F[i].Text += "\x00" })
	}
	return l
}

// P15.1
func TestSameRows(t *testing.T) {
	a, b := leave(1), moves(2, 3, 4)
	here, there := enter(made(1, 2, 3, text("north"))), enter(made(1, 2, 3, text(strings.Clone("north"))))
	for _, c := range []struct {
		a, b []api.Event
		want bool
	}{
		{nil, nil, true},
		{nil, []api.Event{}, true},
		{[]api.Event{}, nil, true},
		{nil, []api.Event{{}}, false},
		{[]api.Event{{}}, nil, false},
		{[]api.Event{{}}, []api.Event{{}}, true},
		{[]api.Event{a, b}, []api.Event{a, b}, true},
		{[]api.Event{a, b}, []api.Event{b, a}, false},
		{[]api.Event{a, a}, []api.Event{a}, false},
		{[]api.Event{a, b, a}, []api.Event{a, b, b}, false},
		{[]api.Event{here}, []api.Event{there}, true}, // texts that lie elsewhere
	} {
		if got := event.Same(c.a, c.b); got != c.want {
			t.Errorf("Same(%v, %v): %v", c.a, c.b, got)
		}
	}
}

// P15.2
func TestBytesRows(t *testing.T) {
	for _, c := range []struct {
		l    []api.Event
		want string
	}{
		{nil, "\x00"},
		{[]api.Event{}, "\x00"},
		{[]api.Event{leave(0)}, "\x01\x03\x00"},
		{[]api.Event{leave(127), leave(128), leave(127)}, "\x03\x03\x7f\x03\x80\x01\x03\x7f"},
		{[]api.Event{leave(1000000)}, "\x01\x03\xc0\x84\x3d"},
		{[]api.Event{enter(made(9, 3, 63, number(-5), text("ab")))}, "\x01\x01\x09\x1f\x03\x3f\x00\x09\x02ab\x00\x00\x00\x00"},
		{[]api.Event{moves(300, 1, 2)}, "\x01\x02\xac\x02\x01\x01\x02"},
		{[]api.Event{sets(5, 3, text("a")), sets(5, 0, number(-1)), sets(5, 1, api.Field{})}, "\x03\x02\x05\x10\x01a\x02\x05\x02\x00\x01\x02\x05\x04\x00\x00"},
		{[]api.Event{leave(5), enter(made(5, 1, 2)), moves(5, 2, 2), leave(5)}, "\x04\x03\x05\x01\x05\x1f\x01\x02\x00\x00\x00\x00\x00\x00\x00\x00\x02\x05\x01\x02\x02\x03\x05"},
	} {
		wantBytes(t, c.l, c.want, api.OK)
		wantRead(t, c.want, c.l, len(c.want), api.OK)
	}
}

// P15.2
func TestAsManyAsMayBe(t *testing.T) {
	r := rand.New(rand.NewSource(153))
	for _, n := range []int{127, 128, 200, 201, 399, 400} {
		l := someEvents(r, n)
		s := written(l...)
		wantBytes(t, l, s, api.OK)
		wantRead(t, s, l, len(s), api.OK)
	}
	for _, n := range []int{401, 402, 800, 65536, 70000} {
		l := slices.Repeat([]api.Event{leave(1)}, n)
		wantBytes(t, l, "", api.ErrLarge)
		wantRead(t, written(l...), nil, 0, api.ErrLarge)
	}
}

// P15.2: of several errors the first that the chapter names.
func TestBytesLooksAtAllFirst(t *testing.T) {
	for _, n := range []int{1, 2, 399, 400, 401, 402, 1000} {
		for _, at := range []int{0, 1, n / 2, 399, 400, 401, n - 1} {
			if at >= n {
				continue
			}
			for _, x := range []api.Event{{}, leave(-1), enter(made(1, 64, 0))} {
				l := slices.Repeat([]api.Event{leave(1)}, n)
				l[at] = x
				if s, e := event.Bytes(l); s != "" || e != api.ErrForm {
					t.Errorf("Bytes of %d, %v at %d: %x, %d", n, x, at, s, e)
				}
			}
		}
	}
}

// P15.2
func TestReadRefuses(t *testing.T) {
	ill := strings.Repeat("\xff", 9) + "\x02"
	huge := strings.Repeat("\xff", 9) + "\x01"
	late := "\xc1\x84\x3d" // 1000001
	for _, c := range []struct {
		s    string
		want api.Errno
	}{
		// How many.
		{"", api.ErrShort},
		{"\x80", api.ErrShort},
		{"\x80\x00", api.ErrForm},
		{"\x90\x83\x00", api.ErrForm},
		{ill, api.ErrForm},
		{huge, api.ErrLarge},
		{"\x91\x03", api.ErrLarge},
		{"\x91\x03\x00", api.ErrLarge},
		{"\x90\x03", api.ErrShort},
		{put(1<<32 + 1), api.ErrLarge},
		{put(1<<63) + "\x03\x01", api.ErrLarge},
		{"\x02\x03\x05", api.ErrShort},
		// The Kind.
		{"\x01", api.ErrShort},
		{"\x01\x80", api.ErrShort},
		{"\x01\x83\x00\x05", api.ErrForm},
		{"\x01" + ill, api.ErrForm},
		{"\x01\x00", api.ErrForm},
		{"\x01\x00\x05", api.ErrForm},
		{"\x01\x04", api.ErrForm},
		{"\x01\x7f", api.ErrForm},
		{"\x01" + huge, api.ErrForm},
		{"\x01" + put(256+3) + "\x05", api.ErrForm},
		{"\x01" + put(1<<32+3) + "\x05", api.ErrForm},
		{"\x01" + put(1<<63+3) + "\x05", api.ErrForm},
		// Who leaves.
		{"\x01\x03", api.ErrShort},
		{"\x01\x03\x80", api.ErrShort},
		{"\x01\x03\x85\x00", api.ErrForm},
		{"\x01\x03" + ill, api.ErrForm},
		{"\x01\x03" + huge, api.ErrForm},
		{"\x01\x03" + late, api.ErrForm},
		{"\x01\x03" + put(1<<32+5), api.ErrForm},
		{"\x01\x03" + put(1<<63+5), api.ErrForm},
		// Who enters.
		{"\x01\x01", api.ErrShort},
		{"\x01\x01" + late, api.ErrShort},
		{"\x01\x01" + late + "\x1f", api.ErrForm},
		{"\x01\x01\x07\x01\x00\x00", api.ErrForm},
		{"\x01\x01\x07\x1e\x00\x00\x00\x00\x00\x00\x00\x00", api.ErrForm},
		{"\x01\x01\x07\x1f\x40\x00\x00\x00\x00\x00\x00\x00\x00\x00", api.ErrForm},
		{"\x01\x01\x07\x1f\x40\x00\x0d", api.ErrLarge},
		{"\x01\x01\x07\x1f\x40\x00\x0c", api.ErrShort},
		// What changes.
		{"\x01\x02", api.ErrShort},
		{"\x01\x02" + late + "\x01", api.ErrForm},
		{"\x01\x02\x03\x00", api.ErrForm},
		{"\x01\x02\x03\x20", api.ErrForm},
		{"\x01\x02\x03\x01\x40\x00", api.ErrForm},
		{"\x01\x02\x03\x02\x0d", api.ErrLarge},
		{"\x01\x02\x03\x02\x0c", api.ErrShort},
		// From the front on: what is ahead is told of first.
		{"\x02\x00\x03" + late, api.ErrForm},
		{"\x02\x03\x05\x02\x03\x02\x0d", api.ErrLarge},
		{"\x03\x03\x05\x03" + late + "\x02\x03\x02\x0d", api.ErrForm},
		{"\x03\x03\x05\x02\x03\x02\x0d\x03" + late, api.ErrLarge},
		{"\x02\x03\x05\x04", api.ErrForm},
		{"\x02\x03\x05\x03\xff", api.ErrShort},
	} {
		wantRead(t, c.s, nil, 0, c.want)
	}
}

// P15.2, P15.4: what was written is read, whatever comes behind it; and all of it is needed.
func TestWhatWasWrittenIsRead(t *testing.T) {
	r := rand.New(rand.NewSource(154))
	for range 400 {
		l := someEvents(r, r.Intn(6))
		s := written(l...)
		wantBytes(t, l, s, api.OK)
		for _, tail := range []string{"", "\x00", "\x80", "\xff", "tail", s} {
			wantRead(t, s+tail, l, len(s), api.OK)
		}
		for i := range s {
			wantRead(t, s[:i], nil, 0, api.ErrShort)
		}
		if t.Failed() {
			return
		}
	}
}

// wantedRead: what the chapter says of whatever bytes, by calls of the layers below for the parts.
func wantedRead(s string) ([]api.Event, int, api.Errno) {
	pos := 0
	var e api.Errno
	next := func(most uint64, beyond api.Errno) uint64 {
		n, k := binary.Uvarint([]byte(s[pos:]))
		switch {
		case e != api.OK:
		case k == 0 && len(s)-pos < 10:
			e = api.ErrShort
		case k <= 0 || k > 1 && s[pos+k-1] == 0:
			e = api.ErrForm
		case n > most:
			e = beyond
		default:
			pos += k
			return n
		}
		return 0
	}
	n := next(400, api.ErrLarge)
	var l []api.Event
	for e == api.OK && uint64(len(l)) < n {
		x := api.Event{Kind: int(next(3, api.ErrForm))}
		if e != api.OK {
			break
		}
		k := 0
		switch x.Kind {
		case 0:
			e = api.ErrForm
		case 1:
			x.Thing, k, e = thing.Read(s[pos:])
			x.ID = x.Thing.ID
		case 2:
			x.Delta, k, e = fields.Read(s[pos:])
			x.ID = x.Delta.ID
		case 3:
			x.ID = int(next(1000000, api.ErrForm))
		}
		l, pos = append(l, x), pos+k
	}
	if e != api.OK {
		return nil, 0, e
	}
	return l, pos, api.OK
}

// spoilt: bytes with one or two places changed, put in, or gone.
func spoilt(r *rand.Rand, s []byte) string {
	odd := []byte{0, 1, 2, 3, 4, 12, 13, 15, 30, 31, 32, 63, 64, 127, 128, 129, 255}
	for range 1 + r.Intn(2) {
		i := r.Intn(len(s))
		switch r.Intn(4) {
		case 0:
			s[i] = odd[r.Intn(len(odd))]
		case 1:
			s[i] ^= 1 << r.Intn(8)
		case 2:
			s = slices.Insert(s, i, odd[r.Intn(len(odd))])
		default:
			s = append(slices.Delete(s, i, i+1), 0)
		}
	}
	return string(s)
}

// P15.2
func TestReadOfSpoiltBytes(t *testing.T) {
	r := rand.New(rand.NewSource(155))
	taken := 0
	for range 30000 {
		s := spoilt(r, []byte(written(someEvents(r, r.Intn(4))...)))
		l, size, e := wantedRead(s)
		wantRead(t, s, l, size, e)
		if e == api.OK {
			// What is read is what would be told so.
			wantBytes(t, l, s[:size], api.OK)
			taken++
		}
		if t.Failed() {
			return
		}
	}
	if taken < 1000 {
		t.Errorf("just %d were taken", taken)
	}
}

// P15.3
func TestApplyRows(t *testing.T) {
	l := []api.Thing{made(3, 1, 1, text("a")), made(7, 2, 2, number(5), text("b"))}
	for _, c := range []struct {
		l    []api.Thing
		e    api.Event
		want []api.Thing
		ok   bool
	}{
		{nil, enter(made(5, 9, 9)), []api.Thing{made(5, 9, 9)}, true},
		{nil, moves(5, 9, 9), nil, false},
		{nil, leave(5), nil, false}, // the chapter's example
		{l, enter(made(0, 9, 9)), []api.Thing{made(0, 9, 9), l[0], l[1]}, true},
		{l, enter(made(2, 9, 9)), []api.Thing{made(2, 9, 9), l[0], l[1]}, true},
		{l, enter(made(3, 9, 9)), nil, false},
		{l, enter(l[0]), nil, false},
		{l, enter(made(4, 9, 9, text("c"))), []api.Thing{l[0], made(4, 9, 9, text("c")), l[1]}, true},
		{l, enter(made(6, 9, 9)), []api.Thing{l[0], made(6, 9, 9), l[1]}, true},
		{l, enter(made(7, 9, 9)), nil, false},
		{l, enter(made(8, 1, 1)), []api.Thing{l[0], l[1], made(8, 1, 1)}, true}, // where another one is
		{l, enter(made(1000000, 9, 9)), []api.Thing{l[0], l[1], made(1000000, 9, 9)}, true},
		{l, moves(3, 63, 0), []api.Thing{made(3, 63, 0, text("a")), l[1]}, true},
		{l, moves(3, 1, 1), l, true}, // what it is already
		{l, moves(7, 5, 6), []api.Thing{l[0], made(7, 5, 6, number(5), text("b"))}, true},
		{l, moves(2, 5, 6), nil, false},
		{l, moves(5, 5, 6), nil, false},
		{l, moves(8, 5, 6), nil, false},
		{l, sets(7, 0, text("n")), []api.Thing{l[0], made(7, 2, 2, text("n"), text("b"))}, true},
		{l, sets(7, 1, api.Field{}), []api.Thing{l[0], made(7, 2, 2, number(5))}, true},
		{l, sets(3, 3, number(-4)), []api.Thing{made(3, 1, 1, text("a"), number(0), number(0), number(-4)), l[1]}, true},
		{l, update(api.Delta{ID: 7, Mask: 31}), []api.Thing{l[0], made(7, 0, 0)}, true},
		{l, leave(3), l[1:], true},
		{l, leave(7), l[:1], true},
		{l, leave(2), nil, false},
		{l, leave(4), nil, false},
		{l, leave(8), nil, false},
		{l[:1], leave(3), nil, true},
		{l[:1], leave(7), nil, false}, // it is in the spare room alone
		{l[:1], enter(made(7, 9, 9)), []api.Thing{l[0], made(7, 9, 9)}, true},
	} {
		wantFold(t, c.l, []api.Event{c.e}, c.want, c.ok)
	}
}

// model: things by their numbers, and what an event does with them.
type model map[int]api.Thing

func (m model) all() []api.Thing {
	var l []api.Thing
	for _, id := range slices.Sorted(maps.Keys(m)) {
		l = append(l, m[id])
	}
	return l
}

func (m model) do(e api.Event) bool {
	x, there := m[e.ID]
	switch {
	case there == (e.Kind == 1):
		return false
	case e.Kind == 1:
		m[e.ID] = e.Thing
	case e.Kind == 3:
		delete(m, e.ID)
	default:
		if e.Delta.Mask&1 > 0 {
			x.At = e.Delta.At
		}
		for i := range x.F {
			if e.Delta.Mask&(2<<i) > 0 {
				x.F[i] = e.Delta.F[i]
			}
		}
		m[e.ID] = x
	}
	return true
}

// P15.3
func TestApplyAgainstAModel(t *testing.T) {
	r := rand.New(rand.NewSource(156))
	for range 100 {
		m, most := model{}, 1+r.Intn(40)
		var l []api.Thing
		for range 100 {
			e := someEvent(r, r.Intn(most))
			was := slices.Clone(l)
			got, ok := event.Apply(l, e)
			if want := m.do(e); ok != want || !slices.Equal(got, m.all()) || !slices.Equal(l, was) {
				t.Fatalf("Apply(%v, %v): %v, %v; want %v, %v", was, e, got, ok, m.all(), want)
			}
			l = got
		}
	}
}

// P15.3
func TestApplyToAsManyAsATableHas(t *testing.T) {
	var l []api.Thing
	for i := range 2 * api.MaxThings {
		l = append(l, made(2*i+1, i%64, 0))
	}
	for i := range l {
		wantFold(t, l, []api.Event{leave(2*i + 1)}, slices.Delete(slices.Clone(l), i, i+1), true)
		wantFold(t, l, []api.Event{leave(2 * i)}, nil, false)
		x := made(2*i, 63, 63)
		wantFold(t, l, []api.Event{enter(x)}, slices.Insert(slices.Clone(l), i, x), true)
		wantFold(t, l, []api.Event{enter(l[i])}, nil, false)
		m := slices.Clone(l)
		m[i].At = api.Point{X: 62, Y: 1}
		wantFold(t, l, []api.Event{moves(2*i+1, 62, 1)}, m, true)
		if t.Failed() {
			return
		}
	}
}

// P15.3
func TestFoldRows(t *testing.T) {
	l := []api.Thing{made(3, 1, 1), made(7, 2, 2)}
	all := []api.Event{enter(made(5, 9, 9)), moves(5, 1, 2), leave(3), moves(7, 0, 0), leave(5), enter(made(5, 3, 3))}
	for _, c := range []struct {
		l    []api.Thing
		es   []api.Event
		want []api.Thing
		ok   bool
	}{
		{nil, nil, nil, true},
		{l, nil, l, true},
		{l, []api.Event{}, l, true},
		{l, all, []api.Thing{made(5, 3, 3), made(7, 0, 0)}, true},
		{l, all[:3], []api.Thing{made(5, 1, 2), made(7, 2, 2)}, true},
		{l, []api.Event{leave(3), leave(7)}, nil, true},
		{l, []api.Event{leave(7), leave(7)}, nil, false},
		{l, []api.Event{leave(7), leave(3), enter(l[1]), enter(l[0])}, l, true},
		{l, []api.Event{enter(made(5, 1, 1)), enter(made(5, 1, 1))}, nil, false},
		{l, []api.Event{moves(5, 1, 1), enter(made(5, 1, 1))}, nil, false},
		{l, []api.Event{leave(3), moves(3, 1, 1)}, nil, false},
		{l, []api.Event{moves(3, 4, 4), sets(3, 0, number(1)), moves(3, 5, 5)}, []api.Thing{made(3, 5, 5, number(1)), l[1]}, true},
		{nil, []api.Event{enter(l[1]), enter(l[0])}, l, true},
		{nil, []api.Event{{}}, nil, false},
	} {
		wantFold(t, c.l, c.es, c.want, c.ok)
	}
	// One that can't be, at each place among them: by its kind, by its number, by who is there.
	for i := range len(all) + 1 {
		for _, x := range []api.Event{{}, leave(1000001), leave(4), moves(8, 1, 1), enter(made(7, 5, 5))} {
			wantFold(t, l, slices.Insert(slices.Clone(all), i, x), nil, false)
		}
	}
}

// P15.3
func TestFoldIsOneBehindTheOther(t *testing.T) {
	r := rand.New(rand.NewSource(157))
	took := 0
	for range 3000 {
		m := model{}
		for range r.Intn(8) {
			m.do(enter(someThing(r, r.Intn(8))))
		}
		l := m.all()
		var es []api.Event
		ok := true
		for range r.Intn(5) {
			e := someEvent(r, r.Intn(8))
			if r.Intn(15) == 0 {
				e = api.Event{Kind: 4, ID: e.ID}
				ok = false
			} else if ok {
				ok = m.do(e)
			}
			es = append(es, e)
		}
		wantFold(t, l, es, m.all(), ok)
		if t.Failed() {
			return
		}
		if ok {
			took++
		}
	}
	if took < 500 {
		t.Errorf("just %d were taken", took)
	}
}

// P15.3: a list beyond what the chapter speaks of ends all calls, too.
func TestOfNumbersThatDoNotRise(t *testing.T) {
	r := rand.New(rand.NewSource(158))
	for range 2000 {
		var l []api.Thing
		for range r.Intn(5) {
			l = append(l, made(r.Intn(6)-1, r.Intn(66)-1, 0))
		}
		was := slices.Clone(l)
		e := someEvent(r, r.Intn(6))
		got, ok := event.Apply(l, e)
		there := slices.ContainsFunc(l, func(x api.Thing) bool { return x.ID == e.ID })
		if ok == (there == (e.Kind == 1)) || !ok && !slices.Equal(got, l) || !slices.Equal(l, was) {
			t.Fatalf("Apply(%v, %v): %v, %v", was, e, got, ok)
		}
	}
}

// P15.3: what is handed in stays as it is, its spare room too; what comes of it is none of it.
func TestApplyChangesNothing(t *testing.T) {
	r := rand.New(rand.NewSource(159))
	var room []api.Thing
	for i := range 20 {
		room = append(room, someThing(r, 2*i))
	}
	events := []api.Event{
		enter(made(5, 1, 1)), enter(made(6, 1, 1)), enter(made(999, 1, 1)), moves(6, 60, 60), moves(5, 1, 1), sets(0, 0, text("z")), leave(0), leave(6), leave(7), {},
	}
	for _, e := range events {
		for _, es := range [][]api.Event{{e}, {e, e}, {moves(4, 50, 50), e}, {leave(2), enter(made(3, 1, 1)), e}, {}} {
			l, is := room[:10], es[:len(es):len(es)]
			was, were := slices.Clone(room), slices.Clone(es)
			a, ok := event.Fold(l, is)
			b, _ := event.Fold(l, is)
			want := slices.Clone(a)
			if len(es) == 1 {
				b, _ = event.Apply(l, e)
			}
			for i := range a[:cap(a)] {
				a[:cap(a)][i] = made(-1, -1, -1, text("spoilt"))
			}
			if !slices.Equal(room, was) || !slices.Equal(es, were) {
				t.Fatalf("Fold(%v): what was handed in is touched (%v)", were, ok)
			}
			if !slices.Equal(b, want) {
				t.Fatalf("Fold(%v): an answer was touched by another one: %v", were, b)
			}
		}
	}
}

// P15.2: each answer is new memory, and what is handed in stays as it is.
func TestBytesAndReadAnswerNewMemory(t *testing.T) {
	r := rand.New(rand.NewSource(160))
	room := someEvents(r, 20)
	l := room[:10]
	was := slices.Clone(room)
	s, _ := event.Bytes(l)
	if u, _ := event.Bytes(l); s != u || !slices.Equal(room, was) {
		t.Errorf("Bytes changed %v to %v", was, room)
	}
	if !event.Same(l, was[:10]) || !slices.Equal(room, was) {
		t.Errorf("Same changed %v to %v", was, room)
	}
	a, _, _ := event.Read(s)
	b, _, _ := event.Read(s)
	for i := range a[:cap(a)] {
		a[:cap(a)][i] = leave(-1)
	}
	if !slices.Equal(b, l) {
		t.Errorf("an answer was touched by another one: %v", b)
	}
	wantRead(t, s, l, len(s), api.OK)
	name := []api.Event{sets(5, 0, text("north"))}
	s, _ = event.Bytes(name)
	x, _, _ := event.Read(s)
	if got := x[0].Delta.F[0].Text; unsafe.StringData(got) == unsafe.StringData(s[len(s)-len(got):]) {
		t.Error("a text is a piece of what was handed in")
	}
}

// P15.4: a watcher of a rectangle that moves has by what it was told just what stands there.
func TestAWatchersThingsAreWhatItWasTold(t *testing.T) {
	r := rand.New(rand.NewSource(161))
	for range 40 {
		m := model{}
		side := 0
		var seen, was []api.Thing
		for range 60 {
			for range r.Intn(6) {
				m.do(someEvent(r, r.Intn(30)))
			}
			side = max(0, min(64, side+r.Intn(21)-8))
			now := slices.DeleteFunc(m.all(), func(x api.Thing) bool { return x.At.X >= side || x.At.Y >= side })
			s, e := event.Bytes(told(was, now))
			if e != api.OK {
				t.Fatalf("Bytes: %d", e)
			}
			es, _, _ := event.Read(s)
			next, ok := event.Fold(seen, es)
			if !ok || !slices.Equal(next, now) {
				t.Fatalf("Fold(%v, %v): %v, %v; want %v", seen, es, next, ok, now)
			}
			seen, was = next, now
		}
	}
}

// told: the events between two states of what is watched, the greatest numbers first.
func told(was, now []api.Thing) []api.Event {
	var l []api.Event
	find := func(in []api.Thing, id int) int {
		return slices.IndexFunc(in, func(x api.Thing) bool { return x.ID == id })
	}
	for _, x := range slices.Backward(was) {
		if find(now, x.ID) < 0 {
			l = append(l, leave(x.ID))
		}
	}
	for _, x := range slices.Backward(now) {
		i := find(was, x.ID)
		if i < 0 {
			l = append(l, enter(x))
		} else if d, ok := fields.Diff(was[i], x); ok {
			l = append(l, update(d))
		}
	}
	return l
}
