package thing_test

import (
	"encoding/binary"
	"math"
	"math/rand"
	"slices"
	"strings"
	"testing"

	"vedette/api"
	"vedette/fields"
	"vedette/thing"
)

func number(n int64) api.Field { return api.Field{N: n} }

func text(s string) api.Field { return api.Field{Text: s} }

func made(id, x, y int, f ...api.Field) api.Thing {
	t := api.Thing{ID: id, At: api.Point{X: x, Y: y}}
	copy(t.F[:], f)
	return t
}

// put: a number as bytes, by another one's hand than num.
func put(n uint64) string { return string(binary.AppendUvarint(nil, n)) }

// written: the bytes of a thing, part by part, whether it is one or not.
func written(t api.Thing) string {
	s := put(uint64(t.ID)) + "\x1f" + put(uint64(t.At.X)) + put(uint64(t.At.Y))
	for _, f := range t.F {
		if f.Text != "" {
			s += put(uint64(len(f.Text))) + f.Text
		} else {
			s += "\x00" + string(binary.AppendVarint(nil, f.N))
		}
	}
	return s
}

// row: the bytes of many things, whether they may stand so or not.
func row(l ...api.Thing) string {
	s := put(uint64(len(l)))
	for _, t := range l {
		s += written(t)
	}
	return s
}

// someField: a field as it may be, often one at an end.
func someField(r *rand.Rand) api.Field {
	ends := []int64{1, -1, 63, 64, -64, -65, math.MaxInt64, math.MinInt64}
	switch r.Intn(5) {
	case 0:
		return number(int64(r.Uint64()))
	case 1:
		return number(ends[r.Intn(len(ends))])
	case 2:
		return text(strings.Repeat(string(rune('a'+r.Intn(2))), r.Intn(api.MaxText+1)))
	case 3:
		return text(string([]byte{byte(r.Intn(256)), byte(r.Intn(256))}))
	}
	return api.Field{}
}

// someThing: a thing as it may be, of that number.
func someThing(r *rand.Rand, id int) api.Thing {
	return made(id, r.Intn(api.Size), r.Intn(api.Size), someField(r), someField(r), someField(r), someField(r))
}

// someRow: n things whose numbers rise, often by one alone.
func someRow(r *rand.Rand, n int) []api.Thing {
	var l []api.Thing
	id := -1
	for range n {
		id += 1 + r.Intn(2)*r.Intn(4900)
		l = append(l, someThing(r, id))
	}
	return l
}

// spoilt: bytes with one or two places changed, put in, or gone.
func spoilt(r *rand.Rand, s []byte) string {
	odd := []byte{0, 1, 2, 12, 13, 15, 30, 31, 32, 63, 64, 127, 128, 129, 255}
	for range 1 + r.Intn(2) {
		i := r.Intn(len(s))
		switch r.Intn(4) {
		case 0:
			s[i] = odd[r.Intn(len(odd))]
		case 1:
			s[i] ^= 1 << r.Intn(8)
		case 2:
			s = slices.Insert(s, i, odd[r.Intn(len(odd))])
		default:
			s = append(slices.Delete(s, i, i+1), 0)
		}
	}
	return string(s)
}

// wrongThings: none of them is a thing, each for one reason.
func wrongThings() []api.Thing {
	l := []api.Thing{
		made(-1, 0, 0),
		made(math.MinInt, 0, 0),
		made(1000001, 0, 0),
		made(math.MaxInt, 0, 0),
		made(1, 64, 0),
		made(1, 0, 64),
		made(1, -1, 0),
		made(1, 0, -1),
		made(1, math.MaxInt, 0),
		made(1, 0, math.MinInt),
	}
	for i := range api.Fields {
		for _, f := range []api.Field{
			{N: 1, Text: "a"},
			{N: -1, Text: "\x00"},
			text(strings.Repeat("a", 13)),
			text(strings.Repeat("é", 7)),
		} {
			x := made(1, 2, 3, number(4), text("b"), number(6), text("d"))
			x.F[i] = f
			l = append(l, x)
		}
	}
	return l
}

// P7.1, P7.2
func TestIsRefuses(t *testing.T) {
	for _, x := range wrongThings() {
		if thing.Is(x) {
			t.Errorf("Is(%v)", x)
		}
		if s, e := thing.Bytes(x); s != "" || e != api.ErrForm {
			t.Errorf("Bytes(%v): %x, %d", x, s, e)
		}
	}
}

// P7.1
func TestIsTakes(t *testing.T) {
	l := []api.Thing{
		{},
		made(1000000, 63, 63),
		made(999999, 63, 0),
		made(0, 0, 63),
		made(1, 2, 3, number(math.MinInt64), number(math.MaxInt64), text(strings.Repeat("a", 12)), text("\x00")),
		made(1, 2, 3, text(strings.Repeat("é", 6)), text("\xff"), number(-1), text(strings.Repeat("z", 12))),
	}
	r := rand.New(rand.NewSource(71))
	for range 1000 {
		l = append(l, someThing(r, r.Intn(1000001)))
	}
	for _, x := range l {
		if !thing.Is(x) {
			t.Errorf("%v isn't Is", x)
		}
	}
}

// P7.1
func TestSameIsAllParts(t *testing.T) {
	r := rand.New(rand.NewSource(72))
	for i := range 300 {
		a := someThing(r, r.Intn(1000001))
		if i%2 == 1 {
			a = wrongThings()[i%len(wrongThings())]
		}
		if b := a; !thing.Same(a, b) {
			t.Fatalf("%v isn't the same as itself", a)
		}
		others := []api.Thing{a, a, a}
		others[0].ID++
		others[1].At.X++
		others[2].At.Y--
		for i := range a.F {
			x, y := a, a
			x.F[i].N++
			y.F[i].Text += "\x00"
			others = append(others, x, y)
		}
		for _, b := range others {
			if thing.Same(a, b) || thing.Same(b, a) {
				t.Fatalf("%v is the same as %v", a, b)
			}
		}
	}
}

// P7.1
func TestSameOfTextsThatLieElsewhere(t *testing.T) {
	a, b := made(1, 2, 3, text("north")), made(1, 2, 3, text(strings.Clone("north")))
	if !thing.Same(a, b) {
		t.Errorf("%v isn't the same as %v", a, b)
	}
}

// P7.1
func TestNumberRows(t *testing.T) {
	for _, c := range []struct{ server, n, want int }{
		{0, 0, 0},
		{1, 0, 1},
		{3, 0, 3},
		{1, 2, 9}, // the chapter's example
		{0, 1, 4},
		{2, 7, 30},
		{3, 199999, 799999},
		{0, 200000, 800000},
		{3, 200000, 800003},
		{0, 200001, 800000},
		{1, 200001, 800001},
		{2, math.MaxInt, 800002},
		{4, 1, 7},
		{5, 1, 7},
		{math.MaxInt, 1, 7},
		{-1, 1, 4},
		{-4, 1, 4},
		{math.MinInt, 1, 4},
		{2, -1, 2},
		{3, math.MinInt, 3},
		{-1, -1, 0},
		{math.MinInt, math.MinInt, 0},
		{math.MaxInt, math.MaxInt, 800003},
		{math.MinInt, math.MaxInt, 800000},
		{math.MaxInt, math.MinInt, 3},
	} {
		if got := thing.Number(c.server, c.n); got != c.want {
			t.Errorf("Number(%d, %d): %d, want %d", c.server, c.n, got, c.want)
		}
	}
}

// P7.1
func TestServerRows(t *testing.T) {
	for _, c := range []struct{ id, want int }{
		{0, 0},
		{1, 1},
		{2, 2},
		{3, 3},
		{4, 0},
		{9, 1},
		{800003, 3},
		{1000000, 0},
		{1000001, 1},
		{math.MaxInt - 1, 2},
		{math.MaxInt, 3},
		{-1, 0},
		{-2, 0},
		{-3, 0},
		{-4, 0},
		{-5, 0},
		{math.MinInt + 1, 0},
		{math.MinInt, 0},
	} {
		if got := thing.Server(c.id); got != c.want {
			t.Errorf("Server(%d): %d, want %d", c.id, got, c.want)
		}
	}
}

// P7.1
func TestNumbersAreAServersOwn(t *testing.T) {
	next := 0
	for n := range 200001 {
		for server := range api.MaxServer {
			id := thing.Number(server, n)
			if id != next || thing.Server(id) != server || !thing.Is(made(id, 0, 0)) {
				t.Fatalf("Number(%d, %d): %d, of %d", server, n, id, thing.Server(id))
			}
			next++
		}
	}
}

func wantRead(t *testing.T, s string, x api.Thing, size int, e api.Errno) {
	t.Helper()
	if gx, gs, ge := thing.Read(s); gx != x || gs != size || ge != e {
		t.Errorf("Read(%x): %v, %d, %d; want %v, %d, %d", s, gx, gs, ge, x, size, e)
	}
}

// P7.2
func TestBytesRows(t *testing.T) {
	for _, c := range []struct {
		x    api.Thing
		want string
	}{
		{api.Thing{}, "\x00\x1f\x00\x00\x00\x00\x00\x00\x00\x00\x00\x00"},
		{made(9, 3, 63, number(-5), text("ab")), "\x09\x1f\x03\x3f\x00\x09\x02ab\x00\x00\x00\x00"},
		{made(300, 1, 2, text("a"), number(1), text("\x00"), number(math.MinInt64)),
			"\xac\x02\x1f\x01\x02\x01a\x00\x02\x01\x00\x00\xff\xff\xff\xff\xff\xff\xff\xff\xff\x01"},
		{made(1000000, 63, 0, api.Field{}, api.Field{}, api.Field{}, text("123456789012")),
			"\xc0\x84\x3d\x1f\x3f\x00\x00\x00\x00\x00\x00\x00\x0c123456789012"},
	} {
		if s, e := thing.Bytes(c.x); s != c.want || e != api.OK {
			t.Errorf("Bytes(%v): %x, %d; want %x", c.x, s, e, c.want)
		}
		wantRead(t, c.want, c.x, len(c.want), api.OK)
	}
}

// P7.2, P7.3
func TestWhatWasWrittenIsRead(t *testing.T) {
	r := rand.New(rand.NewSource(73))
	for range 2000 {
		x := someThing(r, r.Intn(1000001))
		want := written(x)
		if s, e := thing.Bytes(x); s != want || e != api.OK {
			t.Fatalf("Bytes(%v): %x, %d; want %x", x, s, e, want)
		}
		for _, tail := range []string{"", "\x00", "\xff", "tail", want} {
			wantRead(t, want+tail, x, len(want), api.OK)
		}
		for i := range want {
			wantRead(t, want[:i], api.Thing{}, 0, api.ErrShort)
		}
	}
}

// P7.2
func TestReadRefusesInOrder(t *testing.T) {
	late := "\xc1\x84\x3d" // 1000001
	for _, c := range []struct {
		s    string
		want api.Errno
	}{
		// Errors of the delta.
		{"", api.ErrShort},
		{"\x80\x00", api.ErrForm},
		{"\x09", api.ErrShort},
		{late, api.ErrShort},
		{late + "\x1f", api.ErrForm},
		{late + "\x01\x00\x00", api.ErrForm},
		{written(made(1000001, 0, 0)), api.ErrForm},
		{put(1<<32) + written(made(9, 0, 0))[1:], api.ErrForm},
		{"\x09\x00", api.ErrForm},
		{"\x09\x20", api.ErrForm},
		{"\x09\x3f" + written(made(9, 0, 0))[2:], api.ErrForm},
		{"\x09" + put(256+31) + written(made(9, 0, 0))[2:], api.ErrForm},
		{"\x09\x1f", api.ErrShort},
		{"\x09\x1f\x03\x04\x0d", api.ErrLarge},
		{"\x09\x1f\x40\x04\x0d", api.ErrLarge},
		{"\x09\x1f\x40\x04", api.ErrShort},
		{"\x09\x1f\x03\x04\x00\x80\x00", api.ErrForm},
		{written(made(9, 64, 0)), api.ErrForm},
		{written(made(9, 0, 64)), api.ErrForm},
		{written(made(9, 0, 0, api.Field{}, api.Field{}, api.Field{}, text("1234567890123"))), api.ErrLarge},
		// They go ahead of a mask that hasn't all.
		{"\x09\x01", api.ErrShort},
		{"\x09\x01\x03", api.ErrShort},
		{"\x09\x02\x0d", api.ErrLarge},
		{"\x09\x1e\x00\x00\x00\x00\x00\x00\x0d", api.ErrLarge},
		{"\x09\x1e\x00\x00\x00\x00\x00\x00\x02a", api.ErrShort},
		{"\x09\x0f\x03\x04\x00\x00\x00\x00\x00", api.ErrShort},
		{"\x09\x0f\x40\x04\x00\x00\x00\x00\x00", api.ErrShort},
		// A delta that is well-formed, but hasn't all.
		{"\x09\x01\x00\x00", api.ErrForm},
		{"\x09\x01\x03\x04tail", api.ErrForm},
	} {
		wantRead(t, c.s, api.Thing{}, 0, c.want)
	}
}

// P7.2
func TestReadAtEachMask(t *testing.T) {
	all := api.Delta{ID: 9, At: api.Point{X: 3, Y: 4}, F: made(9, 3, 4, number(1), text("b"), number(3), text("d")).F}
	none := api.Delta{ID: 9}
	for mask := uint8(1); mask < 32; mask++ {
		for _, d := range []api.Delta{all, none} {
			x := fields.Apply(api.Thing{ID: 9}, api.Delta{Mask: mask, At: d.At, F: d.F})
			s, e := fields.Bytes(api.Delta{ID: 9, Mask: mask, At: x.At, F: x.F})
			if e != api.OK {
				t.Fatalf("mask %d: %d", mask, e)
			}
			if mask == 31 {
				wantRead(t, s, x, len(s), api.OK)
			} else {
				wantRead(t, s, api.Thing{}, 0, api.ErrForm)
				wantRead(t, s+"\x00\x00\x00\x00\x00\x00\x00\x00\x00\x00", api.Thing{}, 0, api.ErrForm)
			}
		}
	}
}

// wantedRead: what Read is to tell of s, by the promise's words.
func wantedRead(s string) (api.Thing, int, api.Errno) {
	d, size, e := fields.Read(s)
	switch {
	case e != api.OK:
		return api.Thing{}, 0, e
	case d.Mask != 31:
		return api.Thing{}, 0, api.ErrForm
	}
	return fields.Apply(api.Thing{ID: d.ID}, d), size, api.OK
}

// P7.2
func TestReadOfAllShortBytes(t *testing.T) {
	some := []byte{0, 1, 2, 0x0d, 0x0f, 0x1e, 0x1f, 0x20, 0x40, 0x80, 0xff}
	var grow func(s []byte)
	grow = func(s []byte) {
		x, size, e := wantedRead(string(s))
		wantRead(t, string(s), x, size, e)
		if len(s) == 5 || t.Failed() {
			return
		}
		for _, b := range some {
			grow(append(s, b))
		}
	}
	grow(nil)
}

// P7.2
func TestReadOfSpoiltBytes(t *testing.T) {
	r := rand.New(rand.NewSource(74))
	for range 20000 {
		s := spoilt(r, []byte(written(someThing(r, r.Intn(1000001)))))
		x, size, e := wantedRead(s)
		wantRead(t, s, x, size, e)
		if e == api.OK {
			if b, f := thing.Bytes(x); b != s[:size] || f != api.OK {
				t.Errorf("Bytes(%v): %x, %d; read from %x", x, b, f, s)
			}
		}
		if t.Failed() {
			return
		}
	}
}

func wantAll(t *testing.T, l []api.Thing, s string, e api.Errno) {
	t.Helper()
	if gs, ge := thing.All(l); gs != s || ge != e {
		t.Errorf("All of %d, %v: %x, %d; want %x, %d", len(l), l, gs, ge, s, e)
	}
}

func wantSome(t *testing.T, s string, l []api.Thing, size int, e api.Errno) {
	t.Helper()
	if gl, gs, ge := thing.Some(s); !slices.Equal(gl, l) || gs != size || ge != e {
		t.Errorf("Some(%x): %v, %d, %d; want %v, %d, %d", s, gl, gs, ge, l, size, e)
	}
}

// P7.2
func TestAllRows(t *testing.T) {
	one, two := made(1, 2, 3), made(2, 0, 0, text("x"))
	last := made(1000000, 63, 63)
	wantAll(t, nil, "\x00", api.OK)
	wantAll(t, []api.Thing{}, "\x00", api.OK)
	wantAll(t, []api.Thing{{}}, "\x01\x00\x1f\x00\x00\x00\x00\x00\x00\x00\x00\x00\x00", api.OK)
	wantAll(t, []api.Thing{one, two},
		"\x02\x01\x1f\x02\x03\x00\x00\x00\x00\x00\x00\x00\x00\x02\x1f\x00\x00\x01x\x00\x00\x00\x00\x00\x00", api.OK)
	wantAll(t, []api.Thing{one, two, last}, row(one, two, last), api.OK)
	wantAll(t, []api.Thing{last}, row(last), api.OK)
}

// P7.2
func TestAllRefuses(t *testing.T) {
	one, two, three := made(1, 2, 3), made(2, 0, 0, text("x")), made(3, 4, 4)
	for _, l := range [][]api.Thing{
		{two, one},
		{one, one},
		{one, made(1, 9, 9)},
		{{}, {}},
		{one, three, two},
		{one, two, two},
		{one, one, two},
		{two, one, three}, // the third is above the first, but the second isn't
		{three, one, two},
		{one, made(1000000, 0, 0), two},
	} {
		wantAll(t, l, "", api.ErrForm)
	}
	for _, x := range wrongThings() {
		wantAll(t, []api.Thing{x}, "", api.ErrForm)
		wantAll(t, []api.Thing{made(0, 0, 0), x}, "", api.ErrForm)
		wantAll(t, []api.Thing{x, two}, "", api.ErrForm)
		wantAll(t, []api.Thing{made(0, 0, 0), x, made(1000000, 0, 0)}, "", api.ErrForm)
	}
}

// P7.2
func TestAllAtMostSoMany(t *testing.T) {
	r := rand.New(rand.NewSource(75))
	l := someRow(r, api.MaxThings)
	wantAll(t, l, row(l...), api.OK)
	wantAll(t, l[:api.MaxThings-1], row(l[:api.MaxThings-1]...), api.OK)
	more := append(slices.Clone(l), made(1000000, 0, 0))
	wantAll(t, more, "", api.ErrLarge)
	wantAll(t, make([]api.Thing, api.MaxThings+1), "", api.ErrLarge) // ahead of numbers that don't rise
	wantAll(t, make([]api.Thing, api.MaxThings), "", api.ErrForm)
	wantAll(t, make([]api.Thing, 1000), "", api.ErrLarge)
	wrong := slices.Repeat([]api.Thing{made(-1, -1, -1)}, api.MaxThings+1)
	wantAll(t, wrong, "", api.ErrLarge)
	wantAll(t, wrong[:api.MaxThings], "", api.ErrForm)
}

// P7.2, P7.3
func TestWhatWereWrittenAreRead(t *testing.T) {
	r := rand.New(rand.NewSource(76))
	for n := range api.MaxThings + 1 {
		l := someRow(r, n)
		want := row(l...)
		wantAll(t, l, want, api.OK)
		for _, tail := range []string{"", "\x00", "\xff", "tail", want} {
			wantSome(t, want+tail, l, len(want), api.OK)
		}
		if n <= 20 {
			for i := range want {
				wantSome(t, want[:i], nil, 0, api.ErrShort)
			}
		}
		if t.Failed() {
			return
		}
	}
}

// P7.2
func TestSomeRefusesInOrder(t *testing.T) {
	one, two, three := written(made(1, 2, 3)), written(made(2, 0, 0, text("x"))), written(made(3, 4, 4))
	far := written(made(5, 64, 0))
	part := "\x09\x01\x00\x00"
	for _, c := range []struct {
		s    string
		want api.Errno
	}{
		// num's errors of how many.
		{"", api.ErrShort},
		{"\x80", api.ErrShort},
		{"\x80\x00", api.ErrForm},
		{"\x81\x00" + one, api.ErrForm},
		{"\xc9\x81", api.ErrShort},
		{strings.Repeat("\xff", 9) + "\x02", api.ErrForm},
		// Too many, ahead of what follows.
		{put(201), api.ErrLarge},
		{put(201) + far, api.ErrLarge},
		{put(201) + two + one, api.ErrLarge},
		{put(201) + strings.Repeat(one, 201), api.ErrLarge},
		{put(256), api.ErrLarge},
		{put(257) + one, api.ErrLarge},
		{put(1 << 32), api.ErrLarge},
		{put(1<<32+1) + one, api.ErrLarge},
		{put(1 << 63), api.ErrLarge},
		{put(1<<63+1) + one, api.ErrLarge},
		{put(math.MaxUint64), api.ErrLarge},
		{put(math.MaxUint64) + one, api.ErrLarge},
		{put(200), api.ErrShort},
		// Read's errors.
		{"\x01", api.ErrShort},
		{"\x01\x80\x00", api.ErrForm},
		{"\x01" + far, api.ErrForm},
		{"\x01" + part, api.ErrForm},
		{"\x01\x09\x1f\x03\x04\x0d", api.ErrLarge},
		{"\x01" + one[:len(one)-1], api.ErrShort},
		{"\x02" + one, api.ErrShort},
		{"\x02" + one + far, api.ErrForm},
		{"\x02" + one + part, api.ErrForm},
		{"\x03" + one + part + two[:3], api.ErrForm},
		{"\x03" + one + two[:3], api.ErrShort},
		{"\x03" + one + two + "\x03\x1f\x00\x00\x0d", api.ErrLarge},
		// A number that doesn't rise, behind the errors of its own thing, ahead of those of the next one.
		{"\x02" + two + one, api.ErrForm},
		{"\x02" + one + one, api.ErrForm},
		{"\x02" + one + written(made(1, 9, 9)), api.ErrForm},
		{"\x02" + written(made(0, 0, 0)) + written(made(0, 0, 0)), api.ErrForm},
		{"\x02" + two + one[:3], api.ErrShort},
		{"\x02" + two + "\x01\x1f\x00\x00\x0d", api.ErrLarge},
		{"\x02" + two + "\x01", api.ErrShort},
		{"\x03" + two + one, api.ErrForm},
		{"\x03" + two + one + "\x05\x1f\x00\x00\x0d", api.ErrForm},
		{"\x03" + two + one + three[:3], api.ErrForm},
		{"\x03" + one + one + "\x80", api.ErrForm},
		{"\x03" + two + one + three, api.ErrForm},
		{"\x03" + one + three + two, api.ErrForm},
		{"\x03" + three + one + two, api.ErrForm},
		{"\x04" + one + three + two + "\x05\x1f\x00\x00\x0d", api.ErrForm},
		{"\xc8\x01" + one + one, api.ErrForm},
	} {
		wantSome(t, c.s, nil, 0, c.want)
	}
	wantSome(t, "\x00", nil, 1, api.OK)
	wantSome(t, "\x00"+one, nil, 1, api.OK)
	wantSome(t, "\x00\x80", nil, 1, api.OK)
}

// wantedSome: what Some is to tell of s, by the promise's words one after the other.
func wantedSome(s string) ([]api.Thing, int, api.Errno) {
	n, pos := binary.Uvarint([]byte(s))
	switch {
	case pos == 0 && len(s) < 10:
		return nil, 0, api.ErrShort
	case pos <= 0 || pos > 1 && s[pos-1] == 0:
		return nil, 0, api.ErrForm
	case n > 200:
		return nil, 0, api.ErrLarge
	}
	var l []api.Thing
	last := -1
	for uint64(len(l)) < n {
		x, k, e := wantedRead(s[pos:])
		if e == api.OK && x.ID <= last {
			e = api.ErrForm
		}
		if e != api.OK {
			return nil, 0, e
		}
		l, pos, last = append(l, x), pos+k, x.ID
	}
	return l, pos, api.OK
}

// P7.2
func TestSomeOfSpoiltBytes(t *testing.T) {
	r := rand.New(rand.NewSource(77))
	for range 20000 {
		l := someRow(r, r.Intn(5))
		if len(l) > 1 && r.Intn(3) == 0 {
			i, k := r.Intn(len(l)), r.Intn(len(l))
			l[i], l[k] = l[k], l[i]
		}
		s := spoilt(r, []byte(row(l...)))
		m, size, e := wantedSome(s)
		wantSome(t, s, m, size, e)
		if e == api.OK {
			wantAll(t, m, s[:size], api.OK)
		}
		if t.Failed() {
			return
		}
	}
}

// P7.2: what is handed in stays as it is, its spare room too.
func TestAllChangesNothing(t *testing.T) {
	r := rand.New(rand.NewSource(78))
	room := someRow(r, 20)
	for _, l := range [][]api.Thing{room[:10], {room[3], room[2], room[1]}} {
		l = l[:len(l):cap(l)]
		whole := l[:cap(l)]
		was := slices.Clone(whole)
		a, _ := thing.All(l)
		b, _ := thing.All(l)
		if a != b || !slices.Equal(whole, was) {
			t.Errorf("All changed %v to %v", was, whole)
		}
	}
}

// P7.2: each answer is new memory.
func TestSomeAnswersNewMemory(t *testing.T) {
	r := rand.New(rand.NewSource(79))
	l := someRow(r, 7)
	s := row(l...)
	a, _, _ := thing.Some(s)
	b, _, _ := thing.Some(s)
	for i := range a[:cap(a)] {
		a[:cap(a)][i] = made(-1, -1, -1)
	}
	if !slices.Equal(b, l) {
		t.Errorf("an answer was touched by another one: %v", b)
	}
	for i := range b[:cap(b)] {
		b[:cap(b)][i] = made(-2, -2, -2)
	}
	wantSome(t, s, l, len(s), api.OK)
}
