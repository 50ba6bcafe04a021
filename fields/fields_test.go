package fields_test

import (
	"encoding/binary"
	"math"
	"math/rand"
	"strings"
	"testing"

	"vedette/api"
	"vedette/fields"
)

func at(x, y int) api.Point { return api.Point{X: x, Y: y} }

func number(n int64) api.Field { return api.Field{N: n} }

func text(s string) api.Field { return api.Field{Text: s} }

func row(f ...api.Field) [api.Fields]api.Field {
	var r [api.Fields]api.Field
	copy(r[:], f)
	return r
}

// put: a number as bytes, by another one's hand than num.
func put(n uint64) string { return string(binary.AppendUvarint(nil, n)) }

// written: the bytes of a delta, part by part, whether it is one or not.
func written(d api.Delta) string {
	s := put(uint64(d.ID)) + put(uint64(d.Mask))
	for bit, has := range bitsOf(d.Mask) {
		switch {
		case !has:
		case bit == 0:
			s += put(uint64(d.At.X)) + put(uint64(d.At.Y))
		case d.F[bit-1].Text != "":
			s += put(uint64(len(d.F[bit-1].Text))) + d.F[bit-1].Text
		default:
			s += "\x00" + string(binary.AppendVarint(nil, d.F[bit-1].N))
		}
	}
	return s
}

// bitsOf: which of At and the fields a mask has.
func bitsOf(mask uint8) [5]bool {
	var l [5]bool
	for bit, value := range []uint8{1, 2, 4, 8, 16} {
		l[bit] = mask&value != 0
	}
	return l
}

// someField: a field as it may be, often one at an end.
func someField(r *rand.Rand) api.Field {
	ends := []int64{1, -1, 63, 64, -64, -65, math.MaxInt64, math.MinInt64}
	switch r.Intn(5) {
	case 0:
		return number(int64(r.Uint64()))
	case 1:
		return number(ends[r.Intn(len(ends))])
	case 2:
		return text(strings.Repeat(string(rune('a'+r.Intn(2))), r.Intn(api.MaxText+1)))
	case 3:
		return text(string([]byte{byte(r.Intn(256)), byte(r.Intn(256))}))
	}
	return api.Field{}
}

// someThing: a thing as it may be, with few places, so that two of them often stand at one.
func someThing(r *rand.Rand) api.Thing {
	x := api.Thing{ID: r.Intn(1000001), At: at(62+r.Intn(2), r.Intn(2))}
	for i := range x.F {
		x.F[i] = someField(r)
	}
	return x
}

// someDelta: a delta that has just what its mask says.
func someDelta(r *rand.Rand, mask uint8) api.Delta {
	d := api.Delta{ID: r.Intn(1000001), Mask: mask}
	for bit, has := range bitsOf(mask) {
		switch {
		case !has:
		case bit == 0:
			d.At = at(r.Intn(api.Size), r.Intn(api.Size))
		default:
			d.F[bit-1] = someField(r)
		}
	}
	return d
}

// strangeThing: a thing of whatever parts, most of them none of a thing.
func strangeThing(r *rand.Rand) api.Thing {
	far := []int{0, 1, -1, 64, math.MinInt, math.MaxInt}
	some := []api.Field{{}, number(1), number(math.MinInt64), text("a"), text(strings.Repeat("z", 13)), {N: 1, Text: "a"}}
	x := api.Thing{ID: far[r.Intn(len(far))], At: at(far[r.Intn(len(far))], far[r.Intn(len(far))])}
	for i := range x.F {
		x.F[i] = some[r.Intn(len(some))]
	}
	return x
}

// P6.1
func TestIsFieldRows(t *testing.T) {
	for _, c := range []struct {
		f    api.Field
		want bool
	}{
		{api.Field{}, true},
		{number(1), true},
		{number(-1), true},
		{number(math.MaxInt64), true},
		{number(math.MinInt64), true},
		{text("a"), true},
		{text("\x00"), true},
		{text("\xff\xfe"), true},
		{text(strings.Repeat("a", 11)), true},
		{text(strings.Repeat("a", 12)), true},
		{text(strings.Repeat("a", 13)), false},
		{text(strings.Repeat("a", 268)), false},
		{text(strings.Repeat("é", 6)), true}, // bytes count, not letters
		{text(strings.Repeat("é", 7)), false},
		{text(strings.Repeat("é", 12)), false},
		{api.Field{N: 1, Text: "a"}, false},
		{api.Field{N: -1, Text: "\x00"}, false},
		{api.Field{N: math.MinInt64, Text: "a"}, false},
		{api.Field{N: 1 << 32, Text: "a"}, false},
		{api.Field{N: 1, Text: strings.Repeat("a", 12)}, false},
		{api.Field{N: 1, Text: strings.Repeat("a", 13)}, false},
	} {
		if got := fields.IsField(c.f); got != c.want {
			t.Errorf("IsField(%v): %v", c.f, got)
		}
	}
}

// P6.1
func TestDiffRows(t *testing.T) {
	a := api.Thing{ID: 5, At: at(1, 2), F: row(number(7), text("a"), text("7"))}
	for _, c := range []struct {
		b    api.Thing
		want api.Delta
	}{
		{api.Thing{ID: 5, At: at(3, 2), F: a.F}, api.Delta{ID: 5, Mask: 1, At: at(3, 2)}},
		{api.Thing{ID: 5, At: at(1, 3), F: a.F}, api.Delta{ID: 5, Mask: 1, At: at(1, 3)}},
		{api.Thing{ID: 5, At: at(0, 0), F: a.F}, api.Delta{ID: 5, Mask: 1}},
		{api.Thing{ID: 5, At: at(1, 2), F: row(number(8), text("a"), text("7"))}, api.Delta{ID: 5, Mask: 2, F: row(number(8))}},
		{api.Thing{ID: 5, At: at(1, 2), F: row(api.Field{}, text("a"), text("7"))}, api.Delta{ID: 5, Mask: 2}},
		{api.Thing{ID: 5, At: at(1, 2), F: row(number(7), text("b"), text("7"))}, api.Delta{ID: 5, Mask: 4, F: row(api.Field{}, text("b"))}},
		{api.Thing{ID: 5, At: at(1, 2), F: row(number(7), text("a"), number(7))}, api.Delta{ID: 5, Mask: 8, F: row(api.Field{}, api.Field{}, number(7))}},
		{api.Thing{ID: 5, At: at(1, 2), F: row(number(7), text("a"), text("7"), number(-1))}, api.Delta{ID: 5, Mask: 16, F: row(api.Field{}, api.Field{}, api.Field{}, number(-1))}},
		{api.Thing{ID: 6, At: at(9, 9), F: row(text("x"), number(2), text(""), text("y"))}, api.Delta{ID: 6, Mask: 31, At: at(9, 9), F: row(text("x"), number(2), api.Field{}, text("y"))}},
		{api.Thing{ID: -6, At: at(-1, 99), F: row(api.Field{N: 1, Text: "x"}, text("a"), text("7"))}, api.Delta{ID: -6, Mask: 3, At: at(-1, 99), F: row(api.Field{N: 1, Text: "x"})}},
	} {
		if d, ok := fields.Diff(a, c.b); d != c.want || !ok {
			t.Errorf("Diff to %v: %v, %v; want %v", c.b, d, ok, c.want)
		}
	}
}

// P6.1
func TestDiffOfNothing(t *testing.T) {
	r := rand.New(rand.NewSource(61))
	for range 1000 {
		a := strangeThing(r)
		b := a
		if _, ok := fields.Diff(a, b); ok {
			t.Fatalf("%v and itself differ", a)
		}
		b.ID = a.ID + 1
		if _, ok := fields.Diff(a, b); ok {
			t.Fatalf("%v and %v differ", a, b)
		}
	}
}

// P6.1
func TestDiffHasWhatDiffersAlone(t *testing.T) {
	r := rand.New(rand.NewSource(62))
	for range 5000 {
		a, b := strangeThing(r), strangeThing(r)
		want := api.Delta{ID: b.ID}
		if a.At.X != b.At.X || a.At.Y != b.At.Y {
			want.Mask, want.At = 1, b.At
		}
		for i, bit := range []uint8{2, 4, 8, 16} {
			if a.F[i].N != b.F[i].N || a.F[i].Text != b.F[i].Text {
				want.Mask += bit
				want.F[i] = b.F[i]
			}
		}
		d, ok := fields.Diff(a, b)
		if ok != (want.Mask != 0) || ok && d != want {
			t.Fatalf("Diff(%v, %v): %v, %v; want %v", a, b, d, ok, want)
		}
	}
}

// P6.1
func TestApplyAtEachMask(t *testing.T) {
	old := api.Thing{ID: 5, At: at(1, 2), F: row(number(1), text("b"), number(3), text("d"))}
	d := api.Delta{ID: 6, At: at(70, -1), F: row(text("e"), number(6), api.Field{}, api.Field{N: 8, Text: "h"})}
	for mask := range 256 {
		d.Mask = uint8(mask)
		want := old
		for bit, has := range bitsOf(d.Mask) {
			switch {
			case !has:
			case bit == 0:
				want.At = d.At
			default:
				want.F[bit-1] = d.F[bit-1]
			}
		}
		if got := fields.Apply(old, d); got != want {
			t.Errorf("Apply at mask %d: %v, want %v", mask, got, want)
		}
	}
}

// P6.1
func TestSameIsAllParts(t *testing.T) {
	r := rand.New(rand.NewSource(63))
	for range 300 {
		d := someDelta(r, uint8(r.Intn(256)))
		if x := d; !fields.Same(d, x) {
			t.Fatalf("%v isn't the same as itself", d)
		}
		others := []api.Delta{d, d, d, d}
		others[0].ID++
		others[1].Mask ^= 1 << r.Intn(8)
		others[2].At.X++
		others[3].At.Y--
		for i := range d.F {
			x, y := d, d
			x.F[i].N++
			y.F[i].Text += "\x00"
			others = append(others, x, y)
		}
		for _, x := range others {
			if fields.Same(d, x) || fields.Same(x, d) {
				t.Fatalf("%v is the same as %v", d, x)
			}
		}
	}
}

// wrongDeltas: none of them is a delta, each for one reason.
func wrongDeltas() []api.Delta {
	long := text(strings.Repeat("a", 13))
	both := api.Field{N: 1, Text: "a"}
	l := []api.Delta{
		{},
		{ID: -1, Mask: 1},
		{ID: math.MinInt, Mask: 1},
		{ID: 1000001, Mask: 1},
		{ID: math.MaxInt, Mask: 1},
		{ID: 5, At: at(1, 1)},
		{Mask: 1, At: at(64, 0)},
		{Mask: 1, At: at(0, 64)},
		{Mask: 1, At: at(-1, 0)},
		{Mask: 1, At: at(0, -1)},
		{Mask: 31, At: at(math.MaxInt, math.MinInt)},
		{Mask: 30, At: at(1, 0)},
		{Mask: 30, At: at(0, 63)},
		{Mask: 2, At: at(64, 64)},
	}
	for mask := 32; mask < 256; mask++ {
		l = append(l, api.Delta{ID: 5, Mask: uint8(mask)})
	}
	for i := range api.Fields {
		bit := uint8(2) << i
		for _, f := range []api.Field{number(1), number(math.MinInt64), text("a"), text("\x00"), both, long} {
			x := api.Delta{ID: 5, Mask: 31 - bit}
			x.F[i] = f
			l = append(l, x)
		}
		for _, f := range []api.Field{both, long} {
			x, y := api.Delta{ID: 5, Mask: bit}, api.Delta{ID: 5, Mask: 31}
			x.F[i], y.F[i] = f, f
			l = append(l, x, y)
		}
	}
	return l
}

// P6.2
func TestIsDeltaRefuses(t *testing.T) {
	for _, d := range wrongDeltas() {
		if fields.IsDelta(d) {
			t.Errorf("IsDelta(%v)", d)
		}
		if s, e := fields.Bytes(d); s != "" || e != api.ErrForm {
			t.Errorf("Bytes(%v): %x, %d", d, s, e)
		}
	}
}

// P6.2
func TestIsDeltaTakes(t *testing.T) {
	l := []api.Delta{
		{Mask: 1},
		{ID: 1000000, Mask: 1, At: at(63, 63)},
		{ID: 999999, Mask: 1, At: at(63, 0)},
		{Mask: 2},
		{Mask: 16, F: row(api.Field{}, api.Field{}, api.Field{}, text(strings.Repeat("a", 12)))},
		{Mask: 31, F: row(number(math.MinInt64), text("\x00"), number(math.MaxInt64), text("\xff"))},
	}
	r := rand.New(rand.NewSource(64))
	for mask := 1; mask < 32; mask++ {
		l = append(l, api.Delta{ID: 5, Mask: uint8(mask)})
		for range 20 {
			l = append(l, someDelta(r, uint8(mask)))
		}
	}
	for _, d := range l {
		if !fields.IsDelta(d) {
			t.Errorf("%v isn't IsDelta", d)
		}
	}
}

// P6.2
func TestBytesRows(t *testing.T) {
	for _, c := range []struct {
		d    api.Delta
		want string
	}{
		{api.Delta{ID: 5, Mask: 1, At: at(3, 63)}, "\x05\x01\x03\x3f"},
		{api.Delta{ID: 300, Mask: 1}, "\xac\x02\x01\x00\x00"},
		{api.Delta{ID: 1000000, Mask: 2, F: row(number(7))}, "\xc0\x84\x3d\x02\x00\x0e"},
		{api.Delta{Mask: 2}, "\x00\x02\x00\x00"},
		{api.Delta{Mask: 4, F: row(api.Field{}, text("ab"))}, "\x00\x04\x02ab"},
		{api.Delta{Mask: 8, F: row(api.Field{}, api.Field{}, number(-1))}, "\x00\x08\x00\x01"},
		{api.Delta{Mask: 16, F: row(api.Field{}, api.Field{}, api.Field{}, text("123456789012"))}, "\x00\x10\x0c123456789012"},
		{api.Delta{Mask: 31, At: at(1, 2), F: row(text("a"), number(1), text("\x00"), number(math.MinInt64))},
			"\x00\x1f\x01\x02\x01a\x00\x02\x01\x00\x00\xff\xff\xff\xff\xff\xff\xff\xff\xff\x01"},
	} {
		if s, e := fields.Bytes(c.d); s != c.want || e != api.OK {
			t.Errorf("Bytes(%v): %x, %d; want %x", c.d, s, e, c.want)
		}
		wantRead(t, c.want, c.d, len(c.want), api.OK)
	}
}

func wantRead(t *testing.T, s string, d api.Delta, size int, e api.Errno) {
	t.Helper()
	if gd, gs, ge := fields.Read(s); gd != d || gs != size || ge != e {
		t.Errorf("Read(%x): %v, %d, %d; want %v, %d, %d", s, gd, gs, ge, d, size, e)
	}
}

// P6.2, P6.3
func TestBytesAndReadAtEachMask(t *testing.T) {
	r := rand.New(rand.NewSource(65))
	for mask := 1; mask < 32; mask++ {
		for range 100 {
			d := someDelta(r, uint8(mask))
			want := written(d)
			if s, e := fields.Bytes(d); s != want || e != api.OK {
				t.Fatalf("Bytes(%v): %x, %d; want %x", d, s, e, want)
			}
			wantRead(t, want, d, len(want), api.OK)
			for _, tail := range []string{"\x00", "\xff", "tail", want} {
				wantRead(t, want+tail, d, len(want), api.OK)
			}
			for i := range want {
				wantRead(t, want[:i], api.Delta{}, 0, api.ErrShort)
			}
		}
	}
}

// P6.2
func TestReadRefusesInOrder(t *testing.T) {
	ill := strings.Repeat("\xff", 9) + "\x02"
	most := strings.Repeat("\xff", 9) + "\x01"
	late := "\xc1\x84\x3d" // 1000001
	for _, c := range []struct {
		s    string
		want api.Errno
	}{
		// num's errors of ID, of Mask, ahead of an ID that is none.
		{"", api.ErrShort},
		{"\x80", api.ErrShort},
		{"\x80\x00", api.ErrForm},
		{"\x80\x00\x80", api.ErrForm},
		{ill, api.ErrForm},
		{"\x05", api.ErrShort},
		{"\x05\x81", api.ErrShort},
		{"\x05\x81\x00", api.ErrForm},
		{"\x05" + ill, api.ErrForm},
		{late, api.ErrShort},
		{late + "\x81", api.ErrShort},
		{most, api.ErrShort},
		{most + "\x80", api.ErrShort},
		// An ID, a Mask that is none, ahead of what follows.
		{late + "\x01", api.ErrForm},
		{late + "\x02\x0d", api.ErrForm},
		{late + "\x01\x00\x00", api.ErrForm},
		{most + "\x01\x00\x00", api.ErrForm},
		{most + "\x01", api.ErrForm},
		{put(1<<31) + "\x01", api.ErrForm},
		{put(1<<32) + "\x01", api.ErrForm},
		{put(1<<32+5) + "\x01", api.ErrForm},
		{put(1<<63+5) + "\x02\x0d", api.ErrForm},
		{put(1<<32) + "\x01\x00\x00", api.ErrForm},
		{put(1<<32+5) + "\x01\x00\x00", api.ErrForm},
		{put(1<<63) + "\x01\x00\x00", api.ErrForm},
		{"\x05\x00", api.ErrForm},
		{"\x05\x00\x00\x00", api.ErrForm},
		{"\x05\x20", api.ErrForm},
		{"\x05\x21", api.ErrForm},
		{"\x05\x21\x00\x00", api.ErrForm},
		{"\x05\x22\x0d", api.ErrForm},
		{"\x05" + put(255), api.ErrForm},
		{"\x05" + put(256), api.ErrForm},
		{"\x05" + put(257) + "\x00\x00", api.ErrForm},
		{"\x05" + put(256+31), api.ErrForm},
		{"\x05" + put(1<<32+1) + "\x00\x00", api.ErrForm},
		{"\x05" + most, api.ErrForm},
		// num's errors of At, ahead of one that isn't on the map.
		{"\x05\x01", api.ErrShort},
		{"\x05\x01\x03", api.ErrShort},
		{"\x05\x01\x80\x00\x00", api.ErrForm},
		{"\x05\x01\x00\x80\x00", api.ErrForm},
		{"\x05\x01\x40", api.ErrShort},
		{"\x05\x01\x40\x80", api.ErrShort},
		{"\x05\x01" + most, api.ErrShort},
		// num's errors of fields, the first one's first.
		{"\x05\x02", api.ErrShort},
		{"\x05\x02\x00", api.ErrShort},
		{"\x05\x02\x00\x80", api.ErrShort},
		{"\x05\x02\x00\x80\x00", api.ErrForm},
		{"\x05\x02\x00" + ill, api.ErrForm},
		{"\x05\x02\x80\x00", api.ErrForm},
		{"\x05\x02\x01", api.ErrShort},
		{"\x05\x02\x0c12345678901", api.ErrShort},
		{"\x05\x02\x0d", api.ErrLarge},
		{"\x05\x02\x0d1234567890123", api.ErrLarge},
		{"\x05\x10" + most, api.ErrLarge},
		{"\x05\x06\x00\x80\x00\x0d", api.ErrForm},
		{"\x05\x06\x0d\x00\x80\x00", api.ErrLarge},
		{"\x05\x06\x00\x0e\x0d", api.ErrLarge},
		{"\x05\x1e\x01a\x01b\x01c\x0d", api.ErrLarge},
		{"\x05\x1e\x01a\x01b\x01c\x00", api.ErrShort},
		{"\x05\x03\x80\x00\x00\x0d", api.ErrForm},
		// An At that isn't on the map behind them all.
		{"\x05\x03\x40\x00", api.ErrShort},
		{"\x05\x03\x40\x00\x0d", api.ErrLarge},
		{"\x05\x03\x00\x40\x01", api.ErrShort},
		{"\x05\x03\x40\x40\x00\x0e", api.ErrForm},
		{"\x05\x11\x40\x00\x01a", api.ErrForm},
		{"\x05\x01\x40\x00", api.ErrForm},
		{"\x05\x01\x00\x40", api.ErrForm},
		{"\x05\x01\x3f\x40tail", api.ErrForm},
	} {
		wantRead(t, c.s, api.Delta{}, 0, c.want)
	}
}

// P6.2
func TestReadOfFarPlaces(t *testing.T) {
	for _, far := range []uint64{64, 65, 127, 128, 255, 256, 1 << 16, 1<<31 + 1, 1 << 32, 1<<32 + 3, 1<<63 - 1, 1 << 63, 1<<63 + 3, math.MaxUint64 - 63, math.MaxUint64} {
		wantRead(t, "\x05\x01"+put(far)+"\x00", api.Delta{}, 0, api.ErrForm)
		wantRead(t, "\x05\x01\x00"+put(far), api.Delta{}, 0, api.ErrForm)
		wantRead(t, "\x05\x01"+put(far)+put(far), api.Delta{}, 0, api.ErrForm)
		wantRead(t, "\x05\x03"+put(far)+"\x00", api.Delta{}, 0, api.ErrShort)
	}
}

// wantedRead: what Read is to tell of s, by the promise's words one after the other.
func wantedRead(s string) (api.Delta, int, api.Errno) {
	var e api.Errno
	pos := 0
	next := func() uint64 {
		if e != api.OK {
			return 0
		}
		n, k := binary.Uvarint([]byte(s[pos:]))
		switch {
		case k < 0 || k > 1 && s[pos+k-1] == 0:
			e = api.ErrForm
		case k == 0 && len(s)-pos >= 10:
			e = api.ErrForm // ten bytes, each of which has another one behind it
		case k == 0:
			e = api.ErrShort
		}
		pos += max(k, 0)
		return n
	}
	id, mask := next(), next()
	if e == api.OK && (id > 1000000 || mask < 1 || mask > 31) {
		e = api.ErrForm
	}
	d := api.Delta{ID: int(id), Mask: uint8(mask)}
	on := true
	for bit, has := range bitsOf(d.Mask) {
		switch {
		case !has:
		case bit == 0:
			x, y := next(), next()
			on = x < 64 && y < 64
			d.At = at(int(x), int(y))
		default:
			size := next()
			switch {
			case e != api.OK:
			case size > 12:
				e = api.ErrLarge
			case size > uint64(len(s)-pos):
				e = api.ErrShort
			case size > 0:
				d.F[bit-1].Text = s[pos : pos+int(size)]
				pos += int(size)
			default:
				u := next()
				d.F[bit-1].N = int64(u/2) ^ -int64(u%2)
			}
		}
	}
	if e == api.OK && !on {
		e = api.ErrForm
	}
	if e != api.OK {
		return api.Delta{}, 0, e
	}
	return d, pos, api.OK
}

// holdsRead: Read of s is as promised, and what is read is just what Bytes tells.
func holdsRead(t *testing.T, s string) {
	t.Helper()
	d, size, e := wantedRead(s)
	wantRead(t, s, d, size, e)
	if e != api.OK {
		return
	}
	if b, e := fields.Bytes(d); b != s[:size] || e != api.OK {
		t.Errorf("Bytes(%v): %x, %d; read from %x", d, b, e, s)
	}
}

// P6.2
func TestReadOfAllShortBytes(t *testing.T) {
	some := []byte{0, 1, 2, 3, 0x0c, 0x0d, 0x1f, 0x20, 0x3d, 0x3f, 0x40, 0x7f, 0x80, 0x81, 0x84, 0xc0, 0xc1, 0xff}
	var grow func(s []byte)
	grow = func(s []byte) {
		holdsRead(t, string(s))
		if len(s) == 5 || t.Failed() {
			return
		}
		for _, b := range some {
			grow(append(s, b))
		}
	}
	grow(nil)
}

// P6.2
func TestReadOfSpoiltBytes(t *testing.T) {
	r := rand.New(rand.NewSource(66))
	odd := []byte{0, 1, 12, 13, 31, 32, 63, 64, 127, 128, 129, 255}
	for range 20000 {
		s := []byte(written(someDelta(r, uint8(1+r.Intn(31)))))
		for range 1 + r.Intn(2) {
			i := r.Intn(len(s))
			switch r.Intn(4) {
			case 0:
				s[i] = odd[r.Intn(len(odd))]
			case 1:
				s[i] ^= 1 << r.Intn(8)
			case 2:
				s = append(s[:i:i], append([]byte{odd[r.Intn(len(odd))]}, s[i:]...)...)
			default:
				s = append(s[:i:i], s[min(i+1, len(s)-1):]...)
			}
		}
		holdsRead(t, string(s))
		if t.Failed() {
			return
		}
	}
}

// P6.3
func TestWhatChangedMakesTheNewOne(t *testing.T) {
	r := rand.New(rand.NewSource(67))
	for range 5000 {
		a, b := someThing(r), someThing(r)
		for i := range b.F {
			if r.Intn(2) == 0 {
				b.F[i] = a.F[i]
			}
		}
		d, ok := fields.Diff(a, b)
		want := b
		want.ID = a.ID
		if !ok {
			if a != want {
				t.Fatalf("%v and %v don't differ", a, b)
			}
			continue
		}
		if got := fields.Apply(a, d); got != want {
			t.Fatalf("Apply(%v, %v): %v, want %v", a, d, got, want)
		}
		s, e := fields.Bytes(d)
		x, size, f := fields.Read(s + "tail")
		if !fields.IsDelta(d) || e != api.OK || f != api.OK || size != len(s) || !fields.Same(x, d) {
			t.Fatalf("%v: %x, %d: %v, %d, %d", d, s, e, x, size, f)
		}
	}
}

// P6.3
func TestWhatChangedMakesTheNewOneOfWhateverThings(t *testing.T) {
	r := rand.New(rand.NewSource(68))
	for range 5000 {
		a, b := strangeThing(r), strangeThing(r)
		got := a
		if d, ok := fields.Diff(a, b); ok {
			got = fields.Apply(a, d)
		}
		want := b
		want.ID = a.ID
		if got != want {
			t.Fatalf("%v to %v: %v", a, b, got)
		}
	}
}
