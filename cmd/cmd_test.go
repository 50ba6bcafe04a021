package cmd_test

import (
	"encoding/binary"
	"math"
	"math/rand"
	"slices"
	"strings"
	"testing"
	"unsafe"

	"vedette/api"
	"vedette/cmd"
)

var kinds = []int{api.CPut, api.CMove, api.CSet, api.CDrop, api.CHand, api.CJoin, api.CTurn, api.CQuit}

// slot: a number of a command: where it is, from where to where it goes, which kinds have it.
type slot struct {
	name        string
	at          func(c *api.Command) *int
	least, most int
	kinds       []int
}

func slots() []slot {
	moves := []int{api.CPut, api.CMove}
	looks := []int{api.CJoin, api.CTurn}
	return []slot{
		{"Client", func(c *api.Command) *int { return &c.Client }, 0, 3, kinds},
		{"Session", func(c *api.Command) *int { return &c.Session }, 0, 1000000, kinds},
		{"ID", func(c *api.Command) *int { return &c.ID }, 0, 1000000, []int{api.CMove, api.CSet, api.CDrop}},
		{"Which", func(c *api.Command) *int { return &c.Which }, -1, 100, []int{api.CSet, api.CHand}},
		{"To", func(c *api.Command) *int { return &c.To }, -1, 100, []int{api.CHand}},
		{"At.X", func(c *api.Command) *int { return &c.At.X }, -1000, 1000, moves},
		{"At.Y", func(c *api.Command) *int { return &c.At.Y }, -1000, 1000, moves},
		{"Rect.X0", func(c *api.Command) *int { return &c.Rect.X0 }, -1000, 1000, looks},
		{"Rect.Y0", func(c *api.Command) *int { return &c.Rect.Y0 }, -1000, 1000, looks},
		{"Rect.X1", func(c *api.Command) *int { return &c.Rect.X1 }, -1000, 1000, looks},
		{"Rect.Y1", func(c *api.Command) *int { return &c.Rect.Y1 }, -1000, 1000, looks},
	}
}

// place: a field of a command: where it is, which kind has it.
type place struct {
	name string
	at   func(c *api.Command) *api.Field
	kind int
}

func places() []place {
	l := []place{{"Value", func(c *api.Command) *api.Field { return &c.Value }, api.CSet}}
	for i := range api.Fields {
		l = append(l, place{"F" + string(rune('0'+i)), func(c *api.Command) *api.Field { return &c.F[i] }, api.CPut})
	}
	return l
}

func number(n int64) api.Field { return api.Field{N: n} }

func text(s string) api.Field { return api.Field{Text: s} }

// goodFields: what a field may be, beside zero.
func goodFields() []api.Field {
	return []api.Field{
		number(1), number(-1), number(63), number(64), number(-64), number(-65), number(math.MaxInt64), number(math.MinInt64), number(1 << 32),
		text("a"), text("\x00"), text("\x80"), text("\xff\xfe"), text("12345678901"), text("123456789012"), text(strings.Repeat("é", 6)),
	}
}

func badFields() []api.Field {
	return []api.Field{
		{N: 1, Text: "a"}, {N: -1, Text: "\x00"}, {N: math.MinInt64, Text: "a"}, {N: 1 << 32, Text: "a"},
		text("1234567890123"), text(strings.Repeat("é", 7)), text(strings.Repeat("a", 268)), {N: 1, Text: "1234567890123"},
	}
}

// someField: a field as it may be, often one at an end.
func someField(r *rand.Rand) api.Field {
	switch l := goodFields(); r.Intn(4) {
	case 0:
		return number(int64(r.Uint64()))
	case 1:
		return text(strings.Repeat(string(rune('a'+r.Intn(2))), r.Intn(api.MaxText+1)))
	case 2:
		return l[r.Intn(len(l))]
	}
	return api.Field{}
}

// some: a command of that kind, often at the ends of what its parts may be.
func some(r *rand.Rand, kind int) api.Command {
	c := api.Command{Kind: kind}
	for _, x := range slots() {
		if !slices.Contains(x.kinds, kind) {
			continue
		}
		ends := []int{x.least, x.most, 0, 1, x.least + r.Intn(x.most-x.least+1)}
		*x.at(&c) = ends[r.Intn(len(ends))]
	}
	for _, x := range places() {
		if x.kind == kind {
			*x.at(&c) = someField(r)
		}
	}
	return c
}

// strange: a command of whatever parts, most of them such that it is none.
func strange(r *rand.Rand) api.Command {
	far := []int{0, 0, 0, 0, 1, 3, 4, -1, -2, 8, 9, 100, 101, 1001, 1000001, math.MinInt, math.MaxInt}
	c := api.Command{Kind: far[r.Intn(len(far))]}
	for _, x := range slots() {
		*x.at(&c) = far[r.Intn(len(far))]
	}
	l := append(badFields(), number(1), text("a"))
	for _, x := range places() {
		if r.Intn(3) == 0 {
			*x.at(&c) = l[r.Intn(len(l))]
		}
	}
	return c
}

func wantIs(t *testing.T, c api.Command, what string) {
	t.Helper()
	if !cmd.Is(c) {
		t.Errorf("%s: %+v isn't Is", what, c)
	}
	s, e := cmd.Bytes(c)
	if s == "" || len(s) > 200 || e != api.OK {
		t.Errorf("%s: Bytes(%+v): %x, %d", what, c, s, e)
	}
	wantRead(t, s, c, len(s), api.OK)
}

func wantNot(t *testing.T, c api.Command, what string) {
	t.Helper()
	if cmd.Is(c) {
		t.Errorf("%s: %+v is Is", what, c)
	}
	if s, e := cmd.Bytes(c); s != "" || e != api.ErrForm {
		t.Errorf("%s: Bytes(%+v): %x, %d", what, c, s, e)
	}
}

func wantRead(t *testing.T, s string, c api.Command, size int, e api.Errno) {
	t.Helper()
	if gc, gs, ge := cmd.Read(s); gc != c || gs != size || ge != e {
		t.Errorf("Read(%x): %+v, %d, %d; want %+v, %d, %d", s, gc, gs, ge, c, size, e)
	}
}

// P10.1
func TestIsAtEachNumber(t *testing.T) {
	r := rand.New(rand.NewSource(101))
	for _, kind := range kinds {
		for _, x := range slots() {
			// In a bare command, and in one that has all that it may have.
			for _, c := range []api.Command{{Kind: kind}, some(r, kind)} {
				with := func(n int) api.Command {
					*x.at(&c) = n
					return c
				}
				wantIs(t, with(0), x.name)
				has := slices.Contains(x.kinds, kind)
				for _, n := range []int{x.least, x.least + 1, 1, 2, x.most - 1, x.most} {
					if has || n == 0 {
						wantIs(t, with(n), x.name)
					} else {
						wantNot(t, with(n), x.name)
					}
				}
				for _, n := range []int{x.least - 1, x.most + 1, math.MinInt32, math.MaxInt32, 1 << 32, 1<<32 + 1, -1 << 32, math.MinInt, math.MaxInt} {
					wantNot(t, with(n), x.name)
				}
			}
		}
	}
}

// P10.1
func TestIsAtEachField(t *testing.T) {
	r := rand.New(rand.NewSource(102))
	for _, kind := range kinds {
		for _, x := range places() {
			for _, c := range []api.Command{{Kind: kind}, some(r, kind)} {
				with := func(f api.Field) api.Command {
					*x.at(&c) = f
					return c
				}
				wantIs(t, with(api.Field{}), x.name)
				for _, f := range goodFields() {
					if x.kind == kind {
						wantIs(t, with(f), x.name)
					} else {
						wantNot(t, with(f), x.name)
					}
				}
				for _, f := range badFields() {
					wantNot(t, with(f), x.name)
				}
			}
		}
	}
}

// P10.1
func TestIsOfNoKind(t *testing.T) {
	r := rand.New(rand.NewSource(103))
	for _, kind := range []int{0, -1, -8, 9, 10, 255, 256, 257, 1 << 32, 1<<32 + 1, math.MinInt, math.MaxInt} {
		wantNot(t, api.Command{Kind: kind}, "no kind")
		wantNot(t, api.Command{Kind: kind, Client: 1, Session: 1}, "no kind")
		for _, k := range kinds {
			c := some(r, k)
			c.Kind = kind
			wantNot(t, c, "no kind")
		}
	}
	wantNot(t, api.Command{}, "nothing")
}

// P10.1
func TestIsOfTheOtherKind(t *testing.T) {
	// Each has what its kind has and nothing else: of another kind it is one only where that has the same parts.
	full := func(kind int) api.Command {
		c := api.Command{Kind: kind}
		for _, x := range slots() {
			if slices.Contains(x.kinds, kind) {
				*x.at(&c) = x.most
			}
		}
		for _, x := range places() {
			if x.kind == kind {
				*x.at(&c) = text("a")
			}
		}
		return c
	}
	for _, kind := range kinds {
		for _, other := range kinds {
			c := full(kind)
			c.Kind = other
			twins := kind == api.CJoin && other == api.CTurn || kind == api.CTurn && other == api.CJoin
			within := kind == api.CQuit || kind == api.CDrop && (other == api.CMove || other == api.CSet)
			if kind == other || twins || within {
				wantIs(t, c, "another kind")
			} else {
				wantNot(t, c, "another kind")
			}
		}
	}
}

// P10.1
func TestPlacesNeedNotBeOnTheMap(t *testing.T) {
	for _, c := range []api.Command{
		{Kind: api.CPut, At: api.Point{X: -1000, Y: 1000}},
		{Kind: api.CMove, At: api.Point{X: 64, Y: -1}},
		{Kind: api.CJoin, Rect: api.Rect{X0: 1000, Y0: 1000, X1: -1000, Y1: -1000}},
		{Kind: api.CTurn, Rect: api.Rect{X0: 5, Y0: 5, X1: 5, Y1: 5}},
		{Kind: api.CSet, Which: api.Fields},
		{Kind: api.CHand, Which: api.Cells, To: api.MaxServer},
	} {
		wantIs(t, c, "beyond the map")
	}
}

// P10.1
func TestWatchesIsOfTheKindAlone(t *testing.T) {
	r := rand.New(rand.NewSource(104))
	for _, kind := range []int{0, -1, 1, 2, 3, 4, 5, 6, 7, 8, 9, 6 + 1<<32, 8 - 1<<32, math.MinInt, math.MaxInt} {
		for range 20 {
			c := strange(r)
			c.Kind = kind
			if got := cmd.Watches(c); got != (kind == 6 || kind == 7 || kind == 8) {
				t.Fatalf("Watches(%+v): %v", c, got)
			}
		}
	}
}

// P10.1
func TestSameIsAllParts(t *testing.T) {
	r := rand.New(rand.NewSource(105))
	for i := range 300 {
		c := strange(r)
		if i%2 == 0 {
			c = some(r, kinds[r.Intn(len(kinds))])
		}
		if x := c; !cmd.Same(c, x) {
			t.Fatalf("%+v isn't the same as itself", c)
		}
		x := c
		x.Kind++
		others := []api.Command{x}
		for _, s := range slots() {
			x := c
			*s.at(&x)++
			others = append(others, x)
		}
		for _, p := range places() {
			x, y := c, c
			p.at(&x).N++
			p.at(&y).Text += "\x00"
			others = append(others, x, y)
		}
		for _, x := range others {
			if cmd.Same(c, x) || cmd.Same(x, c) {
				t.Fatalf("%+v is the same as %+v", c, x)
			}
		}
	}
}

// P10.2
func TestBytesOfWhatIsNone(t *testing.T) {
	r := rand.New(rand.NewSource(106))
	for range 20000 {
		c := strange(r)
		s, e := cmd.Bytes(c)
		if cmd.Is(c) {
			if s == "" || e != api.OK {
				t.Fatalf("Bytes(%+v): %x, %d", c, s, e)
			}
		} else if s != "" || e != api.ErrForm {
			t.Fatalf("Bytes(%+v): %x, %d", c, s, e)
		}
	}
}

// P10.2
func TestBytesAreFew(t *testing.T) {
	long := text(strings.Repeat("\xff", 12))
	for _, f := range []api.Field{long, number(math.MinInt64), number(math.MaxInt64)} {
		c := api.Command{Kind: api.CPut, At: api.Point{X: -1000, Y: -1000}, F: [api.Fields]api.Field{f, f, f, f}, Client: 3, Session: 1000000}
		if s, e := cmd.Bytes(c); s == "" || len(s) > 200 || e != api.OK {
			t.Errorf("Bytes(%+v): %d bytes, %d", c, len(s), e)
		}
	}
}

// P10.2
func TestBytesRows(t *testing.T) {
	for _, x := range []struct {
		c    api.Command
		want string
	}{
		{api.Command{Kind: api.CDrop, ID: 5}, "\x08\x00\x00\x0a"},
		{api.Command{Kind: api.CQuit, Client: 3, Session: 64}, "\x10\x06\x80\x01"},
		{api.Command{Kind: api.CPut, At: api.Point{X: 1, Y: -1}, F: [api.Fields]api.Field{number(-1), text("ab")}}, "\x02\x00\x00\x02\x01\x00\x01\x02ab\x00\x00\x00\x00\x00"},
		{api.Command{Kind: api.CMove, ID: 5, At: api.Point{X: 63, Y: 2}}, "\x04\x00\x00\x7e\x04\x0a"},
		{api.Command{Kind: api.CSet, ID: 5, Which: -1, Value: text("a")}, "\x06\x00\x00\x0a\x01\x01a\x00"},
		{api.Command{Kind: api.CHand, Which: 15, To: 3}, "\x0a\x00\x00\x1e\x06"},
		{api.Command{Kind: api.CJoin, Session: 1, Rect: api.Rect{X0: 1, Y0: 2, X1: 3, Y1: 4}}, "\x0c\x00\x02\x02\x04\x06\x08"},
		{api.Command{Kind: api.CTurn, Session: 1, Rect: api.Rect{X0: 1, Y0: 2, X1: 3, Y1: 4}}, "\x0e\x00\x02\x02\x04\x06\x08"},
	} {
		if s, e := cmd.Bytes(x.c); s != x.want || e != api.OK {
			t.Errorf("Bytes(%+v): %x, %d; want %x", x.c, s, e, x.want)
		}
		wantRead(t, x.want, x.c, len(x.want), api.OK)
	}
}

// P10.2, P10.3
func TestWhatWasWrittenIsRead(t *testing.T) {
	r := rand.New(rand.NewSource(107))
	for _, kind := range kinds {
		for range 300 {
			c := some(r, kind)
			wantIs(t, c, "some")
			s, _ := cmd.Bytes(c)
			for _, tail := range []string{"\x00", "\x80", "\xff", "tail", s} {
				wantRead(t, s+tail, c, len(s), api.OK)
			}
			for i := range s {
				wantRead(t, s[:i], api.Command{}, 0, api.ErrShort)
			}
			if t.Failed() {
				return
			}
		}
	}
}

// P10.3
func TestManyOneBehindTheOther(t *testing.T) {
	r := rand.New(rand.NewSource(108))
	var all []api.Command
	s := ""
	for range 500 {
		c := some(r, kinds[r.Intn(len(kinds))])
		b, e := cmd.Bytes(c)
		if e != api.OK {
			t.Fatalf("Bytes(%+v): %d", c, e)
		}
		all = append(all, c)
		s += b
	}
	for i, want := range all {
		c, size, e := cmd.Read(s)
		if !cmd.Same(c, want) || e != api.OK {
			t.Fatalf("command %d: %+v, %d; want %+v", i, c, e, want)
		}
		s = s[size:]
	}
	wantRead(t, s, api.Command{}, 0, api.ErrShort)
}

// P10.2
func TestNoBytesBeginAnotherOnes(t *testing.T) {
	r := rand.New(rand.NewSource(109))
	of := map[string]api.Command{}
	var all []string
	for _, kind := range kinds {
		for range 2000 {
			c := some(r, kind)
			s, _ := cmd.Bytes(c)
			if x, ok := of[s]; ok && x != c {
				t.Fatalf("%+v and %+v: both %x", c, x, s)
			} else if !ok {
				all = append(all, s)
			}
			of[s] = c
		}
	}
	// Sorted, what begins with a text comes right behind it.
	slices.Sort(all)
	for i := range len(all) - 1 {
		if strings.HasPrefix(all[i+1], all[i]) {
			t.Fatalf("%x is the beginning of %x", all[i], all[i+1])
		}
	}
}

// P10.2
func TestReadRefuses(t *testing.T) {
	ill := strings.Repeat("\xff", 9) + "\x02"
	late := "\x82\x89\x7a"               // 1000001
	far := binary.AppendVarint(nil, 101) // one more than Which and To may be
	for _, x := range []struct {
		s    string
		want api.Errno
	}{
		{"", api.ErrShort},
		{"\x80", api.ErrShort},
		{"\x08", api.ErrShort},
		{"\x08\x00", api.ErrShort},
		{"\x08\x00\x00", api.ErrShort},
		{"\x08\x00\x00\x80", api.ErrShort},
		// No kind.
		{"\x00", api.ErrForm},
		{"\x00\x00\x00", api.ErrForm},
		{"\x01\x00\x00", api.ErrForm},
		{"\x12\x00\x00", api.ErrForm},
		{"\x80\x00", api.ErrForm},
		{"\x88\x00\x00\x00\x0a", api.ErrForm},
		{ill, api.ErrForm},
		{string(binary.AppendVarint(nil, 1<<32+4)) + "\x00\x00\x0a", api.ErrForm},
		{string(binary.AppendVarint(nil, math.MinInt64)), api.ErrForm},
		// No client, no session, no thing.
		{"\x08\x08\x00\x0a", api.ErrForm},
		{"\x08\x01\x00\x0a", api.ErrForm},
		{"\x08\x80\x00\x00\x0a", api.ErrForm},
		{"\x08\x00\x01\x0a", api.ErrForm},
		{"\x08\x00" + late + "\x0a", api.ErrForm},
		{"\x08\x00\x00\x01", api.ErrForm},
		{"\x08\x00\x00" + late, api.ErrForm},
		{"\x08\x00\x00\x8a\x00", api.ErrForm},
		{"\x08\x00\x00" + string(binary.AppendVarint(nil, 1<<32+5)), api.ErrForm},
		{"\x08\x00\x00" + ill, api.ErrForm},
		// No number, no place that may be named.
		{"\x0a\x00\x00\x03\x00", api.ErrForm},
		{"\x0a\x00\x00\x00\x03", api.ErrForm},
		{"\x0a\x00\x00" + string(far) + "\x00", api.ErrForm},
		{"\x0a\x00\x00\x00" + string(far), api.ErrForm},
		{"\x04\x00\x00\xd1\x0f\x00\x00", api.ErrForm}, // -1001
		{"\x04\x00\x00\x00\xd2\x0f\x00", api.ErrForm}, // 1001
		{"\x0c\x00\x00\x00\x00\x00\xd2\x0f", api.ErrForm},
		{"\x0e\x00\x00\xd1\x0f\x00\x00\x00", api.ErrForm},
		// No field.
		{"\x06\x00\x00\x00\x00\x0d", api.ErrLarge},
		{"\x06\x00\x00\x00\x00\x0d1234567890123\x00", api.ErrLarge},
		{"\x06\x00\x00\x00\x00\x0c12345678901", api.ErrShort},
		{"\x06\x00\x00\x00\x00\x01a", api.ErrShort},
		{"\x06\x00\x00\x00\x00\x01a\x02", api.ErrForm},
		{"\x06\x00\x00\x00\x00\x80\x00", api.ErrForm},
		{"\x06\x00\x00\x00\x00\x00\x80\x00", api.ErrForm},
		{"\x06\x00\x00\x00\x00\x00" + ill, api.ErrForm},
		{"\x02\x00\x00\x00\x00\x00\x00\x00\x00\x00\x00\x0d", api.ErrLarge},
		{"\x02\x00\x00\x00\x00\x00\x00\x00\x00\x00\x00\x01a\x01", api.ErrForm},
	} {
		wantRead(t, x.s, api.Command{}, 0, x.want)
	}
}

// holdsRead: what Read tells of s is a command whose Bytes s begins with, or one of the errors and nothing else.
func holdsRead(t *testing.T, s string) {
	t.Helper()
	c, size, e := cmd.Read(s)
	switch e {
	case api.OK:
		if b, e := cmd.Bytes(c); !cmd.Is(c) || e != api.OK || size != len(b) || !strings.HasPrefix(s, b) {
			t.Errorf("Read(%x): %+v, %d; its Bytes: %x, %d", s, c, size, b, e)
		}
	case api.ErrShort, api.ErrForm, api.ErrLarge:
		if c != (api.Command{}) || size != 0 {
			t.Errorf("Read(%x): %+v, %d beside %d", s, c, size, e)
		}
	default:
		t.Errorf("Read(%x): %d", s, e)
	}
}

// P10.2
func TestReadOfAllShortBytes(t *testing.T) {
	odd := []byte{0, 1, 2, 4, 6, 8, 0x0a, 0x0c, 0x0d, 0x0e, 0x10, 0x12, 0x7f, 0x80, 0x81, 0xff}
	var grow func(s []byte)
	grow = func(s []byte) {
		holdsRead(t, string(s))
		if len(s) == 5 || t.Failed() {
			return
		}
		for _, b := range odd {
			grow(append(s, b))
		}
	}
	grow(nil)
}

// P10.2
func TestReadOfSpoiltBytes(t *testing.T) {
	r := rand.New(rand.NewSource(110))
	odd := []byte{0, 1, 2, 3, 12, 13, 16, 17, 18, 127, 128, 129, 255}
	for range 30000 {
		b, _ := cmd.Bytes(some(r, kinds[r.Intn(len(kinds))]))
		s := []byte(b)
		for range 1 + r.Intn(2) {
			i := r.Intn(len(s))
			switch r.Intn(4) {
			case 0:
				s[i] = odd[r.Intn(len(odd))]
			case 1:
				s[i] ^= 1 << r.Intn(8)
			case 2:
				s = slices.Insert(s, i, odd[r.Intn(len(odd))])
			default:
				s = slices.Delete(s, i, min(i+1, len(s)-1))
			}
		}
		holdsRead(t, string(s))
		if t.Failed() {
			return
		}
	}
}

// P10.2, rule 3
func TestTextsThatAreReadAreNew(t *testing.T) {
	want := api.Command{Kind: api.CSet, Value: text("123456789012")}
	s, _ := cmd.Bytes(want)
	c, _, _ := cmd.Read(s)
	i := strings.Index(s, want.Value.Text)
	if c != want || i < 0 {
		t.Fatalf("Read(%x): %+v", s, c)
	}
	if unsafe.StringData(c.Value.Text) == unsafe.StringData(s[i:]) {
		t.Error("the text is a piece of what was read")
	}
}
