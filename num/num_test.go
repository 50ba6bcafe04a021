package num_test

import (
	"encoding/binary"
	"math"
	"math/rand"
	"strings"
	"testing"
	"unsafe"

	"vedette/api"
	"vedette/num"
)

// edges: numbers on both sides of each length in bytes, and of each power of two.
func edges() []uint64 {
	l := []uint64{0, 300, math.MaxUint64}
	for i := range 64 {
		p := uint64(1) << i
		l = append(l, p-1, p, p+1)
	}
	return l
}

// sizes: how many bytes a number takes, by dividing alone.
func sizes(n uint64) int {
	k := 1
	for ; n > 127; n /= 128 {
		k++
	}
	return k
}

func wantGet(t *testing.T, s string, n uint64, size int, e api.Errno) {
	t.Helper()
	if gn, gs, ge := num.Get(s); gn != n || gs != size || ge != e {
		t.Errorf("Get(%x): %d, %d, %d; want %d, %d, %d", s, gn, gs, ge, n, size, e)
	}
}

// P1.1
func TestPutTellsTheLowestSevenBitsFirst(t *testing.T) {
	rows := []struct {
		n    uint64
		want string
	}{
		{0, "\x00"},
		{1, "\x01"},
		{127, "\x7f"},
		{128, "\x80\x01"},
		{300, "\xac\x02"},
		{16383, "\xff\x7f"},
		{16384, "\x80\x80\x01"},
		{1<<63 - 1, "\xff\xff\xff\xff\xff\xff\xff\xff\x7f"},
		{1 << 63, "\x80\x80\x80\x80\x80\x80\x80\x80\x80\x01"},
		{math.MaxUint64, "\xff\xff\xff\xff\xff\xff\xff\xff\xff\x01"},
	}
	for _, r := range rows {
		if got := num.Put(r.n); got != r.want {
			t.Errorf("Put(%d): %x, want %x", r.n, got, r.want)
		}
		wantGet(t, r.want, r.n, len(r.want), api.OK)
	}
	for _, n := range edges() {
		if got, want := num.Put(n), string(binary.AppendUvarint(nil, n)); got != want || len(got) != sizes(n) {
			t.Errorf("Put(%d): %x, want %x in %d bytes", n, got, want, sizes(n))
		}
	}
}

// P1.1
func TestGetReadsTheBeginningAlone(t *testing.T) {
	for _, n := range edges() {
		s := num.Put(n)
		for _, behind := range []string{"", "\x00", "\x01", "\x80", "\xff\xff", s} {
			wantGet(t, s+behind, n, len(s), api.OK)
		}
	}
}

// P1.1
func TestGetOfBytesThatLack(t *testing.T) {
	for _, n := range edges() {
		s := num.Put(n)
		for i := range s {
			wantGet(t, s[:i], 0, 0, api.ErrShort)
		}
	}
	for i := range 10 {
		wantGet(t, strings.Repeat("\x80", i), 0, 0, api.ErrShort)
		wantGet(t, strings.Repeat("\xff", i), 0, 0, api.ErrShort)
	}
}

// P1.1
func TestGetOfALastByteNought(t *testing.T) {
	wantGet(t, "\x00", 0, 1, api.OK)
	wantGet(t, "\x00\x00", 0, 1, api.OK)
	for i := 1; i < 10; i++ {
		wantGet(t, strings.Repeat("\x80", i)+"\x00", 0, 0, api.ErrForm)
		wantGet(t, strings.Repeat("\xff", i)+"\x00\x01", 0, 0, api.ErrForm)
	}
}

// P1.1
func TestGetOfTheTenthByte(t *testing.T) {
	low := strings.Repeat("\x80", 9)
	high := strings.Repeat("\xff", 9)
	wantGet(t, low+"\x01", 1<<63, 10, api.OK)
	wantGet(t, high+"\x01", math.MaxUint64, 10, api.OK)
	for b := range 256 {
		if b == 1 {
			continue
		}
		for _, behind := range []string{"", "\x00", "\x01", "\x80", "\xff\xff"} {
			wantGet(t, low+string([]byte{byte(b)})+behind, 0, 0, api.ErrForm)
			wantGet(t, high+string([]byte{byte(b)})+behind, 0, 0, api.ErrForm)
		}
	}
}

// ruling: what the chapter says of whatever bytes, told without Get's way of reading.
func ruling(s string) (uint64, int, api.Errno) {
	end := strings.IndexFunc(s[:min(len(s), 10)], func(r rune) bool { return r < 128 })
	switch {
	case end < 0 && len(s) >= 10:
		return 0, 0, api.ErrForm
	case end < 0:
		return 0, 0, api.ErrShort
	case end > 0 && s[end] == 0, end == 9 && s[end] > 1:
		return 0, 0, api.ErrForm
	}
	n := uint64(0)
	for i := end; i >= 0; i-- {
		n = n*128 + uint64(s[i]%128)
	}
	return n, end + 1, api.OK
}

// bytesOf: up to length bytes that are mostly at the edges, and mostly go on.
func bytesOf(r *rand.Rand, length int) string {
	b := make([]byte, r.Intn(length+1))
	for i := range b {
		switch r.Intn(8) {
		case 0:
			b[i] = byte(r.Intn(256))
		case 1:
			b[i] = byte(r.Intn(3))
		default:
			b[i] = byte(128 + r.Intn(128))
		}
	}
	return string(b)
}

// P1.1, and P1.3 the other way round: what is read is what would be written.
func TestGetOfWhateverBytes(t *testing.T) {
	check := func(s string) {
		n, size, e := ruling(s)
		wantGet(t, s, n, size, e)
		if e == api.OK && num.Put(n) != s[:size] {
			t.Errorf("Put(%d): %x, but %x is read so", n, num.Put(n), s[:size])
		}
		u, k, f := num.Ints(s)
		if u != num.Zag(n) || k != size || f != e {
			t.Errorf("Ints(%x): %d, %d, %d", s, u, k, f)
		}
	}
	check("")
	for a := range 256 {
		check(string([]byte{byte(a)}))
		for b := range 256 {
			check(string([]byte{byte(a), byte(b)}))
		}
	}
	r := rand.New(rand.NewSource(11))
	for range 50000 {
		check(bytesOf(r, 14))
	}
}

// P1.2
func TestZigAndZag(t *testing.T) {
	for i := range int64(1000) {
		if num.Zig(i) != uint64(2*i) || num.Zig(-i-1) != uint64(2*i+1) {
			t.Errorf("Zig of %d: %d, of %d: %d", i, num.Zig(i), -i-1, num.Zig(-i-1))
		}
		if num.Zag(uint64(2*i)) != i || num.Zag(uint64(2*i+1)) != -i-1 {
			t.Errorf("Zag of %d: %d, of %d: %d", 2*i, num.Zag(uint64(2*i)), 2*i+1, num.Zag(uint64(2*i+1)))
		}
	}
	ends := map[int64]uint64{
		math.MaxInt64:     math.MaxUint64 - 1,
		math.MinInt64:     math.MaxUint64,
		math.MaxInt64 - 1: math.MaxUint64 - 3,
		math.MinInt64 + 1: math.MaxUint64 - 2,
		1 << 62:           1 << 63,
		-1 << 62:          1<<63 - 1,
	}
	for n, u := range ends {
		if num.Zig(n) != u || num.Zag(u) != n {
			t.Errorf("Zig(%d): %d; Zag(%d): %d", n, num.Zig(n), u, num.Zag(u))
		}
	}
}

// P1.2
func TestIntsAreZigged(t *testing.T) {
	rows := []struct {
		n    int64
		want string
	}{
		{0, "\x00"},
		{-1, "\x01"},
		{1, "\x02"},
		{-64, "\x7f"},
		{64, "\x80\x01"},
		{150, "\xac\x02"},
		{math.MaxInt64, "\xfe\xff\xff\xff\xff\xff\xff\xff\xff\x01"},
		{math.MinInt64, "\xff\xff\xff\xff\xff\xff\xff\xff\xff\x01"},
	}
	for _, r := range rows {
		if got := num.Int(r.n); got != r.want {
			t.Errorf("Int(%d): %x, want %x", r.n, got, r.want)
		}
		if n, size, e := num.Ints(r.want + "\x07"); n != r.n || size != len(r.want) || e != api.OK {
			t.Errorf("Ints(%x): %d, %d, %d", r.want, n, size, e)
		}
	}
	wrong := map[string]api.Errno{
		"":                                 api.ErrShort,
		"\x81":                             api.ErrShort,
		"\x81\x00":                         api.ErrForm,
		strings.Repeat("\xff", 9):          api.ErrShort,
		strings.Repeat("\xff", 10):         api.ErrForm,
		strings.Repeat("\xff", 9) + "\x02": api.ErrForm,
	}
	for s, want := range wrong {
		if n, size, e := num.Ints(s); n != 0 || size != 0 || e != want {
			t.Errorf("Ints(%x): %d, %d, %d; want error %d", s, n, size, e, want)
		}
	}
}

// P1.2
func TestTextHasItsLengthAhead(t *testing.T) {
	rows := map[string]string{
		"":                       "\x00",
		"ab":                     "\x02ab",
		"\x00\xff":               "\x02\x00\xff",
		"ä":                      "\x02ä",
		strings.Repeat("x", 127): "\x7f" + strings.Repeat("x", 127),
		strings.Repeat("x", 128): "\x80\x01" + strings.Repeat("x", 128),
		strings.Repeat("x", 300): "\xac\x02" + strings.Repeat("x", 300),
	}
	for s, want := range rows {
		if got := num.Text(s); got != want {
			t.Errorf("Text(%q): %q", s, got)
		}
	}
}

// P1.2
func TestTexts(t *testing.T) {
	huge := strings.Repeat("\xff", 9) + "\x01"    // 2^64 - 1
	signed := strings.Repeat("\xff", 8) + "\x7f"  // 2^63 - 1
	beyond := strings.Repeat("\x80", 9) + "\x01"  // 2^63
	long := "\x80\x01" + strings.Repeat("y", 128) // the length itself takes two bytes
	rows := []struct {
		s    string
		most int
		want string
		size int
		e    api.Errno
	}{
		{"\x02ab", 2, "ab", 3, api.OK},
		{"\x02abc", 2, "ab", 3, api.OK},
		{"\x02ab", math.MaxInt, "ab", 3, api.OK},
		{"\x02ab", 1, "", 0, api.ErrLarge},
		{"\x02ab", 0, "", 0, api.ErrLarge},
		{"\x00", 0, "", 1, api.OK},
		{"\x00ab", -1, "", 1, api.OK},
		{"\x00", math.MinInt, "", 1, api.OK},
		{"\x01a", -1, "", 0, api.ErrLarge},
		{"\x01a", math.MinInt, "", 0, api.ErrLarge},
		{"\x02a", 2, "", 0, api.ErrShort},
		{"\x02", 2, "", 0, api.ErrShort},
		{"\x02", 1, "", 0, api.ErrLarge}, // both apply: the first that the chapter names
		{"", 5, "", 0, api.ErrShort},
		{"", -5, "", 0, api.ErrShort},
		{"\x82", -5, "", 0, api.ErrShort},
		{"\x82\x00ab", 5, "", 0, api.ErrForm},
		{"\x82\x00ab", -5, "", 0, api.ErrForm},
		{strings.Repeat("\xff", 10), 5, "", 0, api.ErrForm},
		{long, 128, strings.Repeat("y", 128), 130, api.OK},
		{long, 127, "", 0, api.ErrLarge},
		{long[:129], 128, "", 0, api.ErrShort},
		{huge + "a", math.MaxInt, "", 0, api.ErrLarge},
		{beyond + "a", math.MaxInt, "", 0, api.ErrLarge},
		{signed + "a", math.MaxInt, "", 0, api.ErrShort},
		{signed + "a", math.MaxInt - 1, "", 0, api.ErrLarge},
	}
	for _, r := range rows {
		if s, size, e := num.Texts(r.s, r.most); s != r.want || size != r.size || e != r.e {
			t.Errorf("Texts(%q, %d): %q, %d, %d; want %q, %d, %d", r.s, r.most, s, size, e, r.want, r.size, r.e)
		}
	}
}

// Rule 3 of what holds everywhere: an answer shares no memory with what is handed in.
func TestTextsAreNewMemory(t *testing.T) {
	s := num.Text("abc")
	got, _, _ := num.Texts(s, 3)
	if unsafe.StringData(got) == unsafe.StringData(s[1:]) {
		t.Error("the text is a piece of what was handed in")
	}
}

// P1.3
func TestWhatWasWrittenIsRead(t *testing.T) {
	check := func(n uint64) {
		if got, size, e := num.Get(num.Put(n) + "\x80"); got != n || size != len(num.Put(n)) || e != api.OK {
			t.Errorf("Get of Put(%d): %d, %d, %d", n, got, size, e)
		}
		for _, z := range []int64{int64(n), -int64(n)} {
			if got, size, e := num.Ints(num.Int(z) + "\x80"); got != z || size != len(num.Int(z)) || e != api.OK {
				t.Errorf("Ints of Int(%d): %d, %d, %d", z, got, size, e)
			}
		}
		if got := num.Zig(num.Zag(n)); got != n {
			t.Errorf("Zig of Zag(%d): %d", n, got)
		}
	}
	for _, n := range edges() {
		check(n)
	}
	r := rand.New(rand.NewSource(13))
	for range 5000 {
		check(r.Uint64() >> r.Intn(64))
	}
}

// P1.3
func TestTextsBehindOneAnother(t *testing.T) {
	r := rand.New(rand.NewSource(17))
	for range 300 {
		var texts []string
		all := ""
		for range r.Intn(6) {
			texts = append(texts, bytesOf(r, 400))
			all += num.Text(texts[len(texts)-1])
		}
		for i, want := range texts {
			got, size, e := num.Texts(all, len(want))
			if got != want || size != len(num.Text(want)) || e != api.OK {
				t.Fatalf("text %d: %q, %d, %d; want %q", i, got, size, e, want)
			}
			all = all[size:]
		}
		if all != "" {
			t.Fatalf("%q is left", all)
		}
	}
}
