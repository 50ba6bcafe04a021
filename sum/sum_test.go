package sum_test

import (
	"hash/crc32"
	"math/rand"
	"strings"
	"testing"
	"unsafe"

	"vedette/api"
	"vedette/num"
	"vedette/sum"
)

// bytesOf: up to length bytes of whatever value.
func bytesOf(r *rand.Rand, length int) string {
	b := make([]byte, r.Intn(length+1))
	r.Read(b)
	return string(b)
}

// turned: s with one bit turned, the lowest of its first byte being bit 0.
func turned(s string, bit int) string {
	b := []byte(s)
	b[bit/8] ^= 1 << (bit % 8)
	return string(b)
}

func wantOpen(t *testing.T, s, want string, size int, e api.Errno) {
	t.Helper()
	b, n, f := sum.Open(s)
	if b != want || n != size || f != e {
		t.Errorf("Open(%.60q): %.60q, %d, %d; want %.60q, %d, %d", s, b, n, f, want, size, e)
	}
}

// P2.1
func TestOfTextsWhoseSumIsKnown(t *testing.T) {
	rows := map[string]uint32{
		"":                 0,
		"\x00":             0xd202ef8d,
		"\x00\x00\x00\x00": 0x2144df1c,
		"\xff":             0xff000000,
		"\xff\xff\xff\xff": 0xffffffff,
		"a":                0xe8b7be43,
		"abc":              0x352441c2,
		"123456789":        0xcbf43926,
		"The quick brown fox jumps over the lazy dog": 0x414fa339,
	}
	for b, want := range rows {
		if got := sum.Of(b); got != want {
			t.Errorf("Of(%q): %x, want %x", b, got, want)
		}
	}
}

// plain: the chapter's words, by dividing alone.
func plain(b string) uint32 {
	c := uint32(4294967295)
	for _, x := range []byte(b) {
		c = c/256*256 + uint32(byte(c%256)^x)
		for range 8 {
			odd := c%2 == 1
			c /= 2
			if odd {
				c ^= 3988292384
			}
		}
	}
	return c ^ 4294967295
}

// P2.1
func TestOfWhateverBytes(t *testing.T) {
	check := func(b string) {
		if got := sum.Of(b); got != plain(b) || got != crc32.ChecksumIEEE([]byte(b)) {
			t.Errorf("Of(%.60q): %x, want %x", b, got, plain(b))
		}
	}
	for x := range 256 {
		check(string([]byte{byte(x)}))
		check(string([]byte{byte(x), 0}))
		check(string([]byte{0, byte(x)}))
	}
	r := rand.New(rand.NewSource(21))
	for range 2000 {
		check(bytesOf(r, 300))
	}
	check(strings.Repeat("z", api.MaxBytes))
	check(strings.Repeat("z", api.MaxBytes+1))
}

// P2.2
func TestWrapHasTheLengthAheadAndTheSumBehind(t *testing.T) {
	rows := map[string]string{
		"":          "\x00\x00\x00\x00\x00",
		"a":         "\x01a\x43\xbe\xb7\xe8",
		"\xff":      "\x01\xff\x00\x00\x00\xff",
		"123456789": "\x09123456789\x26\x39\xf4\xcb",
	}
	for b, want := range rows {
		if got := sum.Wrap(b); got != want {
			t.Errorf("Wrap(%q): %q, want %q", b, got, want)
		}
	}
	for _, n := range []int{126, 127, 128, 129, 16383, 16384, api.MaxBytes, api.MaxBytes + 1} {
		b := strings.Repeat("w", n)
		c := crc32.ChecksumIEEE([]byte(b))
		want := num.Text(b) + string([]byte{byte(c), byte(c >> 8), byte(c >> 16), byte(c >> 24)})
		if sum.Wrap(b) != want {
			t.Errorf("Wrap of %d bytes isn't their text and their sum", n)
		}
	}
}

// P2.2
func TestOpen(t *testing.T) {
	a := sum.Wrap("a")
	rows := []struct {
		s, want string
		size    int
		e       api.Errno
	}{
		{a, "a", 6, api.OK},
		{a + "x", "a", 6, api.OK},
		{a + a, "a", 6, api.OK},
		{"\x00\x00\x00\x00\x00", "", 5, api.OK},
		{"\x00\x00\x00\x00\x00\x00", "", 5, api.OK},
		{"", "", 0, api.ErrShort},
		{"\x00", "", 0, api.ErrShort},
		{"\x00\x00\x00\x00", "", 0, api.ErrShort},
		{"\x00\x01\x01\x01", "", 0, api.ErrShort}, // that they aren't the sum isn't asked while one lacks
		{"\x80", "", 0, api.ErrShort},
		{"\x80\x00", "", 0, api.ErrForm},
		{"\x80\x00\x00\x00\x00\x00", "", 0, api.ErrForm},
		{strings.Repeat("\xff", 10), "", 0, api.ErrForm},
		{strings.Repeat("\xff", 9) + "\x01", "", 0, api.ErrLarge},
		{"\x00\x00\x00\x00\x01", "", 0, api.ErrSum},
		{"\x00\x01\x00\x00\x00", "", 0, api.ErrSum},
		{"\x01b" + a[2:], "", 0, api.ErrSum},
		{"\x01a\xe8\xb7\xbe\x43", "", 0, api.ErrSum}, // the highest first
		{"\x01a\x43\xbe\xb7\x00\xe8", "", 0, api.ErrSum},
	}
	for _, r := range rows {
		wantOpen(t, r.s, r.want, r.size, r.e)
	}
}

// P2.2
func TestOpenAtTheLimit(t *testing.T) {
	for n := api.MaxBytes - 2; n <= api.MaxBytes; n++ {
		b := strings.Repeat("m", n)
		s := sum.Wrap(b)
		wantOpen(t, s, b, n+7, api.OK)
		wantOpen(t, s+"more", b, n+7, api.OK)
		wantOpen(t, s[:len(s)-1], "", 0, api.ErrShort)
		wantOpen(t, num.Put(uint64(n)), "", 0, api.ErrShort)
	}
	for n := api.MaxBytes + 1; n <= api.MaxBytes+3; n++ {
		s := sum.Wrap(strings.Repeat("m", n))
		wantOpen(t, s, "", 0, api.ErrLarge)
		wantOpen(t, s[:len(s)-1], "", 0, api.ErrLarge)
		wantOpen(t, num.Put(uint64(n)), "", 0, api.ErrLarge) // both apply: num's Texts names it first
	}
}

// P2.2
func TestOpenOfBytesThatLack(t *testing.T) {
	for _, n := range []int{0, 1, 2, 127, 128, 300} {
		s := sum.Wrap(strings.Repeat("s", n))
		for i := range len(s) {
			wantOpen(t, s[:i], "", 0, api.ErrShort)
		}
	}
}

// P2.2
func TestWhatIsWrappedIsOpened(t *testing.T) {
	r := rand.New(rand.NewSource(22))
	for range 500 {
		var told []string
		all := ""
		for range r.Intn(5) {
			b := bytesOf(r, 300)
			told = append(told, b)
			all += sum.Wrap(b)
		}
		for _, want := range told {
			wantOpen(t, all, want, len(sum.Wrap(want)), api.OK)
			all = all[len(sum.Wrap(want)):]
		}
		if all != "" {
			t.Fatalf("%q is left", all)
		}
	}
}

// P2.2
func TestOpenOfWhateverBytes(t *testing.T) {
	r := rand.New(rand.NewSource(23))
	for range 20000 {
		s := bytesOf(r, 12)
		b, size, e := sum.Open(s)
		switch e {
		case api.OK:
			if sum.Wrap(b) != s[:size] {
				t.Errorf("Open(%q): %q, %d", s, b, size)
			}
		case api.ErrShort, api.ErrForm, api.ErrSum, api.ErrLarge:
			if b != "" || size != 0 {
				t.Errorf("Open(%q): %q, %d beside error %d", s, b, size, e)
			}
		default:
			t.Errorf("Open(%q): error %d", s, e)
		}
	}
}

// Rule 3 of what holds everywhere: an answer shares no memory with what is handed in.
func TestWhatIsOpenedIsNewMemory(t *testing.T) {
	s := sum.Wrap("abc")
	b, _, _ := sum.Open(s)
	if unsafe.StringData(b) == unsafe.StringData(s[1:]) {
		t.Error("the bytes are a piece of what was handed in")
	}
}

// P2.3: each bit of the bytes and of their sum.
func TestABitThatIsTurnedIsSeen(t *testing.T) {
	r := rand.New(rand.NewSource(24))
	told := []string{"", "\x00", "\xff", "a", strings.Repeat("\x00", 40), strings.Repeat("\xff", 130), bytesOf(r, 400)}
	for _, b := range told {
		s := sum.Wrap(b)
		ahead := len(num.Put(uint64(len(b))))
		for bit := 8 * ahead; bit < 8*len(s); bit++ {
			wantOpen(t, turned(s, bit), "", 0, api.ErrSum)
		}
		for bit := range 8 * len(b) {
			if sum.Of(turned(b, bit)) == sum.Of(b) {
				t.Errorf("Of(%q) doesn't see bit %d", b, bit)
			}
		}
	}
	b := strings.Repeat("m", api.MaxBytes)
	s := sum.Wrap(b)
	for range 200 {
		wantOpen(t, turned(s, 24+r.Intn(8*(len(s)-3))), "", 0, api.ErrSum)
	}
}

// P2.3: a bit of the length; the bytes are such that no shorter or longer piece of them has the sum that stands behind it.
func TestABitOfTheLengthThatIsTurnedIsSeen(t *testing.T) {
	for n := range 300 {
		s := sum.Wrap(strings.Repeat("k", n))
		for bit := range 8 * len(num.Put(uint64(n))) {
			b, size, e := sum.Open(turned(s, bit))
			if e == api.OK || b != "" || size != 0 {
				t.Errorf("%d bytes, bit %d of the length: %q, %d, %d", n, bit, b, size, e)
			}
		}
	}
}
