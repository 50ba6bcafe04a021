package morton_test

import (
	"math"
	"math/rand"
	"testing"

	"vedette/morton"
)

// woven: the chapter's rule, a bit at a time.
func woven(x, y uint16) uint32 {
	var m uint32
	for i := 0; i < 16; i++ {
		if x&(1<<i) != 0 {
			m += 1 << (2 * i)
		}
		if y&(1<<i) != 0 {
			m += 1 << (2*i + 1)
		}
	}
	return m
}

// parts: numbers of 16 bits at which runs of bits begin and end.
func parts() []uint16 {
	list := []uint16{0x5555, 0xaaaa, 0x3333, 0xcccc, 0x0f0f, 0xf0f0, 0x00ff, 0xff00, 0x1234, 0xfedc}
	for i := 0; i < 16; i++ {
		bit := uint16(1) << i
		list = append(list, bit, bit-1, ^bit, -bit)
	}
	return list
}

// codes: numbers of 32 bits at which an answer may turn.
func codes() []uint32 {
	list := []uint32{0x55555555, 0xaaaaaaaa, 0x33333333, 0x0f0f0f0f, 0x00ff00ff, 0x12345678, 0xfedcba98}
	for i := 0; i < 32; i++ {
		bit := uint32(1) << i
		list = append(list, bit, bit-1, bit+1, ^bit, -bit)
	}
	return list
}

// P4.1
func TestWeaveRows(t *testing.T) {
	for _, c := range []struct {
		x, y uint16
		want uint32
	}{
		{0, 0, 0},
		{1, 0, 1},
		{0, 1, 2},
		{1, 1, 3},
		{2, 0, 4},
		{0, 2, 8},
		{2, 2, 12},
		{3, 0, 5},
		{0, 3, 10},
		{5, 3, 27},
		{3, 5, 39},
		{63, 63, 4095},
		{64, 0, 4096},
		{0x00ff, 0, 0x5555},
		{0, 0x00ff, 0xaaaa},
		{0x0100, 0, 0x00010000},
		{0, 0x0100, 0x00020000},
		{0x8000, 0, 0x40000000},
		{0, 0x8000, 0x80000000},
		{0x8000, 0x8000, 0xc0000000},
		{65535, 0, 0x55555555},
		{0, 65535, 0xaaaaaaaa},
		{65535, 65535, 0xffffffff},
	} {
		if got := morton.Weave(c.x, c.y); got != c.want {
			t.Errorf("Weave(%d, %d): %#x, not %#x", c.x, c.y, got, c.want)
		}
		if x, y := morton.Split(c.want); x != c.x || y != c.y {
			t.Errorf("Split(%#x): %d, %d, not %d, %d", c.want, x, y, c.x, c.y)
		}
	}
}

// P4.1
func TestWeaveEachBit(t *testing.T) {
	for i := 0; i < 16; i++ {
		if got := morton.Weave(1<<i, 0); got != 1<<(2*i) {
			t.Errorf("bit %d of x: %#x", i, got)
		}
		if got := morton.Weave(0, 1<<i); got != 1<<(2*i+1) {
			t.Errorf("bit %d of y: %#x", i, got)
		}
	}
}

// P4.1
func TestWeaveByRule(t *testing.T) {
	others := []uint16{0, 0xffff, 0x5555, 0x9c63}
	for n := 0; n <= math.MaxUint16; n++ {
		for _, other := range others {
			a, b := uint16(n), other
			if got := morton.Weave(a, b); got != woven(a, b) {
				t.Fatalf("Weave(%#x, %#x): %#x, not %#x", a, b, got, woven(a, b))
			}
			if got := morton.Weave(b, a); got != woven(b, a) {
				t.Fatalf("Weave(%#x, %#x): %#x, not %#x", b, a, got, woven(b, a))
			}
		}
	}
	for _, x := range parts() {
		for _, y := range parts() {
			if got := morton.Weave(x, y); got != woven(x, y) {
				t.Errorf("Weave(%#x, %#x): %#x, not %#x", x, y, got, woven(x, y))
			}
		}
	}
}

// P4.1: Split is of all numbers, and no two of them are split alike.
func TestSplitBack(t *testing.T) {
	check := func(m uint32) {
		if x, y := morton.Split(m); woven(x, y) != m {
			t.Fatalf("Split(%#x): %#x, %#x", m, x, y)
		}
	}
	for _, m := range codes() {
		check(m)
	}
	for m := uint32(0); m < 1<<17; m++ {
		check(m)
		check(^m)
		check(m << 15)
	}
	r := rand.New(rand.NewSource(41))
	for range 200000 {
		check(r.Uint32())
	}
}

// P4.1
func TestLess(t *testing.T) {
	for _, a := range codes() {
		for _, b := range codes() {
			if got := morton.Less(a, b); got != (int64(a)-int64(b) < 0) {
				t.Errorf("Less(%#x, %#x): %v", a, b, got)
			}
		}
	}
	for _, c := range []struct {
		a, b uint32
		want bool
	}{
		{0, 0, false},
		{0, 1, true},
		{1, 0, false},
		{1, 2, true},
		{2, 2, false},
		{0x7fffffff, 0x80000000, true},
		{0x80000000, 0x7fffffff, false},
		{0, math.MaxUint32, true},
		{math.MaxUint32, 1, false},
		{math.MaxUint32, math.MaxUint32, false},
	} {
		if got := morton.Less(c.a, c.b); got != c.want {
			t.Errorf("Less(%#x, %#x): %v", c.a, c.b, got)
		}
	}
}

// P4.1
func TestParentRows(t *testing.T) {
	for _, c := range []struct {
		m    uint32
		n    int
		want uint32
	}{
		{13, 0, 13},
		{13, 1, 3},
		{13, 2, 0},
		{0, 3, 0},
		{0x12345678, 2, 0x1234567},
		{0x12345678, 8, 0x1234},
		{math.MaxUint32, 0, math.MaxUint32},
		{math.MaxUint32, 1, 0x3fffffff},
		{math.MaxUint32, 14, 15},
		{math.MaxUint32, 15, 3},
		{math.MaxUint32, 16, 0},
		{math.MaxUint32, 17, 0},
		{math.MaxUint32, 99, 0},
		{math.MaxUint32, -1, math.MaxUint32},
		{13, -5, 13},
		{13, math.MinInt, 13},
		{math.MaxUint32, math.MaxInt, 0},
	} {
		if got := morton.Parent(c.m, c.n); got != c.want {
			t.Errorf("Parent(%#x, %d): %#x, not %#x", c.m, c.n, got, c.want)
		}
	}
}

// P4.1: twice such an n, or its lower bits alone, would be a shift of another width.
func TestParentHeld(t *testing.T) {
	for _, m := range codes() {
		for _, n := range []int{16, 17, 32, 33, 64, 128, 256, 1 << 16, 1<<31 - 1, 1 << 31, 1 << 32, 1<<32 + 1, 1 << 62, 1<<62 + 1, math.MaxInt - 1, math.MaxInt} {
			if got := morton.Parent(m, n); got != 0 {
				t.Errorf("Parent(%#x, %d): %#x", m, n, got)
			}
		}
		for _, n := range []int{0, -1, -2, -16, -32, -1 << 31, -1<<31 - 1, -1 << 32, 1 - 1<<32, -1 << 62, math.MinInt + 1, math.MinInt} {
			if got := morton.Parent(m, n); got != m {
				t.Errorf("Parent(%#x, %d): %#x", m, n, got)
			}
		}
	}
}

// P4.1: a step of Parent at a time drops a bit of each of the two numbers.
func TestParentByRule(t *testing.T) {
	for _, m := range codes() {
		want := m
		for n := 0; n <= 20; n++ {
			if got := morton.Parent(m, n); got != want {
				t.Errorf("Parent(%#x, %d): %#x, not %#x", m, n, got, want)
			}
			want /= 4
		}
	}
}

// P4.2: the points of a square whose side is a power of two, and that begins at a multiple of it, are one run of numbers, without a gap, and have one parent.
func TestSquareIsOneRun(t *testing.T) {
	for _, begin := range []struct{ x, y uint16 }{{0, 0}, {64, 0}, {0, 64}, {64, 128}, {4096, 60032}, {65472, 65472}} {
		for n := 0; n <= 6; n++ {
			side := uint16(1) << n
			first := morton.Weave(begin.x, begin.y)
			parent := morton.Parent(first, n)
			seen := make([]bool, int(side)*int(side))
			for y := range side {
				for x := range side {
					m := morton.Weave(begin.x+x, begin.y+y)
					if k := int64(m) - int64(first); k < 0 || k >= int64(len(seen)) || seen[k] {
						t.Fatalf("square of %d at %v: %d, %d is %#x", side, begin, x, y, m)
					}
					seen[m-first] = true
					if got := morton.Parent(m, n); got != parent {
						t.Fatalf("square of %d at %v: the parent of %d, %d is %#x, not %#x", side, begin, x, y, got, parent)
					}
				}
			}
		}
	}
}

// P4.2: the parent is that of the square around, and what is outside of the square has another one.
func TestParentIsTheSquare(t *testing.T) {
	r := rand.New(rand.NewSource(42))
	for range 20000 {
		x, y, n := uint16(r.Intn(1<<16)), uint16(r.Intn(1<<16)), r.Intn(17)
		m := morton.Weave(x, y)
		if got := morton.Parent(m, n); got != woven(x>>n, y>>n) {
			t.Fatalf("Parent of %d, %d, %d: %#x", x, y, n, got)
		}
		u, v := x^uint16(r.Intn(1<<r.Intn(17))), y^uint16(r.Intn(1<<r.Intn(17)))
		same := x>>n == u>>n && y>>n == v>>n
		if got := morton.Parent(morton.Weave(u, v), n) == morton.Parent(m, n); got != same {
			t.Fatalf("%d, %d and %d, %d, %d: one parent: %v", x, y, u, v, n, got)
		}
	}
}

// P4.2: which of two is below the other is told by the greatest squares that part them.
func TestLessBySquares(t *testing.T) {
	r := rand.New(rand.NewSource(43))
	for range 20000 {
		x, y := uint16(r.Intn(1<<16)), uint16(r.Intn(1<<16))
		u, v := x^uint16(r.Intn(1<<r.Intn(17))), y^uint16(r.Intn(1<<r.Intn(17)))
		want := false
		for n := 15; n >= 0; n-- {
			if y>>n != v>>n || x>>n != u>>n {
				want = y>>n < v>>n || y>>n == v>>n && x>>n < u>>n
				break
			}
		}
		if got := morton.Less(morton.Weave(x, y), morton.Weave(u, v)); got != want {
			t.Fatalf("%d, %d below %d, %d: %v", x, y, u, v, got)
		}
	}
}
