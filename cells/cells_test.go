package cells_test

import (
	"math"
	"math/rand"
	"slices"
	"testing"

	"vedette/api"
	"vedette/cells"
)

// grid: the cells as they lie on the map, row by row.
var grid = [api.Grid][api.Grid]int{
	{0, 1, 4, 5},
	{2, 3, 6, 7},
	{8, 9, 12, 13},
	{10, 11, 14, 15},
}

// strange: numbers of no cell, among them those whose lower bits are those of a cell.
func strange() []int {
	list := []int{math.MinInt, math.MinInt + 1, math.MaxInt - 1, math.MaxInt, -17, -16, -15, -2, -1, 16, 17, 18, 31, 32, 63, 64, 255, 256}
	for _, bit := range []int{16, 31, 32, 33, 62} {
		list = append(list, 1<<bit, 1<<bit+1, 1<<bit-1, -1<<bit, 1-1<<bit, 15-1<<bit)
	}
	return list
}

// edges: numbers at which a column or a row begins or ends, and far ones.
func edges() []int {
	list := []int{math.MinInt, math.MinInt + 1, -1 << 32, -1 << 16, -65, -64, -16, -2, -1, 65, 66, 80, 1 << 16, 1<<16 + 5, 1 << 32, 1<<32 + 5, math.MaxInt - 1, math.MaxInt}
	for n := 0; n <= api.Size; n += api.Side {
		list = append(list, n-1, n, n+1)
	}
	slices.Sort(list)
	return slices.Compact(list)
}

// touched: the cells of r, point by point of the map.
func touched(r api.Rect) []int {
	var seen [api.Cells]bool
	for y := range api.Size {
		for x := range api.Size {
			if r.X0 <= x && x < r.X1 && r.Y0 <= y && y < r.Y1 {
				seen[grid[y/16][x/16]] = true
			}
		}
	}
	var list []int
	for c, ok := range seen {
		if ok {
			list = append(list, c)
		}
	}
	return list
}

// P5.1
func TestOfRows(t *testing.T) {
	for _, c := range []struct {
		p    api.Point
		want int
	}{
		{api.Point{X: 0, Y: 0}, 0},
		{api.Point{X: 15, Y: 15}, 0},
		{api.Point{X: 16, Y: 0}, 1},
		{api.Point{X: 0, Y: 16}, 2},
		{api.Point{X: 16, Y: 16}, 3},
		{api.Point{X: 31, Y: 15}, 1},
		{api.Point{X: 15, Y: 31}, 2},
		{api.Point{X: 32, Y: 0}, 4},
		{api.Point{X: 0, Y: 32}, 8},
		{api.Point{X: 63, Y: 0}, 5},
		{api.Point{X: 0, Y: 63}, 10},
		{api.Point{X: 47, Y: 47}, 12},
		{api.Point{X: 48, Y: 47}, 13},
		{api.Point{X: 47, Y: 48}, 14},
		{api.Point{X: 63, Y: 63}, 15},
	} {
		if got, e := cells.Of(c.p); got != c.want || e != api.OK {
			t.Errorf("Of(%v): %d, %v, not %d", c.p, got, e, c.want)
		}
	}
}

// P5.1: a place that isn't on the map is of no cell, in whichever direction it is off.
func TestOfOffTheMap(t *testing.T) {
	for _, x := range edges() {
		for _, y := range edges() {
			if 0 <= x && x < 64 && 0 <= y && y < 64 {
				continue
			}
			p := api.Point{X: x, Y: y}
			if got, e := cells.Of(p); got != 0 || e != api.ErrPlace {
				t.Errorf("Of(%v): %d, %v", p, got, e)
			}
		}
	}
}

// P5.1
func TestRectOfEachCell(t *testing.T) {
	for row, line := range grid {
		for column, c := range line {
			want := api.Rect{X0: 16 * column, Y0: 16 * row, X1: 16*column + 16, Y1: 16*row + 16}
			if got, ok := cells.Rect(c); got != want || !ok {
				t.Errorf("Rect(%d): %v, %v, not %v", c, got, ok, want)
			}
			if !cells.Is(c) {
				t.Errorf("Is(%d): false", c)
			}
		}
	}
}

// P5.1
func TestNoSuchCell(t *testing.T) {
	for _, c := range strange() {
		if got, ok := cells.Rect(c); got != (api.Rect{}) || ok {
			t.Errorf("Rect(%d): %v, %v", c, got, ok)
		}
		if cells.Is(c) {
			t.Errorf("Is(%d): true", c)
		}
	}
}

// P5.1
func TestCoverRows(t *testing.T) {
	all := []int{0, 1, 2, 3, 4, 5, 6, 7, 8, 9, 10, 11, 12, 13, 14, 15}
	for _, c := range []struct {
		r    api.Rect
		want []int
	}{
		{api.Rect{}, nil},
		{api.Rect{X0: 0, Y0: 0, X1: 64, Y1: 64}, all},
		{api.Rect{X0: 15, Y0: 15, X1: 49, Y1: 49}, all},
		{api.Rect{X0: math.MinInt, Y0: math.MinInt, X1: math.MaxInt, Y1: math.MaxInt}, all},
		{api.Rect{X0: 16, Y0: 16, X1: 48, Y1: 48}, []int{3, 6, 9, 12}},
		{api.Rect{X0: 15, Y0: 16, X1: 48, Y1: 48}, []int{2, 3, 6, 8, 9, 12}},
		{api.Rect{X0: 16, Y0: 15, X1: 48, Y1: 48}, []int{1, 3, 4, 6, 9, 12}},
		{api.Rect{X0: 16, Y0: 16, X1: 49, Y1: 48}, []int{3, 6, 7, 9, 12, 13}},
		{api.Rect{X0: 16, Y0: 16, X1: 48, Y1: 49}, []int{3, 6, 9, 11, 12, 14}},
		{api.Rect{X0: 0, Y0: 5, X1: 64, Y1: 6}, []int{0, 1, 4, 5}},
		{api.Rect{X0: 40, Y0: 0, X1: 41, Y1: 64}, []int{4, 6, 12, 14}},
		{api.Rect{X0: 16, Y0: 0, X1: 17, Y1: 1}, []int{1}},
		{api.Rect{X0: 15, Y0: 0, X1: 16, Y1: 1}, []int{0}},
		{api.Rect{X0: 63, Y0: 63, X1: 64, Y1: 64}, []int{15}},
		{api.Rect{X0: 63, Y0: 63, X1: math.MaxInt, Y1: math.MaxInt}, []int{15}},
		{api.Rect{X0: math.MinInt, Y0: math.MinInt, X1: 1, Y1: 1}, []int{0}},
		{api.Rect{X0: math.MinInt, Y0: math.MinInt, X1: 0, Y1: 0}, nil},
		{api.Rect{X0: -9, Y0: 0, X1: 0, Y1: 64}, nil},
		{api.Rect{X0: 64, Y0: 0, X1: 99, Y1: 64}, nil},
		{api.Rect{X0: 0, Y0: 64, X1: 64, Y1: 99}, nil},
		{api.Rect{X0: 20, Y0: 20, X1: 20, Y1: 40}, nil},
		{api.Rect{X0: 20, Y0: 20, X1: 40, Y1: 20}, nil},
		{api.Rect{X0: 40, Y0: 20, X1: 20, Y1: 40}, nil},
		{api.Rect{X0: 40, Y0: 40, X1: 20, Y1: 20}, nil},
		{api.Rect{X0: math.MaxInt, Y0: math.MaxInt, X1: math.MinInt, Y1: math.MinInt}, nil},
	} {
		if got := cells.Cover(c.r); !slices.Equal(got, c.want) {
			t.Errorf("Cover(%v): %v, not %v", c.r, got, c.want)
		}
	}
}

// P5.1
func TestCoverByPoints(t *testing.T) {
	r := rand.New(rand.NewSource(51))
	ends := edges()
	one := func() int {
		if r.Intn(2) == 0 {
			return ends[r.Intn(len(ends))]
		}
		return r.Intn(72) - 4
	}
	for range 5000 {
		a := api.Rect{X0: one(), Y0: one(), X1: one(), Y1: one()}
		if r.Intn(4) > 0 {
			a.X0, a.X1 = min(a.X0, a.X1), max(a.X0, a.X1)
			a.Y0, a.Y1 = min(a.Y0, a.Y1), max(a.Y0, a.Y1)
		}
		if got, want := cells.Cover(a), touched(a); !slices.Equal(got, want) {
			t.Fatalf("Cover(%v): %v, not %v", a, got, want)
		}
	}
}

// P5.1: of a cell's own points the cell alone.
func TestCoverOfACell(t *testing.T) {
	for c := range api.Cells {
		r, _ := cells.Rect(c)
		if got := cells.Cover(r); !slices.Equal(got, []int{c}) {
			t.Errorf("Cover(%v): %v, not %d", r, got, c)
		}
	}
}

// P5.1: what is done with one answer is not seen in another, the spare room of both included.
func TestCoverIsNew(t *testing.T) {
	r := api.Rect{X0: 10, Y0: 10, X1: 40, Y1: 20}
	want := []int{0, 1, 2, 3, 4, 6}
	first := cells.Cover(r)
	second := cells.Cover(r)
	first = first[:cap(first)]
	for i := range first {
		first[i] = -7
	}
	if !slices.Equal(second, want) {
		t.Errorf("the other answer: %v", second)
	}
	for _, n := range second[:cap(second)][len(second):] {
		if n == -7 {
			t.Errorf("the other answer's spare room: %v", second[:cap(second)])
		}
	}
	if got := cells.Cover(r); !slices.Equal(got, want) {
		t.Errorf("a later answer: %v", got)
	}
}

// P5.1
func TestBesideRows(t *testing.T) {
	for _, c := range []struct {
		a, b int
		want bool
	}{
		{0, 0, false},
		{15, 15, false},
		{0, 1, true},
		{0, 2, true},
		{0, 3, true},
		{1, 2, true},
		{0, 4, false},
		{0, 5, false},
		{0, 8, false},
		{1, 4, true},
		{2, 8, true},
		{3, 4, true},
		{3, 12, true},
		{6, 9, true},
		{5, 8, false},
		{7, 8, false},
		{5, 10, false},
		{0, 15, false},
		{1, 11, false},
		{11, 14, true},
		{13, 15, true},
		{12, 15, true},
		{15, 16, false},
		{0, -1, false},
		{-1, -2, false},
		{16, 17, false},
	} {
		if got := cells.Beside(c.a, c.b); got != c.want {
			t.Errorf("Beside(%d, %d): %v", c.a, c.b, got)
		}
		if got := cells.Beside(c.b, c.a); got != c.want {
			t.Errorf("Beside(%d, %d): %v", c.b, c.a, got)
		}
	}
}

// P5.1: cells are beside one another just if, on the grid, one is among the eight around the other.
func TestBesideByGrid(t *testing.T) {
	var around [api.Cells][api.Cells]bool
	for row, line := range grid {
		for column, c := range line {
			for _, step := range [][2]int{{-1, -1}, {-1, 0}, {-1, 1}, {0, -1}, {0, 1}, {1, -1}, {1, 0}, {1, 1}} {
				y, x := row+step[0], column+step[1]
				if 0 <= y && y < api.Grid && 0 <= x && x < api.Grid {
					around[c][grid[y][x]] = true
				}
			}
		}
	}
	for a := range api.Cells {
		for b := range api.Cells {
			if got := cells.Beside(a, b); got != around[a][b] {
				t.Errorf("Beside(%d, %d): %v", a, b, got)
			}
		}
	}
}

// P5.1: what is no cell is beside nothing.
func TestBesideNoCell(t *testing.T) {
	for _, n := range strange() {
		for c := range api.Cells {
			if cells.Beside(n, c) || cells.Beside(c, n) {
				t.Errorf("%d and %d are beside one another", n, c)
			}
		}
		for _, m := range strange() {
			if cells.Beside(n, m) {
				t.Errorf("%d and %d are beside one another", n, m)
			}
		}
	}
}

// P5.2: each place is in the points of the cell that Of tells, in no other cell's, and is covered by that cell alone.
func TestEachPlaceHasOneCell(t *testing.T) {
	var places [api.Cells]int
	for y := range api.Size {
		for x := range api.Size {
			p := api.Point{X: x, Y: y}
			c, e := cells.Of(p)
			if e != api.OK || c != grid[y/16][x/16] {
				t.Fatalf("Of(%v): %d, %v", p, c, e)
			}
			places[c]++
			for other := range api.Cells {
				r, _ := cells.Rect(other)
				if in := r.X0 <= x && x < r.X1 && r.Y0 <= y && y < r.Y1; in != (other == c) {
					t.Fatalf("%v, of cell %d, is in the points of cell %d: %v", p, c, other, in)
				}
			}
			if got := cells.Cover(api.Rect{X0: x, Y0: y, X1: x + 1, Y1: y + 1}); !slices.Equal(got, []int{c}) {
				t.Fatalf("Cover of %v alone: %v, not %d", p, got, c)
			}
		}
	}
	for c, n := range places {
		if n != 16*16 {
			t.Errorf("cell %d has %d places", c, n)
		}
	}
}
