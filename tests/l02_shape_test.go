package tests

import (
	"math"
	"slices"
	"sort"
	"strings"
	"testing"

	"loop.example/g03400/impl"
)

// cellsOf makes a list of cells of numbers that are given as x, y, x, y and so on.
func cellsOf(numbers ...int) []impl.Cell {
	var out []impl.Cell
	for i := 0; i+1 < len(numbers); i += 2 {
		out = append(out, impl.Cell{X: numbers[i], Y: numbers[i+1]})
	}
	return out
}

// shapesIn returns all shapes of 1 to MaxCells cells among the places of w columns and h rows.
func shapesIn(w int, h int) [][]impl.Cell {
	var out [][]impl.Cell
	for set := 1; set < 1<<(w*h); set++ {
		var s []impl.Cell
		for i := range w * h {
			if set>>i&1 == 1 {
				s = append(s, impl.Cell{X: i % w, Y: i / w})
			}
		}
		if len(s) <= impl.MaxCells {
			out = append(out, s)
		}
	}
	return out
}

// listsOver returns all lists of up to size cells among the given ones, in any order and with repetitions.
func listsOver[T any](values []T, size int) [][]T {
	out := [][]T{nil}
	last := out
	for range size {
		var next [][]T
		for _, l := range last {
			for _, value := range values {
				next = append(next, append(slices.Clone(l), value))
			}
		}
		out = append(out, next...)
		last = next
	}
	return out
}

// overwrite writes to the unused capacity too, which may be shared without the cells being so.
func overwrite(s []impl.Cell, c impl.Cell) {
	s = s[:cap(s)]
	for i := range s {
		s[i] = c
	}
}

// noShapes are lists that are no shapes, by the reason for it.
var noShapes = map[string][]impl.Cell{
	"nil":              nil,
	"empty":            {},
	"nine cells":       cellsOf(0, 0, 1, 0, 2, 0, 3, 0, 4, 0, 5, 0, 6, 0, 7, 0, 0, 1),
	"many cells":       slices.Repeat(cellsOf(0, 0), 100),
	"twice":            cellsOf(0, 0, 0, 0),
	"twice at the end": cellsOf(0, 0, 1, 0, 2, 1, 2, 1),
	"twice apart":      cellsOf(0, 0, 1, 0, 0, 0),
	"row backwards":    cellsOf(1, 0, 0, 0),
	"rows backwards":   cellsOf(0, 1, 0, 0),
	"by columns":       cellsOf(0, 0, 0, 1, 1, 0),
	"end out of order": cellsOf(0, 0, 1, 0, 2, 1, 1, 1),
	"X too great":      cellsOf(8, 0),
	"Y too great":      cellsOf(0, 8),
	"last X too great": cellsOf(0, 0, 8, 0),
	"last Y too great": cellsOf(0, 0, 7, 7, 0, 8),
	"X negative":       cellsOf(-1, 0),
	"Y negative":       cellsOf(0, -1),
	"first Y negative": cellsOf(7, -1, 0, 0),
	"later X negative": cellsOf(0, 0, -1, 1),
	"least X":          cellsOf(math.MinInt, 0),
	"least Y":          cellsOf(0, math.MinInt),
	"greatest X":       cellsOf(0, 0, math.MaxInt, 0),
	"greatest Y":       cellsOf(0, 0, 0, math.MaxInt),
	"extremes":         cellsOf(math.MinInt, math.MinInt, math.MaxInt, math.MaxInt),
}

// someShapes are shapes at the bounds, of one cell up to MaxCells cells, by their formats.
var someShapes = []struct {
	cells     []impl.Cell
	format    string
	w, h      int
	connected bool
}{
	{cellsOf(0, 0), "#", 1, 1, true},
	{cellsOf(7, 0), "#", 1, 1, true},
	{cellsOf(0, 7), "#", 1, 1, true},
	{cellsOf(7, 7), "#", 1, 1, true},
	{cellsOf(3, 4), "#", 1, 1, true},
	{cellsOf(6, 7, 7, 7), "##", 2, 1, true},
	{cellsOf(7, 6, 7, 7), "#/#", 1, 2, true},
	{cellsOf(0, 0, 7, 0), "#......#", 8, 1, false},
	{cellsOf(0, 0, 0, 7), "#///////#", 1, 8, false},
	{cellsOf(0, 0, 7, 7), "#///////.......#", 8, 8, false},
	{cellsOf(7, 0, 0, 7), ".......#///////#", 8, 8, false},
	{cellsOf(7, 0, 0, 1), ".......#/#", 8, 2, false},
	{cellsOf(0, 0, 1, 0, 2, 0, 3, 0, 4, 0, 5, 0, 6, 0, 7, 0), "########", 8, 1, true},
	{cellsOf(0, 7, 1, 7, 2, 7, 3, 7, 4, 7, 5, 7, 6, 7, 7, 7), "########", 8, 1, true},
	{cellsOf(7, 0, 7, 1, 7, 2, 7, 3, 7, 4, 7, 5, 7, 6, 7, 7), "#/#/#/#/#/#/#/#", 1, 8, true},
	{cellsOf(0, 0, 1, 1, 2, 2, 3, 3, 4, 4, 5, 5, 6, 6, 7, 7), "#/.#/..#/...#/....#/.....#/......#/.......#", 8, 8, false},
	{cellsOf(1, 0, 0, 1, 1, 1), ".#/##", 2, 2, true},
	{cellsOf(3, 3, 2, 4, 3, 4), ".#/##", 2, 2, true},
	{cellsOf(1, 0, 0, 1), ".#/#", 2, 2, false},
	{cellsOf(0, 0, 1, 1), "#/.#", 2, 2, false},
	{cellsOf(0, 0, 0, 2), "#//#", 1, 3, false},
	{cellsOf(2, 2, 4, 2), "#.#", 3, 1, false},
	{cellsOf(0, 0, 1, 0, 2, 0, 0, 1, 2, 1, 0, 2, 1, 2, 2, 2), "###/#.#/###", 3, 3, true},
	{cellsOf(5, 5, 6, 5, 7, 5, 7, 6, 5, 7, 6, 7, 7, 7), "###/..#/###", 3, 3, true},
	{cellsOf(0, 0, 2, 0, 0, 1, 2, 1, 0, 2, 1, 2, 2, 2), "#.#/#.#/###", 3, 3, true},
	{cellsOf(0, 0, 2, 0, 4, 0, 0, 1, 1, 1, 2, 1, 3, 1, 4, 1), "#.#.#/#####", 5, 2, true},
	{cellsOf(0, 0, 2, 0, 0, 1, 2, 1), "#.#/#.#", 3, 2, false},
}

func TestShapeBounds(t *testing.T) {
	if impl.MaxCells != 8 || impl.MaxPlace != 7 {
		t.Error(impl.MaxCells, impl.MaxPlace)
	}
}

func TestSomeShapes(t *testing.T) {
	for _, c := range someShapes {
		if !impl.IsShape(c.cells) {
			t.Errorf("IsShape(%v) = false", c.cells)
		}
		if got := impl.FormatShape(c.cells); got != c.format {
			t.Errorf("FormatShape(%v) = %q, want %q", c.cells, got, c.format)
		}
		if w, h := impl.SizeOf(c.cells); w != c.w || h != c.h {
			t.Errorf("SizeOf(%v) = %d, %d, want %d, %d", c.cells, w, h, c.w, c.h)
		}
		if got := impl.IsConnectedShape(c.cells); got != c.connected {
			t.Errorf("IsConnectedShape(%v) = %v", c.cells, got)
		}
		if got, ok := impl.ParseShape(c.format); !ok || !slices.Equal(got, impl.CornerShape(c.cells)) {
			t.Errorf("ParseShape(%q) = %v, %v", c.format, got, ok)
		}
	}
}

func TestNoShapes(t *testing.T) {
	for why, s := range noShapes {
		if impl.IsShape(s) {
			t.Errorf("%s: IsShape(%v) = true", why, s)
		}
		if impl.IsConnectedShape(s) {
			t.Errorf("%s: IsConnectedShape(%v) = true", why, s)
		}
		if got, ok := impl.MoveShape(s, 0, 0); len(got) > 0 || ok {
			t.Errorf("%s: MoveShape(%v, 0, 0) = %v, %v", why, s, got, ok)
		}
		if got := impl.CornerShape(s); len(got) > 0 {
			t.Errorf("%s: CornerShape(%v) = %v", why, s, got)
		}
		if w, h := impl.SizeOf(s); w != 0 || h != 0 {
			t.Errorf("%s: SizeOf(%v) = %d, %d", why, s, w, h)
		}
		if got := impl.FormatShape(s); got != "" {
			t.Errorf("%s: FormatShape(%v) = %q", why, s, got)
		}
	}
	// A move of lists that are no shapes could make a shape of them.
	for _, s := range [][]impl.Cell{cellsOf(8, 0), cellsOf(0, 8), cellsOf(-1, 0), cellsOf(0, -1)} {
		for x := -1; x <= 1; x++ {
			for y := -1; y <= 1; y++ {
				if got, ok := impl.MoveShape(s, x, y); len(got) > 0 || ok {
					t.Errorf("MoveShape(%v, %d, %d) = %v, %v", s, x, y, got, ok)
				}
			}
		}
	}
}

// TestIsShapeOfAllShortLists compares with the lists that shapesIn makes.
func TestIsShapeOfAllShortLists(t *testing.T) {
	shapes := map[string]bool{}
	name := func(s []impl.Cell) string {
		out := ""
		for _, c := range s {
			out += string(rune('0'+c.X)) + string(rune('0'+c.Y))
		}
		return out
	}
	for _, s := range shapesIn(3, 2) {
		shapes[name(s)] = true
	}
	for _, s := range listsOver(cellsOf(0, 0, 1, 0, 2, 0, 0, 1, 1, 1, 2, 1), 5) {
		if got := impl.IsShape(s); got != shapes[name(s)] {
			t.Fatalf("IsShape(%v) = %v", s, got)
		}
	}
}

func TestIsShapeOfOneCell(t *testing.T) {
	numbers := []int{math.MinInt, -8, -7, -1, 0, 1, 6, 7, 8, 9, 15, 64, math.MaxInt}
	inside := func(n int) bool { return 0 <= n && n <= 7 }
	for _, x := range numbers {
		for _, y := range numbers {
			s := cellsOf(x, y)
			if got := impl.IsShape(s); got != (inside(x) && inside(y)) {
				t.Errorf("IsShape(%v) = %v", s, got)
			}
		}
	}
}

func TestSortCells(t *testing.T) {
	for _, c := range []struct{ cells, want []impl.Cell }{
		{nil, nil},
		{cellsOf(), nil},
		{cellsOf(0, 0), cellsOf(0, 0)},
		{cellsOf(5, 5, 5, 5), cellsOf(5, 5)},
		{cellsOf(1, 1, 2, 0, 1, 1, 0, 0), cellsOf(0, 0, 2, 0, 1, 1)},
		{cellsOf(0, 1, 1, 0), cellsOf(1, 0, 0, 1)},
		{cellsOf(8, -1, -1, 8, 100, 3), cellsOf(8, -1, 100, 3, -1, 8)},
		{cellsOf(-1, -1, -2, -1, -1, -2), cellsOf(-1, -2, -2, -1, -1, -1)},
		{
			cellsOf(math.MaxInt, math.MinInt, math.MinInt, math.MaxInt, 0, 0, math.MinInt, math.MinInt, math.MaxInt, math.MaxInt),
			cellsOf(math.MinInt, math.MinInt, math.MaxInt, math.MinInt, 0, 0, math.MinInt, math.MaxInt, math.MaxInt, math.MaxInt),
		},
		{cellsOf(math.MaxInt, 0, math.MinInt, 0, 1, 0), cellsOf(math.MinInt, 0, 1, 0, math.MaxInt, 0)},
		{slices.Repeat(cellsOf(9, 9, 0, 0), 50), cellsOf(0, 0, 9, 9)},
	} {
		if got := impl.SortCells(c.cells); !slices.Equal(got, c.want) {
			t.Errorf("SortCells(%v) = %v, want %v", c.cells, got, c.want)
		}
	}
	for _, s := range listsOver(cellsOf(2, 0, 0, 1, -3, 2, 9, -1), 6) {
		seen := map[impl.Cell]bool{}
		var want []impl.Cell
		for _, c := range s {
			if !seen[c] {
				seen[c] = true
				want = append(want, c)
			}
		}
		sort.Slice(want, func(i, j int) bool { return want[i].Y*100+want[i].X < want[j].Y*100+want[j].X })
		if got := impl.SortCells(s); !slices.Equal(got, want) {
			t.Fatalf("SortCells(%v) = %v, want %v", s, got, want)
		}
	}
	// More cells than a shape has, from the last one to the first one and each three times.
	var many, want []impl.Cell
	for i := range 300 {
		want = append(want, impl.Cell{X: i % 20, Y: i / 20})
		many = append(many, slices.Repeat([]impl.Cell{{X: (299 - i) % 20, Y: (299 - i) / 20}}, 3)...)
	}
	if got := impl.SortCells(many); !slices.Equal(got, want) {
		t.Errorf("SortCells of many cells = %v", got)
	}
}

func TestMoveShape(t *testing.T) {
	shapes := shapesIn(2, 2)
	for _, c := range someShapes {
		shapes = append(shapes, c.cells)
	}
	for _, s := range shapes {
		for x := -9; x <= 9; x++ {
			for y := -9; y <= 9; y++ {
				checkMove(t, s, x, y)
			}
		}
	}
	for _, s := range [][]impl.Cell{cellsOf(0, 0), cellsOf(7, 7), cellsOf(1, 0, 0, 1, 1, 1)} {
		for _, n := range []int{math.MinInt, math.MinInt + 1, -1 << 32, -1 << 8, 1 << 8, 1 << 32, math.MaxInt - 7, math.MaxInt} {
			checkMove(t, s, n, 0)
			checkMove(t, s, 0, n)
			checkMove(t, s, n, n)
		}
	}
}

func checkMove(t *testing.T, s []impl.Cell, x int, y int) {
	t.Helper()
	valid := -7 <= x && x <= 7 && -7 <= y && y <= 7
	var want []impl.Cell
	for _, c := range s {
		c = impl.Cell{X: c.X + x, Y: c.Y + y}
		valid = valid && 0 <= c.X && c.X <= 7 && 0 <= c.Y && c.Y <= 7
		want = append(want, c)
	}
	if !valid {
		want = nil
	}
	if got, ok := impl.MoveShape(s, x, y); !slices.Equal(got, want) || ok != valid {
		t.Errorf("MoveShape(%v, %d, %d) = %v, %v, want %v", s, x, y, got, ok, want)
	}
}

// TestShapesInAllPlaces moves shapes everywhere, which changes neither their corner nor their size nor their format.
func TestShapesInAllPlaces(t *testing.T) {
	for _, s := range shapesIn(3, 2) {
		corner := impl.CornerShape(s)
		w, h := impl.SizeOf(s)
		for x := -7; x <= 7; x++ {
			for y := -7; y <= 7; y++ {
				moved, ok := impl.MoveShape(s, x, y)
				if !ok {
					continue
				}
				if got := impl.CornerShape(moved); !slices.Equal(got, corner) {
					t.Fatalf("CornerShape(%v) = %v, want %v", moved, got, corner)
				}
				if gotW, gotH := impl.SizeOf(moved); gotW != w || gotH != h {
					t.Fatalf("SizeOf(%v) = %d, %d, want %d, %d", moved, gotW, gotH, w, h)
				}
				if impl.FormatShape(moved) != impl.FormatShape(s) || impl.IsConnectedShape(moved) != impl.IsConnectedShape(s) {
					t.Fatalf("%v and %v differ", moved, s)
				}
				if back, ok := impl.MoveShape(moved, -x, -y); !ok || !slices.Equal(back, s) {
					t.Fatalf("MoveShape(%v, %d, %d) = %v", moved, -x, -y, back)
				}
			}
		}
	}
}

func TestCornerAndSizeOfAllSmallShapes(t *testing.T) {
	for _, s := range shapesIn(4, 3) {
		left, right, top, bottom := 9, -1, 9, -1
		for _, c := range s {
			left, right = min(left, c.X), max(right, c.X)
			top, bottom = min(top, c.Y), max(bottom, c.Y)
		}
		var want []impl.Cell
		for _, c := range s {
			want = append(want, impl.Cell{X: c.X - left, Y: c.Y - top})
		}
		if got := impl.CornerShape(s); !slices.Equal(got, want) {
			t.Fatalf("CornerShape(%v) = %v, want %v", s, got, want)
		}
		if w, h := impl.SizeOf(s); w != right-left+1 || h != bottom-top+1 {
			t.Fatalf("SizeOf(%v) = %d, %d", s, w, h)
		}
	}
}

// TestIsConnectedOfAllSmallShapes joins the cells of each pair with a common side under one number.
func TestIsConnectedOfAllSmallShapes(t *testing.T) {
	shapes := append(shapesIn(4, 3), shapesIn(3, 4)...)
	shapes = append(shapes, shapesIn(7, 2)...)
	for _, s := range shapes {
		number := map[impl.Cell]int{}
		for i, c := range s {
			number[c] = i
		}
		for _, a := range s {
			for _, b := range s {
				if a.X == b.X && a.Y == b.Y-1 || a.Y == b.Y && a.X == b.X-1 {
					from, to := number[b], number[a]
					for c, n := range number {
						if n == from {
							number[c] = to
						}
					}
				}
			}
		}
		want := true
		for _, c := range s {
			want = want && number[c] == number[s[0]]
		}
		if got := impl.IsConnectedShape(s); got != want {
			t.Fatalf("IsConnectedShape(%v) = %v", s, got)
		}
	}
}

func TestHasCell(t *testing.T) {
	for _, c := range []struct {
		cells []impl.Cell
		x, y  int
		want  bool
	}{
		{nil, 0, 0, false},
		{cellsOf(), 0, 0, false},
		{cellsOf(0, 0), 0, 0, true},
		{cellsOf(1, 2), 1, 2, true},
		{cellsOf(1, 2), 2, 1, false},
		{cellsOf(1, 2), 1, 1, false},
		{cellsOf(1, 2), 2, 2, false},
		{cellsOf(1, 2), 0, 0, false},
		{cellsOf(1, 0, 0, 1), 0, 1, true},
		{cellsOf(1, 0, 0, 1), 0, 0, false},
		{cellsOf(1, 0, 0, 1), 1, 1, false},
		{cellsOf(5, 5, 0, 0, 5, 5), 0, 0, true},
		{cellsOf(5, 5, 0, 0, 5, 5), 5, 5, true},
		{cellsOf(-3, 100), -3, 100, true},
		{cellsOf(-3, 100), 3, 100, false},
		{cellsOf(8, 0), 8, 0, true},
		{cellsOf(8, 0), 0, 1, false},
		{cellsOf(math.MinInt, math.MaxInt), math.MinInt, math.MaxInt, true},
		{cellsOf(math.MinInt, math.MaxInt), math.MaxInt, math.MinInt, false},
		{cellsOf(0, 0, 1, 0, 2, 0, 3, 0, 4, 0, 5, 0, 6, 0, 7, 0, 8, 0, 9, 0), 9, 0, true},
	} {
		if got := impl.HasCell(c.cells, c.x, c.y); got != c.want {
			t.Errorf("HasCell(%v, %d, %d) = %v", c.cells, c.x, c.y, got)
		}
	}
}

// TestFormatShapeDrawsAllSmallShapes draws each shape place by place.
func TestFormatShapeDrawsAllSmallShapes(t *testing.T) {
	for _, s := range shapesIn(4, 3) {
		left, top, bottom := 9, s[0].Y, s[len(s)-1].Y
		for _, c := range s {
			left = min(left, c.X)
		}
		var rows []string
		for y := top; y <= bottom; y++ {
			row := ""
			for x := left; x < 4; x++ {
				if slices.Contains(s, impl.Cell{X: x, Y: y}) {
					row += "#"
				} else {
					row += "."
				}
			}
			rows = append(rows, strings.TrimRight(row, "."))
		}
		want := strings.Join(rows, "/")
		if got := impl.FormatShape(s); got != want {
			t.Fatalf("FormatShape(%v) = %q, want %q", s, got, want)
		}
		if got, ok := impl.ParseShape(want); !ok || !slices.Equal(got, impl.CornerShape(s)) {
			t.Fatalf("ParseShape(%q) = %v, %v", want, got, ok)
		}
	}
}

func TestParseShapeRejects(t *testing.T) {
	for _, s := range []string{
		"", ".", "/", "//", "./.", "........",
		"#.", "##.", "#./#", "#/#.", "#/.", "#/..", ".#/#.",
		"#/", "#//", "#/#/", "/#", "//#", "/.#", "./#", "#/./#", "#//./#",
		".#", "..#", ".#/.#", ".#//.#", ".##/..#", "./.#",
		"#########", "###/###/###", "####/#####", "########/#", "#/#/#/#/#/#/#/#/#",
		"#.......#", "#........", "........#/#", "#////////#", "#/.#////////#", ".......##/#", "#.......",
		"#x", "x#", "x", "#X#", "#\n", "#\n#", "# ", " #", "# #", "#_#", "#\\#", "#|#", "#,#", "#-#", "#0", "##\x00", "\x00", "\x00#", "#\x00#",
		"\xff", "#\xff", "#\xff#", "#é#", "é#/#", "#\u2044#", "\uff03", "#\uff03", "#\ufffd", "#/#\xc3",
		strings.Repeat("#", 1000), strings.Repeat(".", 1000) + "#", strings.Repeat("/", 1000) + "#", "#" + strings.Repeat("/", 1000), "#" + strings.Repeat(".", 1000) + "#",
	} {
		if got, ok := impl.ParseShape(s); len(got) > 0 || ok {
			t.Errorf("ParseShape(%q) = %v, %v", s, got, ok)
		}
	}
}

// TestParseShapeIsInverse compares with the formats of all shapes that strings of such a length can have.
func TestParseShapeIsInverse(t *testing.T) {
	shapes := map[string][]impl.Cell{}
	for _, size := range []struct{ w, h int }{{1, 7}, {2, 5}, {3, 4}, {4, 3}, {5, 2}, {7, 1}} {
		for _, s := range shapesIn(size.w, size.h) {
			corner := impl.CornerShape(s)
			format := impl.FormatShape(s)
			if other, ok := shapes[format]; ok && !slices.Equal(other, corner) {
				t.Fatalf("%v and %v have the format %q", other, corner, format)
			}
			shapes[format] = corner
		}
	}
	for _, s := range stringsOver("#./", 7) {
		want, valid := shapes[s]
		if got, ok := impl.ParseShape(s); !slices.Equal(got, want) || ok != valid {
			t.Fatalf("ParseShape(%q) = %v, %v, want %v, %v", s, got, ok, want, valid)
		}
	}
	for _, s := range stringsOver(allBytes(), 2) {
		want, valid := shapes[s]
		if got, ok := impl.ParseShape(s); !slices.Equal(got, want) || ok != valid {
			t.Fatalf("ParseShape(%q) = %v, %v, want %v, %v", s, got, ok, want, valid)
		}
	}
}

func TestEqualShapes(t *testing.T) {
	lists := append(listsOver(cellsOf(0, 0, 1, 0, 0, 1), 3),
		cellsOf(8, 0), cellsOf(-1, 0), cellsOf(0, -1), cellsOf(1, 1), cellsOf(math.MinInt, math.MaxInt), cellsOf(math.MaxInt, math.MinInt),
		slices.Repeat(cellsOf(3, 3), 9), slices.Repeat(cellsOf(3, 3), 10))
	for i, a := range lists {
		for j, b := range lists {
			if got := impl.EqualShapes(a, slices.Clone(b)); got != (i == j) {
				t.Errorf("EqualShapes(%v, %v) = %v", a, b, got)
			}
		}
	}
	if !impl.EqualShapes(nil, []impl.Cell{}) || !impl.EqualShapes([]impl.Cell{}, nil) {
		t.Error("nil and an empty list differ")
	}
}

// TestShapeArguments calls each function with a part of a longer list, which has to stay as it is, and writes to the results.
func TestShapeArguments(t *testing.T) {
	lists := [][]impl.Cell{cellsOf(0, 0), cellsOf(1, 1, 2, 0, 1, 1, 0, 0), cellsOf(5, 5, 5, 5, 5, 5), cellsOf(8, 8)}
	for _, c := range someShapes {
		lists = append(lists, c.cells)
	}
	for _, l := range lists {
		whole := append(slices.Clone(l), cellsOf(90, 91, 92, 93, 94, 95)...)
		before := slices.Clone(whole)
		s := whole[:len(l)]
		moved, _ := impl.MoveShape(s, 0, 0)
		for _, result := range [][]impl.Cell{impl.SortCells(s), moved, impl.CornerShape(s)} {
			overwrite(result, impl.Cell{X: -77, Y: -78})
		}
		impl.IsShape(s)
		impl.IsConnectedShape(s)
		impl.HasCell(s, 1, 1)
		impl.SizeOf(s)
		impl.FormatShape(s)
		impl.EqualShapes(s, s)
		if !slices.Equal(whole, before) {
			t.Errorf("%v became %v", before, whole)
		}
	}
}

// TestParseShapeResults checks that each call has a result of its own.
func TestParseShapeResults(t *testing.T) {
	first, _ := impl.ParseShape("##/#")
	first[0] = impl.Cell{X: 5, Y: 5}
	if second, ok := impl.ParseShape("##/#"); !ok || !slices.Equal(second, cellsOf(0, 0, 1, 0, 0, 1)) {
		t.Errorf("ParseShape = %v, %v", second, ok)
	}
}
