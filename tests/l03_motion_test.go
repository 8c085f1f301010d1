package tests

import (
	"math"
	"slices"
	"strings"
	"testing"

	"loop.example/g03400/impl"
)

// motionMatrices tell for each motion which multiples of X and Y the new X and the new Y are.
var motionMatrices = [8][2][2]int{
	{{1, 0}, {0, 1}},
	{{0, -1}, {1, 0}},
	{{-1, 0}, {0, -1}},
	{{0, 1}, {-1, 0}},
	{{-1, 0}, {0, 1}},
	{{0, -1}, {-1, 0}},
	{{1, 0}, {0, -1}},
	{{0, 1}, {1, 0}},
}

var noMotions = []int{-1, 8, -2, -4, -8, 9, 12, 16, 255, 256, 1 << 32, -1 << 32, math.MinInt, math.MinInt + 4, math.MaxInt - 3, math.MaxInt}

// isBefore tells of two shapes which comes first, by their cells as numbers in base 8.
func isBefore(a []impl.Cell, b []impl.Cell) bool {
	return shapeNumber(a) < shapeNumber(b)
}

// shapeNumber has the number of cells before the places, so that it grows with it.
func shapeNumber(s []impl.Cell) int {
	n := len(s)
	for i := range impl.MaxCells {
		n *= 64
		if i < len(s) {
			n += 8*s[i].Y + s[i].X
		}
	}
	return n
}

// turned applies a matrix and marks the results in a grid that is wide enough for each of them.
func turned(s []impl.Cell, m int) []impl.Cell {
	var grid [15][15]bool
	a := motionMatrices[m]
	for _, c := range s {
		grid[7+a[1][0]*c.X+a[1][1]*c.Y][7+a[0][0]*c.X+a[0][1]*c.Y] = true
	}
	var out []impl.Cell
	left, top := 15, 15
	for y := range grid {
		for x := range grid[y] {
			if grid[y][x] {
				out = append(out, impl.Cell{X: x, Y: y})
				left, top = min(left, x), min(top, y)
			}
		}
	}
	for i := range out {
		out[i].X -= left
		out[i].Y -= top
	}
	return out
}

// motionShapes are the shapes of small grids and those at the bounds.
func motionShapes() [][]impl.Cell {
	out := append(shapesIn(3, 3), shapesIn(5, 2)...)
	for _, c := range someShapes {
		out = append(out, c.cells)
	}
	return out
}

func shapeOf(t *testing.T, format string) []impl.Cell {
	t.Helper()
	s, ok := impl.ParseShape(format)
	if !ok {
		t.Fatalf("%q is no shape", format)
	}
	return s
}

func formatsOf(shapes [][]impl.Cell) string {
	var out []string
	for _, s := range shapes {
		out = append(out, impl.FormatShape(s))
	}
	return strings.Join(out, " ")
}

func TestTurnShapeOfSomeShapes(t *testing.T) {
	for _, c := range []struct{ format, want string }{
		{"#", "# # # # # # # #"},
		{"##", "## #/# ## #/# ## #/# ## #/#"},
		{"###/#", "###/# ##/.#/.# ..#/### #/#/## ###/..# .#/.#/## #/### ##/#/#"},
		{"##/.##", "##/.## .#/##/# ##/.## .#/##/# .##/## #/##/.# .##/## #/##/.#"},
		{"#//.......#", "#//.......# ..#///////# #//.......# ..#///////# .......#//# #///////..# .......#//# #///////..#"},
		{"########", "######## #/#/#/#/#/#/#/# ######## #/#/#/#/#/#/#/# ######## #/#/#/#/#/#/#/# ######## #/#/#/#/#/#/#/#"},
	} {
		s := shapeOf(t, c.format)
		for m, want := range strings.Fields(c.want) {
			if got, ok := impl.TurnShape(s, m); !ok || impl.FormatShape(got) != want {
				t.Errorf("TurnShape(%s, %d) = %s, %v, want %s", c.format, m, impl.FormatShape(got), ok, want)
			}
		}
	}
}

func TestTurnShape(t *testing.T) {
	for _, s := range motionShapes() {
		for m := range 8 {
			want := turned(s, m)
			if got, ok := impl.TurnShape(s, m); !ok || !slices.Equal(got, want) {
				t.Fatalf("TurnShape(%v, %d) = %v, %v, want %v", s, m, got, ok, want)
			}
		}
	}
}

func TestTurnShapeRejects(t *testing.T) {
	for _, m := range noMotions {
		for _, s := range [][]impl.Cell{cellsOf(0, 0), cellsOf(0, 0, 1, 0, 2, 0, 0, 1), nil} {
			if got, ok := impl.TurnShape(s, m); len(got) > 0 || ok {
				t.Errorf("TurnShape(%v, %d) = %v, %v", s, m, got, ok)
			}
		}
	}
	for why, s := range noShapes {
		for m := range 8 {
			if got, ok := impl.TurnShape(s, m); len(got) > 0 || ok {
				t.Errorf("%s: TurnShape(%v, %d) = %v, %v", why, s, m, got, ok)
			}
		}
	}
}

// motionOfProduct finds the motion with the product of two matrices, of which the first one is applied first.
func motionOfProduct(t *testing.T, first int, second int) int {
	t.Helper()
	a, b := motionMatrices[first], motionMatrices[second]
	var product [2][2]int
	for i := range 2 {
		for j := range 2 {
			product[i][j] = b[i][0]*a[0][j] + b[i][1]*a[1][j]
		}
	}
	m := slices.Index(motionMatrices[:], product)
	if m < 0 {
		t.Fatal(product)
	}
	return m
}

func TestComposeAllPairsOfMotions(t *testing.T) {
	for a := range 8 {
		for b := range 8 {
			if got, want := impl.ComposeMotions(a, b), motionOfProduct(t, a, b); got != want {
				t.Errorf("ComposeMotions(%d, %d) = %d, want %d", a, b, got, want)
			}
		}
	}
}

func TestComposedMotionsOfShapes(t *testing.T) {
	for _, s := range append(shapesIn(3, 2), shapeOf(t, "#//.......#"), cellsOf(5, 6, 7, 6, 7, 7)) {
		for a := range 8 {
			first, _ := impl.TurnShape(s, a)
			for b := range 8 {
				want, _ := impl.TurnShape(first, b)
				if got, ok := impl.TurnShape(s, impl.ComposeMotions(a, b)); !ok || !slices.Equal(got, want) {
					t.Fatalf("%v by %d and %d: %v, want %v", s, a, b, got, want)
				}
			}
		}
	}
}

func TestMotionsAreAGroup(t *testing.T) {
	for a := range 8 {
		if impl.ComposeMotions(a, 0) != a || impl.ComposeMotions(0, a) != a {
			t.Errorf("0 changes %d", a)
		}
		inverse := impl.InverseMotion(a)
		if impl.ComposeMotions(a, inverse) != 0 || impl.ComposeMotions(inverse, a) != 0 {
			t.Errorf("InverseMotion(%d) = %d", a, inverse)
		}
		if impl.InverseMotion(inverse) != a {
			t.Errorf("InverseMotion(%d) = %d", inverse, impl.InverseMotion(inverse))
		}
		results := map[int]bool{}
		for b := range 8 {
			ab := impl.ComposeMotions(a, b)
			results[ab] = true
			if ab < 0 || ab > 7 {
				t.Errorf("ComposeMotions(%d, %d) = %d", a, b, ab)
			}
			for c := range 8 {
				if impl.ComposeMotions(ab, c) != impl.ComposeMotions(a, impl.ComposeMotions(b, c)) {
					t.Errorf("%d, %d and %d are not associative", a, b, c)
				}
			}
		}
		if len(results) != 8 {
			t.Errorf("%d leads to %v", a, results)
		}
	}
}

func TestInverseMotion(t *testing.T) {
	for m, want := range []int{0, 3, 2, 1, 4, 5, 6, 7} {
		if got := impl.InverseMotion(m); got != want {
			t.Errorf("InverseMotion(%d) = %d, want %d", m, got, want)
		}
	}
	for _, s := range motionShapes() {
		for m := range 8 {
			there, _ := impl.TurnShape(s, m)
			if back, ok := impl.TurnShape(there, impl.InverseMotion(m)); !ok || !slices.Equal(back, impl.CornerShape(s)) {
				t.Fatalf("%v comes back from %d as %v", s, m, back)
			}
		}
	}
}

func TestNoMotions(t *testing.T) {
	for _, n := range noMotions {
		if got := impl.InverseMotion(n); got != -1 {
			t.Errorf("InverseMotion(%d) = %d", n, got)
		}
		for _, m := range append([]int{0, 1, 2, 3, 4, 5, 6, 7}, noMotions...) {
			if got := impl.ComposeMotions(n, m); got != -1 {
				t.Errorf("ComposeMotions(%d, %d) = %d", n, m, got)
			}
			if got := impl.ComposeMotions(m, n); got != -1 {
				t.Errorf("ComposeMotions(%d, %d) = %d", m, n, got)
			}
		}
	}
}

func TestSymmetriesOfSomeShapes(t *testing.T) {
	all := []int{0, 1, 2, 3, 4, 5, 6, 7}
	for _, c := range []struct {
		format       string
		symmetries   []int
		orientations string
		chiral       bool
	}{
		{"#", all, "#", false},
		{"##/##", all, "##/##", false},
		{".#/###/.#", all, ".#/###/.#", false},
		{"###/#.#/###", all, "###/#.#/###", false},
		{"#.#//#.#", all, "#.#//#.#", false},
		{"#......#///////#......#", all, "#......#///////#......#", false},
		{"##", []int{0, 2, 4, 6}, "## #/#", false},
		{"####", []int{0, 2, 4, 6}, "#### #/#/#/#", false},
		{"########", []int{0, 2, 4, 6}, "######## #/#/#/#/#/#/#/#", false},
		{"#/.#", []int{0, 2, 5, 7}, "#/.# .#/#", false},
		{"###/.#", []int{0, 4}, "###/.# .#/### #/##/# .#/##/.#", false},
		{"#/##/#", []int{0, 6}, "###/.# .#/### #/##/# .#/##/.#", false},
		{"##/#", []int{0, 7}, "##/# ##/.# #/## .#/##", false},
		{"##/.#", []int{0, 5}, "##/# ##/.# #/## .#/##", false},
		{"##/.##", []int{0, 2}, "##/.## .##/## #/##/.# .#/##/#", true},
		{".##/##/.#", []int{0}, "##/.##/.# .##/##/.# #/###/.# ..#/###/.# .#/##/.## .#/.##/## .#/###/# .#/###/..#", true},
		{"###/#", []int{0}, "###/# ###/..# ##/#/# ##/.#/.# #/### #/#/## ..#/### .#/.#/##", true},
		// No motion with a reflection keeps it, all turns do.
		{".#/...#/#/..#", []int{0, 1, 2, 3}, ".#/...#/#/..# ..#/#/...#/.#", true},
	} {
		s := shapeOf(t, c.format)
		if got := impl.SymmetriesOf(s); !slices.Equal(got, c.symmetries) {
			t.Errorf("SymmetriesOf(%s) = %v, want %v", c.format, got, c.symmetries)
		}
		got := impl.OrientationsOf(s)
		want := strings.Fields(c.orientations)
		slices.SortFunc(want, func(a string, b string) int { return shapeNumber(shapeOf(t, a)) - shapeNumber(shapeOf(t, b)) })
		if formatsOf(got) != strings.Join(want, " ") {
			t.Errorf("OrientationsOf(%s) = %s, want %v", c.format, formatsOf(got), want)
		}
		if got := impl.FormatShape(impl.CanonicalShape(s)); got != want[0] {
			t.Errorf("CanonicalShape(%s) = %s, want %s", c.format, got, want[0])
		}
		if got := impl.IsChiral(s); got != c.chiral {
			t.Errorf("IsChiral(%s) = %v", c.format, got)
		}
	}
}

// TestOrientationsAndSymmetries compares with the results of the matrices, of which each occurs as often as there are symmetries.
func TestOrientationsAndSymmetries(t *testing.T) {
	for _, s := range motionShapes() {
		corner := impl.CornerShape(s)
		var orientations [][]impl.Cell
		var symmetries []int
		chiral := true
		for m := range 8 {
			result := turned(s, m)
			if !slices.ContainsFunc(orientations, func(o []impl.Cell) bool { return slices.Equal(o, result) }) {
				orientations = append(orientations, result)
			}
			if slices.Equal(result, corner) {
				symmetries = append(symmetries, m)
				chiral = chiral && m < 4
			}
		}
		slices.SortFunc(orientations, func(a []impl.Cell, b []impl.Cell) int { return shapeNumber(a) - shapeNumber(b) })
		if got := impl.OrientationsOf(s); !slices.EqualFunc(got, orientations, slices.Equal[[]impl.Cell]) {
			t.Fatalf("OrientationsOf(%v) = %v, want %v", s, got, orientations)
		}
		if got := impl.SymmetriesOf(s); !slices.Equal(got, symmetries) {
			t.Fatalf("SymmetriesOf(%v) = %v, want %v", s, got, symmetries)
		}
		if got := impl.CanonicalShape(s); !slices.Equal(got, orientations[0]) {
			t.Fatalf("CanonicalShape(%v) = %v, want %v", s, got, orientations[0])
		}
		if got := impl.IsChiral(s); got != chiral {
			t.Fatalf("IsChiral(%v) = %v", s, got)
		}
		if n := len(impl.OrientationsOf(s)) * len(impl.SymmetriesOf(s)); n != 8 {
			t.Fatalf("orientations times symmetries of %v: %d", s, n)
		}
	}
}

func TestMotionsOfNoShapes(t *testing.T) {
	for why, s := range noShapes {
		if got := impl.OrientationsOf(s); len(got) > 0 {
			t.Errorf("%s: OrientationsOf(%v) = %v", why, s, got)
		}
		if got := impl.CanonicalShape(s); len(got) > 0 {
			t.Errorf("%s: CanonicalShape(%v) = %v", why, s, got)
		}
		if got := impl.SymmetriesOf(s); len(got) > 0 {
			t.Errorf("%s: SymmetriesOf(%v) = %v", why, s, got)
		}
		if impl.IsChiral(s) {
			t.Errorf("%s: IsChiral(%v) = true", why, s)
		}
		if impl.IsCongruent(s, s) || impl.IsCongruent(s, nil) || impl.IsCongruent(nil, s) {
			t.Errorf("%s: %v is congruent", why, s)
		}
		for _, other := range [][]impl.Cell{cellsOf(0, 0), cellsOf(0, 0, 1, 0), impl.SortCells(s)} {
			if impl.IsCongruent(s, other) || impl.IsCongruent(other, s) {
				t.Errorf("%s: %v is congruent to %v", why, s, other)
			}
		}
	}
}

func TestIsCongruent(t *testing.T) {
	shapes := shapesIn(3, 2)
	shapes = append(shapes, shapesIn(2, 3)...)
	shapes = append(shapes, cellsOf(6, 7, 7, 7), cellsOf(7, 6, 7, 7), cellsOf(5, 7, 7, 7), cellsOf(5, 6, 7, 6, 5, 7, 6, 7))
	for _, a := range shapes {
		corner := impl.CornerShape(a)
		for _, b := range shapes {
			want := false
			for m := range 8 {
				want = want || slices.Equal(turned(b, m), corner)
			}
			if got := impl.IsCongruent(a, b); got != want {
				t.Fatalf("IsCongruent(%v, %v) = %v", a, b, got)
			}
		}
	}
}

func TestCanonicalShapeStandsForAllMotions(t *testing.T) {
	for _, s := range motionShapes() {
		canonical := impl.CanonicalShape(s)
		if !slices.Equal(impl.CanonicalShape(canonical), canonical) || !impl.IsCongruent(s, canonical) {
			t.Fatalf("CanonicalShape(%v) = %v", s, canonical)
		}
		for m := range 8 {
			result := turned(s, m)
			if got := impl.CanonicalShape(result); !slices.Equal(got, canonical) || isBefore(result, canonical) {
				t.Fatalf("CanonicalShape(%v) = %v, and %v of %v", result, got, canonical, s)
			}
		}
	}
}

func TestCompareShapes(t *testing.T) {
	// Each list comes before the next one.
	lists := [][]impl.Cell{
		nil,
		cellsOf(math.MinInt, math.MinInt),
		cellsOf(math.MaxInt, math.MinInt),
		cellsOf(math.MinInt, -1),
		cellsOf(5, -1),
		cellsOf(-1, 0),
		cellsOf(0, 0),
		cellsOf(1, 0),
		cellsOf(7, 0),
		cellsOf(math.MaxInt, 0),
		cellsOf(math.MinInt, 1),
		cellsOf(0, 1),
		cellsOf(7, 7),
		cellsOf(math.MinInt, math.MaxInt),
		cellsOf(math.MaxInt, math.MaxInt),
		cellsOf(-5, -5, -5, -5),
		cellsOf(0, 0, 0, 0),
		cellsOf(0, 0, 1, 0),
		cellsOf(0, 0, 7, 0),
		cellsOf(0, 0, 0, 1),
		cellsOf(0, 0, 1, 1),
		cellsOf(1, 0, 0, 0),
		cellsOf(1, 0, 0, 1),
		cellsOf(0, 1, 1, 0),
		cellsOf(-9, 0, 0, 0, 0, 0),
		cellsOf(0, 0, 1, 0, 2, 0),
		cellsOf(0, 0, 1, 0, 0, 1),
		cellsOf(0, 0, 2, 0, 0, 1),
		slices.Repeat(cellsOf(0, 0), 8),
		slices.Repeat(cellsOf(0, 0), 9),
		append(slices.Repeat(cellsOf(0, 0), 8), cellsOf(1, 0)...),
		slices.Repeat(cellsOf(-1, -1), 100),
	}
	for i, a := range lists {
		for j, b := range lists {
			want := 0
			if i < j {
				want = -1
			} else if i > j {
				want = 1
			}
			if got := impl.CompareShapes(a, slices.Clone(b)); got != want {
				t.Errorf("CompareShapes(%v, %v) = %d, want %d", a, b, got, want)
			}
		}
	}
	if impl.CompareShapes(nil, []impl.Cell{}) != 0 || impl.CompareShapes([]impl.Cell{}, nil) != 0 {
		t.Error("nil and an empty list differ")
	}
}

func TestCompareAllPairsOfSmallShapes(t *testing.T) {
	shapes := shapesIn(4, 2)
	for _, a := range shapes {
		for _, b := range shapes {
			want := 0
			if isBefore(a, b) {
				want = -1
			} else if isBefore(b, a) {
				want = 1
			}
			if got := impl.CompareShapes(a, b); got != want {
				t.Fatalf("CompareShapes(%v, %v) = %d, want %d", a, b, got, want)
			}
		}
	}
}

// TestMotionArguments calls each function with a part of a longer list, which has to stay as it is, and writes to the results.
func TestMotionArguments(t *testing.T) {
	lists := [][]impl.Cell{nil, cellsOf(1, 0, 0, 0), cellsOf(8, 8)}
	for _, c := range someShapes {
		lists = append(lists, c.cells)
	}
	for _, l := range lists {
		whole := append(slices.Clone(l), cellsOf(90, 91, 92, 93, 94, 95)...)
		before := slices.Clone(whole)
		s := whole[:len(l)]
		results := [][]impl.Cell{impl.CanonicalShape(s)}
		for m := range 8 {
			result, _ := impl.TurnShape(s, m)
			results = append(results, result)
		}
		results = append(results, impl.OrientationsOf(s)...)
		for _, result := range results {
			overwrite(result, impl.Cell{X: -77, Y: -78})
		}
		impl.SymmetriesOf(s)
		impl.IsCongruent(s, s)
		impl.CompareShapes(s, s)
		impl.IsChiral(s)
		if !slices.Equal(whole, before) {
			t.Errorf("%v became %v", before, whole)
		}
	}
}

// TestOrientationsShareNothing writes to each result, up to its capacity, and looks at the others.
func TestOrientationsShareNothing(t *testing.T) {
	for _, format := range []string{"###/#", "##/.##", "########", "##/##", "#"} {
		s := shapeOf(t, format)
		results := impl.OrientationsOf(s)
		for i := range results {
			overwrite(results[i], impl.Cell{X: -1 - i, Y: -1})
		}
		for i, one := range results {
			for _, c := range one {
				if c.X != -1-i {
					t.Errorf("%s: result %d became %v", format, i, one)
				}
			}
		}
		if again := impl.OrientationsOf(s); len(again) != len(results) || !slices.EqualFunc(again, impl.OrientationsOf(s), slices.Equal[[]impl.Cell]) || again[0][0].X < 0 {
			t.Errorf("%s: %v", format, again)
		}
	}
}
