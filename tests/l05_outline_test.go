package tests

import (
	"slices"
	"testing"

	"loop.example/g03400/impl"
)

// outline holds what chapter 5 tells of a list.
type outline struct {
	perimeter, holes, neighbours, inner, squares int
	rowConvex, convex, treeLike                  bool
}

// noOutline is what chapter 5 names for lists that are no shapes.
var noOutline = outline{perimeter: -1, holes: -1, neighbours: -1}

func outlineOf(s []impl.Cell) outline {
	return outline{
		perimeter:  impl.PerimeterOf(s),
		holes:      impl.HolesOf(s),
		neighbours: impl.NeighbourCells(s),
		inner:      impl.InnerSides(s),
		squares:    impl.SquaresIn(s),
		rowConvex:  impl.IsRowConvex(s),
		convex:     impl.IsConvexShape(s),
		treeLike:   impl.IsTreeLike(s),
	}
}

// outlineExamples are counted by hand.
var outlineExamples = []struct {
	format string
	want   outline
}{
	// One cell, and pieces without holes.
	{"#", outline{4, 0, 4, 0, 0, true, true, true}},
	{"##", outline{6, 0, 6, 1, 0, true, true, true}},
	{"#/#", outline{6, 0, 6, 1, 0, true, true, true}},
	{"##/#", outline{8, 0, 7, 2, 0, true, true, true}},
	{"####", outline{10, 0, 10, 3, 0, true, true, true}},
	{"###/.#", outline{10, 0, 8, 3, 0, true, true, true}},
	{".##/##", outline{10, 0, 8, 3, 0, true, true, true}},
	{"##/##", outline{8, 0, 8, 4, 1, true, true, false}},
	{".#/###/.#", outline{12, 0, 8, 4, 0, true, true, true}},
	{"##/##/#", outline{10, 0, 9, 5, 1, true, true, false}},
	{"#/##/.##", outline{12, 0, 9, 4, 0, true, true, true}},
	{"#.#/###", outline{12, 0, 10, 4, 0, false, false, true}},
	{"##/#/##", outline{12, 0, 10, 4, 0, true, false, true}},
	{"###/###", outline{10, 0, 10, 7, 2, true, true, false}},
	{"####/####", outline{12, 0, 12, 10, 3, true, true, false}},
	{"###/###/##", outline{12, 0, 11, 10, 3, true, true, false}},
	{"########", outline{18, 0, 18, 7, 0, true, true, true}},
	{"#/#/#/#/#/#/#/#", outline{18, 0, 18, 7, 0, true, true, true}},
	{"#.#/#.#/###", outline{16, 0, 13, 6, 0, false, false, true}},
	{"#.#.#/#####", outline{18, 0, 14, 7, 0, false, false, true}},
	{"##/.##/..##/...##", outline{18, 0, 12, 7, 0, true, true, true}},
	// A ring of cells, whole and open at a side.
	{"###/#.#/###", outline{16, 1, 13, 8, 0, false, false, false}},
	{"###/#/###", outline{16, 0, 13, 6, 0, true, false, true}},
	// Holes that touch the outside at a corner only.
	{".##/#.#/###", outline{16, 1, 12, 6, 0, false, false, true}},
	{"##/#.#/###", outline{16, 1, 12, 6, 0, false, false, true}},
	{"##/#.#/.##", outline{16, 1, 11, 4, 0, false, false, false}},
	{".#/#.#/.#", outline{16, 1, 9, 0, 0, false, false, false}},
	{".##/#..#/.##", outline{20, 1, 12, 2, 0, false, false, false}},
	{".#/#.#/#.#/.#", outline{20, 1, 12, 2, 0, false, false, false}},
	{".#/#.#/#..#/.##", outline{24, 1, 14, 2, 0, false, false, false}},
	// Two holes and three, which touch each other at a corner only or not at all.
	{".#/#.#/.#.#/..#", outline{24, 2, 12, 0, 0, false, false, false}},
	{"..#/.#.#/#.#/.#", outline{24, 2, 12, 0, 0, false, false, false}},
	{".#.#/#.#.#/.#.#", outline{28, 2, 14, 0, 0, false, false, false}},
	{".#/#.#/.#/#.#/.#", outline{28, 2, 14, 0, 0, false, false, false}},
	{".#/#.#/.#.#/..#.#/...#", outline{32, 3, 15, 0, 0, false, false, false}},
	{".#/#.#/.#.#/#.#/.#", outline{32, 3, 15, 0, 0, false, false, false}},
	// Places that look like two holes but hang together with each other or with the outside.
	{".##/#..#/.#.#/..#", outline{24, 1, 14, 2, 0, false, false, false}},
	{".#/#.#/.#.#", outline{20, 1, 11, 0, 0, false, false, false}},
	{"#.#//#.#", outline{16, 0, 12, 0, 0, false, false, false}},
	// Shapes that do not hang together.
	{"#.#", outline{8, 0, 7, 0, 0, false, false, false}},
	{"#//#", outline{8, 0, 7, 0, 0, true, false, false}},
	{"#/.#", outline{8, 0, 6, 0, 0, true, false, false}},
	{".#/#", outline{8, 0, 6, 0, 0, true, false, false}},
	{"##//.##", outline{12, 0, 11, 2, 0, true, false, false}},
	{"##/##//##/##", outline{16, 0, 14, 8, 2, true, false, false}},
	{"##/##/..##/..##", outline{16, 0, 14, 8, 2, true, false, false}},
	{"##.#/##", outline{12, 0, 11, 4, 1, false, false, false}},
	{"##/##//#", outline{12, 0, 11, 4, 1, true, false, false}},
	// As many common sides as a shape that hangs together would have, but not so.
	{"##/##//..#.#", outline{16, 0, 15, 4, 1, false, false, false}},
	{"##/##///#", outline{12, 0, 12, 4, 1, true, false, false}},
	// Cells that are as far apart as possible.
	{"#......#", outline{8, 0, 8, 0, 0, false, false, false}},
	{"#///////#", outline{8, 0, 8, 0, 0, true, false, false}},
	{"#///////.......#", outline{8, 0, 8, 0, 0, true, false, false}},
	{".......#/#", outline{8, 0, 8, 0, 0, true, false, false}},
	{"##....##///////##....##", outline{24, 0, 24, 4, 0, false, false, false}},
	{"#/.#/..#/...#/....#/.....#/......#/.......#", outline{32, 0, 18, 0, 0, true, false, false}},
}

// corner is where sides end; a side begins at its corner and goes to the right or down.
type corner struct{ x, y int }

type side struct {
	corner
	down bool
}

// sidesOf tells for each side of a cell how many cells have it.
func sidesOf(s []impl.Cell) map[side]int {
	out := map[side]int{}
	for _, c := range s {
		out[side{corner{c.X, c.Y}, false}]++
		out[side{corner{c.X, c.Y}, true}]++
		out[side{corner{c.X, c.Y + 1}, false}]++
		out[side{corner{c.X + 1, c.Y}, true}]++
	}
	return out
}

// groupsOf returns the number of parts of cells that are joined by sides or corners.
func groupsOf(s []impl.Cell) int {
	left := slices.Clone(s)
	groups := 0
	var take func(c impl.Cell)
	take = func(c impl.Cell) {
		for y := c.Y - 1; y <= c.Y+1; y++ {
			for x := c.X - 1; x <= c.X+1; x++ {
				if i := slices.Index(left, impl.Cell{X: x, Y: y}); i >= 0 {
					left = slices.Delete(left, i, i+1)
					take(impl.Cell{X: x, Y: y})
				}
			}
		}
	}
	for len(left) > 0 {
		groups++
		take(left[0])
	}
	return groups
}

// holesOf uses the formula of Euler: groups minus holes are corners minus sides plus cells.
func holesOf(s []impl.Cell) int {
	corners := map[corner]bool{}
	for _, c := range s {
		for i := range 4 {
			corners[corner{c.X + i%2, c.Y + i/2}] = true
		}
	}
	return groupsOf(s) - (len(corners) - len(sidesOf(s)) + len(s))
}

// neighboursOf looks at all places up to one beside the places of shapes.
func neighboursOf(s []impl.Cell) int {
	n := 0
	for y := -1; y <= 8; y++ {
		for x := -1; x <= 8; x++ {
			beside := false
			for _, c := range s {
				beside = beside || (c.X-x)*(c.X-x)+(c.Y-y)*(c.Y-y) == 1
			}
			if beside && !slices.Contains(s, impl.Cell{X: x, Y: y}) {
				n++
			}
		}
	}
	return n
}

// linesAreFull tells whether each line of cells is as long as it has cells.
func linesAreFull(s []impl.Cell, lineOf func(impl.Cell) (line int, place int)) bool {
	for line := range 8 {
		first, last, count := 8, -1, 0
		for _, c := range s {
			if l, place := lineOf(c); l == line {
				first, last, count = min(first, place), max(last, place), count+1
			}
		}
		if count > 0 && last-first+1 != count {
			return false
		}
	}
	return true
}

func rowOf(c impl.Cell) (int, int) { return c.Y, c.X }

func columnOf(c impl.Cell) (int, int) { return c.X, c.Y }

func squaresOf(s []impl.Cell) int {
	n := 0
	for y := range 7 {
		for x := range 7 {
			cells := 0
			for _, c := range s {
				if (c.X == x || c.X == x+1) && (c.Y == y || c.Y == y+1) {
					cells++
				}
			}
			n += cells / 4
		}
	}
	return n
}

// isTree takes away cells with at most one neighbour, which leaves a ring if there is one.
func isTree(s []impl.Cell) bool {
	if !hangsTogether(s) {
		return false
	}
	left := slices.Clone(s)
	isLeaf := func(c impl.Cell) bool {
		n := 0
		for _, other := range left {
			if (c.X-other.X)*(c.X-other.X)+(c.Y-other.Y)*(c.Y-other.Y) == 1 {
				n++
			}
		}
		return n <= 1
	}
	for {
		i := slices.IndexFunc(left, isLeaf)
		if i < 0 {
			return len(left) == 0
		}
		left = slices.Delete(left, i, i+1)
	}
}

// drawnOutline computes all of it in other ways than by the places beside the cells.
func drawnOutline(s []impl.Cell) outline {
	out := outline{
		holes:      holesOf(s),
		neighbours: neighboursOf(s),
		squares:    squaresOf(s),
		rowConvex:  linesAreFull(s, rowOf),
		convex:     hangsTogether(s) && linesAreFull(s, rowOf) && linesAreFull(s, columnOf),
		treeLike:   isTree(s),
	}
	for _, cells := range sidesOf(s) {
		if cells == 1 {
			out.perimeter++
		} else {
			out.inner++
		}
	}
	return out
}

// outlineShapes are those of small grids, those at the bounds and those of the examples.
func outlineShapes(t *testing.T) [][]impl.Cell {
	out := append(enumerationShapes(), shapesIn(4, 3)...)
	for _, c := range outlineExamples {
		out = append(out, shapeOf(t, c.format))
	}
	return out
}

// connectedShapes returns all shapes with 1 to most cells that hang together, by their number of cells.
func connectedShapes(most int) [][][]impl.Cell {
	shapes := [][]impl.Cell{cellsOf(0, 0)}
	out := [][][]impl.Cell{nil, shapes}
	for range most - 1 {
		var extended [][]impl.Cell
		for _, s := range shapes {
			extended = append(extended, impl.ExtensionsOf(s)...)
		}
		shapes = ordered(extended)
		out = append(out, shapes)
	}
	return out
}

func TestOutlineExamples(t *testing.T) {
	for _, c := range outlineExamples {
		if got := outlineOf(shapeOf(t, c.format)); got != c.want {
			t.Errorf("%s: %+v, want %+v", c.format, got, c.want)
		}
	}
}

func TestOutlines(t *testing.T) {
	for _, s := range outlineShapes(t) {
		if got, want := outlineOf(s), drawnOutline(s); got != want {
			t.Fatalf("%v: %+v, want %+v", s, got, want)
		}
	}
}

// TestOutlinesInAllPlaces moves each example to all places where it is a shape, the last ones included.
func TestOutlinesInAllPlaces(t *testing.T) {
	for _, c := range outlineExamples {
		s := shapeOf(t, c.format)
		w, h := impl.SizeOf(s)
		for y := range 9 - h {
			for x := range 9 - w {
				moved, ok := impl.MoveShape(s, x, y)
				if got := outlineOf(moved); !ok || got != c.want {
					t.Errorf("%v: %+v, want %+v", moved, got, c.want)
				}
			}
		}
	}
}

// TestOneCellInAllPlaces has neighbours with negative coordinates, and others behind the last places.
func TestOneCellInAllPlaces(t *testing.T) {
	for y := range 8 {
		for x := range 8 {
			s := cellsOf(x, y)
			if got := outlineOf(s); got != (outline{4, 0, 4, 0, 0, true, true, true}) {
				t.Errorf("%v: %+v", s, got)
			}
		}
	}
}

func TestRingInTheLastPlaces(t *testing.T) {
	for _, s := range [][]impl.Cell{
		cellsOf(0, 0, 1, 0, 2, 0, 0, 1, 2, 1, 0, 2, 1, 2, 2, 2),
		cellsOf(5, 0, 6, 0, 7, 0, 5, 1, 7, 1, 5, 2, 6, 2, 7, 2),
		cellsOf(0, 5, 1, 5, 2, 5, 0, 6, 2, 6, 0, 7, 1, 7, 2, 7),
		cellsOf(5, 5, 6, 5, 7, 5, 5, 6, 7, 6, 5, 7, 6, 7, 7, 7),
	} {
		if got := outlineOf(s); got != (outline{16, 1, 13, 8, 0, false, false, false}) {
			t.Errorf("%v: %+v", s, got)
		}
	}
}

// TestOutlinesAtTheBounds has bays that only the end of the grid would close.
func TestOutlinesAtTheBounds(t *testing.T) {
	for _, s := range [][]impl.Cell{
		cellsOf(1, 0, 0, 1),
		cellsOf(6, 0, 7, 1),
		cellsOf(0, 6, 1, 7),
		cellsOf(7, 6, 6, 7),
		cellsOf(0, 3, 1, 4, 0, 5),
		cellsOf(7, 3, 6, 4, 7, 5),
		cellsOf(3, 0, 5, 0, 4, 1),
		cellsOf(4, 6, 3, 7, 5, 7),
		cellsOf(3, 0, 3, 1, 3, 2, 3, 3, 3, 4, 3, 5, 3, 6, 3, 7),
		cellsOf(0, 4, 1, 4, 2, 4, 3, 4, 4, 4, 5, 4, 6, 4, 7, 4),
		cellsOf(0, 0, 7, 0, 0, 7, 7, 7),
	} {
		if !impl.IsShape(s) {
			t.Fatal(s)
		}
		if got, want := outlineOf(s), drawnOutline(s); got != want || got.holes != 0 {
			t.Errorf("%v: %+v, want %+v", s, got, want)
		}
	}
}

// TestPerimetersAndCommonSides has four sides for each cell, of which two are one common side or one belongs to the perimeter.
func TestPerimetersAndCommonSides(t *testing.T) {
	for _, s := range outlineShapes(t) {
		got := outlineOf(s)
		if got.perimeter+2*got.inner != 4*len(s) {
			t.Fatalf("%v: %+v", s, got)
		}
		if got.perimeter%2 != 0 || got.neighbours > got.perimeter || 4*got.neighbours < got.perimeter {
			t.Fatalf("%v: %+v", s, got)
		}
		if got.treeLike && (got.squares > 0 || got.inner != len(s)-1) || got.convex && (got.holes > 0 || !got.rowConvex) {
			t.Fatalf("%v: %+v", s, got)
		}
	}
}

// TestOutlinesInAllMotions knows that a quarter turn makes columns of rows, and half a turn or a reflection at an axis does not.
func TestOutlinesInAllMotions(t *testing.T) {
	for _, s := range outlineShapes(t) {
		want := drawnOutline(s)
		columns := linesAreFull(s, columnOf)
		for m := range 8 {
			moved, ok := impl.TurnShape(s, m)
			if !ok {
				t.Fatal(s, m)
			}
			wanted := want
			if m%2 == 1 {
				wanted.rowConvex = columns
			}
			if got := outlineOf(moved); got != wanted {
				t.Fatalf("%v, which %d makes of %v: %+v, want %+v", moved, m, s, got, wanted)
			}
		}
	}
}

// TestNumbersOfOutlines has numbers of shapes that hang together, apart from moves, as the literature has them.
func TestNumbersOfOutlines(t *testing.T) {
	all := []int{0, 1, 2, 6, 19, 63, 216, 760, 2725}
	withHoles := []int{0, 0, 0, 0, 0, 0, 0, 4, 41}
	trees := []int{0, 1, 2, 6, 18, 55, 174, 570, 1908}
	convex := []int{0, 1, 2, 6, 19, 59, 176, 502, 1374}
	rowConvex := []int{0, 1, 2, 6, 19, 61, 196, 629, 2017}
	for n, shapes := range connectedShapes(impl.MaxCells) {
		count := func(test func([]impl.Cell) bool) int {
			found := 0
			for _, s := range shapes {
				if test(s) {
					found++
				}
			}
			return found
		}
		if len(shapes) != all[n] {
			t.Errorf("%d shapes of %d cells, want %d", len(shapes), n, all[n])
		}
		if got := count(func(s []impl.Cell) bool { return impl.HolesOf(s) > 0 }); got != withHoles[n] {
			t.Errorf("%d shapes of %d cells have holes, want %d", got, n, withHoles[n])
		}
		if got := count(impl.IsTreeLike); got != trees[n] {
			t.Errorf("%d shapes of %d cells are like trees, want %d", got, n, trees[n])
		}
		if got := count(impl.IsConvexShape); got != convex[n] {
			t.Errorf("%d shapes of %d cells are convex, want %d", got, n, convex[n])
		}
		if got := count(impl.IsRowConvex); got != rowConvex[n] {
			t.Errorf("%d shapes of %d cells have convex rows, want %d", got, n, rowConvex[n])
		}
	}
}

func TestOutlinesOfShapesThatHangTogether(t *testing.T) {
	for _, shapes := range connectedShapes(impl.MaxCells) {
		for _, s := range shapes {
			if got, want := outlineOf(s), drawnOutline(s); got != want {
				t.Fatalf("%v: %+v, want %+v", s, got, want)
			}
		}
	}
}

func TestOutlinesOfNoShapes(t *testing.T) {
	for why, s := range noShapes {
		if got := outlineOf(s); got != noOutline {
			t.Errorf("%s: %v: %+v", why, s, got)
		}
	}
	// Cells that would have an outline if they were in order, fewer, each there once, or elsewhere.
	for _, s := range [][]impl.Cell{
		cellsOf(1, 0, 0, 0, 0, 1, 1, 1),
		cellsOf(0, 0, 1, 0, 1, 1, 0, 1),
		cellsOf(0, 0, 1, 0, 0, 1, 1, 1, 1, 1),
		cellsOf(0, 0, 0, 0, 1, 0, 0, 1, 1, 1),
		cellsOf(0, 0, 0, 1, 1, 0, 1, 1),
		cellsOf(7, 0, 8, 0, 7, 1, 8, 1),
		cellsOf(0, 7, 1, 7, 0, 8, 1, 8),
		cellsOf(-1, 0, 0, 0, -1, 1, 0, 1),
		cellsOf(0, -1, 1, -1, 0, 0, 1, 0),
		cellsOf(0, 0, 1, 0, 2, 0, 0, 1, 1, 1, 2, 1, 0, 2, 1, 2, 2, 2),
		cellsOf(0, 0, 1, 0, 2, 0, 0, 1, 2, 1, 0, 2, 1, 2, 2, 2, 0, 1),
		cellsOf(6, 6, 7, 6, 8, 6, 6, 7, 8, 7, 6, 8, 7, 8, 8, 8),
		cellsOf(0, 0, 1, 0, 2, 0, 3, 0, 0, 1, 3, 1, 0, 2, 1, 2, 2, 2, 3, 2),
		cellsOf(2, 2, 1, 2, 0, 2, 2, 1, 0, 1, 2, 0, 1, 0, 0, 0),
	} {
		if got := outlineOf(s); got != noOutline {
			t.Errorf("%v: %+v", s, got)
		}
	}
}

// TestOutlinesOfShortLists tries all lists of some cells, most of which are no shapes.
func TestOutlinesOfShortLists(t *testing.T) {
	for _, s := range listsOver(cellsOf(0, 0, 1, 0, 0, 1, 1, 1, 7, 7, 8, 7), 5) {
		want := noOutline
		if impl.IsShape(s) {
			want = drawnOutline(s)
		}
		if got := outlineOf(s); got != want {
			t.Fatalf("%v: %+v, want %+v", s, got, want)
		}
	}
}

// TestOutlineArguments calls each function with a part of a longer list, which has to stay as it is and changes nothing.
func TestOutlineArguments(t *testing.T) {
	lists := outlineShapes(t)
	for _, s := range noShapes {
		lists = append(lists, s)
	}
	for _, l := range lists {
		whole := append(slices.Clone(l), cellsOf(0, 0, 1, 0, 92, 93, 94, 95)...)
		before := slices.Clone(whole)
		want := outlineOf(slices.Clip(slices.Clone(l)))
		if got := outlineOf(whole[:len(l)]); got != want {
			t.Errorf("%v: %+v, want %+v", l, got, want)
		}
		if !slices.Equal(whole, before) {
			t.Errorf("%v became %v", before, whole)
		}
	}
}
