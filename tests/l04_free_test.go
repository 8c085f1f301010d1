package tests

import (
	"math"
	"slices"
	"strings"
	"testing"

	"loop.example/g03400/impl"
)

// namedPieces are all names in the order of the document, with their formats and the cells that these stand for.
var namedPieces = []struct {
	name   string
	format string
	cells  []impl.Cell
}{
	{"I2", "##", cellsOf(0, 0, 1, 0)},
	{"I3", "###", cellsOf(0, 0, 1, 0, 2, 0)},
	{"V3", "##/#", cellsOf(0, 0, 1, 0, 0, 1)},
	{"I4", "####", cellsOf(0, 0, 1, 0, 2, 0, 3, 0)},
	{"L4", "###/#", cellsOf(0, 0, 1, 0, 2, 0, 0, 1)},
	{"T4", "###/.#", cellsOf(0, 0, 1, 0, 2, 0, 1, 1)},
	{"S4", ".##/##", cellsOf(1, 0, 2, 0, 0, 1, 1, 1)},
	{"O4", "##/##", cellsOf(0, 0, 1, 0, 0, 1, 1, 1)},
	{"X5", ".#/###/.#", cellsOf(1, 0, 0, 1, 1, 1, 2, 1, 1, 2)},
	{"P5", "##/##/#", cellsOf(0, 0, 1, 0, 0, 1, 1, 1, 0, 2)},
	{"W5", "#/##/.##", cellsOf(0, 0, 0, 1, 1, 1, 1, 2, 2, 2)},
	{"U5", "#.#/###", cellsOf(0, 0, 2, 0, 0, 1, 1, 1, 2, 1)},
}

// countsOfShapes are the numbers of shapes of 0 to MaxCount cells, as the literature has them.
var countsOfShapes = []struct{ fixed, oneSided, free int }{{0, 0, 0}, {1, 1, 1}, {2, 1, 1}, {6, 2, 2}, {19, 7, 5}, {63, 18, 12}}

var noCounts = []int{0, 6, -1, 7, 8, -5, 64, 256, 1 << 32, 1<<32 + 1, math.MinInt, math.MinInt + 1, math.MaxInt}

// setsOf returns all lists of n places, in order, among those of w columns and h rows.
func setsOf(n int, w int, h int) [][]impl.Cell {
	var out [][]impl.Cell
	var choose func(chosen []impl.Cell, from int)
	choose = func(chosen []impl.Cell, from int) {
		if len(chosen) == n {
			out = append(out, slices.Clone(chosen))
			return
		}
		for i := from; i < w*h; i++ {
			choose(append(chosen, impl.Cell{X: i % w, Y: i / w}), i+1)
		}
	}
	choose(nil, 0)
	return out
}

// hangsTogether takes away the first cell, its neighbours, theirs and so on, and looks whether one is left.
func hangsTogether(s []impl.Cell) bool {
	left := map[impl.Cell]bool{}
	for _, c := range s {
		left[c] = true
	}
	var take func(x int, y int)
	take = func(x int, y int) {
		if c := (impl.Cell{X: x, Y: y}); left[c] {
			delete(left, c)
			take(x+1, y)
			take(x-1, y)
			take(x, y+1)
			take(x, y-1)
		}
	}
	if len(s) > 0 {
		take(s[0].X, s[0].Y)
	}
	return len(s) > 0 && len(left) == 0
}

// drawn looks for the cells in a grid that begins at their least X and Y, by rows.
func drawn(cells []impl.Cell) []impl.Cell {
	left, top := cells[0].X, cells[0].Y
	for _, c := range cells {
		left, top = min(left, c.X), min(top, c.Y)
	}
	var out []impl.Cell
	for y := range 12 {
		for x := range 12 {
			if slices.Contains(cells, impl.Cell{X: left + x, Y: top + y}) {
				out = append(out, impl.Cell{X: x, Y: y})
			}
		}
	}
	return out
}

// ordered sorts the shapes by their numbers and leaves each one once.
func ordered(shapes [][]impl.Cell) [][]impl.Cell {
	byNumber := map[int][]impl.Cell{}
	var numbers []int
	for _, s := range shapes {
		if n := shapeNumber(s); byNumber[n] == nil {
			byNumber[n] = s
			numbers = append(numbers, n)
		}
	}
	slices.Sort(numbers)
	var out [][]impl.Cell
	for _, n := range numbers {
		out = append(out, byNumber[n])
	}
	return out
}

func sameShapes(a [][]impl.Cell, b [][]impl.Cell) bool {
	return slices.EqualFunc(a, b, slices.Equal[[]impl.Cell])
}

func containsShape(shapes [][]impl.Cell, s []impl.Cell) bool {
	return slices.ContainsFunc(shapes, func(one []impl.Cell) bool { return slices.Equal(one, s) })
}

// fixedShapes chooses the places in a grid in which each shape of n cells that hangs together has room.
func fixedShapes(n int) [][]impl.Cell {
	var out [][]impl.Cell
	for _, s := range setsOf(n, n, n) {
		if hangsTogether(s) && slices.Equal(drawn(s), s) {
			out = append(out, s)
		}
	}
	return ordered(out)
}

// extensionsOf tries all places up to one beside the places of shapes.
func extensionsOf(s []impl.Cell) [][]impl.Cell {
	var out [][]impl.Cell
	for y := -1; y <= 8; y++ {
		for x := -1; x <= 8; x++ {
			beside := false
			for _, c := range s {
				beside = beside || (c.X-x)*(c.X-x)+(c.Y-y)*(c.Y-y) == 1
			}
			place := impl.Cell{X: x, Y: y}
			if !beside || slices.Contains(s, place) || len(s) >= 8 {
				continue
			}
			extended := drawn(append(slices.Clone(s), place))
			if !slices.ContainsFunc(extended, func(c impl.Cell) bool { return c.X > 7 || c.Y > 7 }) {
				out = append(out, extended)
			}
		}
	}
	return ordered(out)
}

func parentsOf(s []impl.Cell) [][]impl.Cell {
	var out [][]impl.Cell
	for _, removed := range s {
		var rest []impl.Cell
		for _, c := range s {
			if c != removed {
				rest = append(rest, c)
			}
		}
		if hangsTogether(rest) {
			out = append(out, drawn(rest))
		}
	}
	return ordered(out)
}

// pieceName compares the results of all motions with the cells of all named pieces.
func pieceName(s []impl.Cell) string {
	for _, p := range namedPieces {
		for m := range 8 {
			if slices.Equal(turned(s, m), p.cells) {
				return p.name
			}
		}
	}
	return ""
}

// holedShapes enclose one place or two, which are no cells.
func holedShapes() [][]impl.Cell {
	return [][]impl.Cell{
		cellsOf(0, 0, 1, 0, 2, 0, 0, 1, 2, 1, 0, 2, 1, 2, 2, 2),
		cellsOf(1, 0, 2, 0, 0, 1, 2, 1, 0, 2, 1, 2, 2, 2),
		cellsOf(5, 5, 6, 5, 7, 5, 5, 6, 7, 6, 5, 7, 6, 7),
		cellsOf(1, 0, 0, 1, 2, 1, 1, 2),
		cellsOf(6, 5, 5, 6, 7, 6, 6, 7),
		cellsOf(1, 0, 2, 0, 0, 1, 3, 1, 1, 2, 2, 2),
		cellsOf(1, 0, 0, 1, 2, 1, 1, 2, 3, 2, 2, 3),
	}
}

// enumerationShapes are those of small grids, those at the bounds and those with holes.
func enumerationShapes() [][]impl.Cell {
	return append(motionShapes(), holedShapes()...)
}

func isPieceName(s string) bool {
	for _, p := range namedPieces {
		if p.name == s {
			return true
		}
	}
	return false
}

func TestPieceNamed(t *testing.T) {
	for _, p := range namedPieces {
		s, ok := impl.PieceNamed(p.name)
		if !ok || !slices.Equal(s, p.cells) {
			t.Errorf("PieceNamed(%q) = %v, %v, want %v", p.name, s, ok, p.cells)
		}
		if got := impl.FormatShape(s); got != p.format {
			t.Errorf("PieceNamed(%q) is %q, want %q", p.name, got, p.format)
		}
		if !impl.IsConnectedShape(s) || !slices.Equal(s, impl.CornerShape(s)) {
			t.Errorf("PieceNamed(%q) = %v", p.name, s)
		}
	}
}

func TestPieceNamedRejects(t *testing.T) {
	others := []string{
		"", " ", "I", "2", "I1", "I5", "I6", "V2", "V4", "V5", "L3", "L5", "T3", "T5", "S3", "S5", "Z4", "O3", "O5", "X4", "P4", "W4", "U4", "U6", "F5", "N5", "Y5", "Z5",
		"i2", "l4", "x5", "2I", "4L", "I02", "I2 ", " I2", "I 2", "I2\n", "I2\x00", "\x00I2", "I22", "I2I3", "I2+I3", "I2,I3", "I2I2",
		"\xff", "I\xff", "I\uff12", "\u04002", "I2\u0301", "none", "NULL", strings.Repeat("I2", 1000),
	}
	for _, p := range namedPieces {
		others = append(others, p.format, p.name[:1], p.name[1:], strings.ToLower(p.name), p.name+"4", p.name+" "+p.format)
	}
	for _, name := range others {
		if s, ok := impl.PieceNamed(name); len(s) > 0 || ok {
			t.Errorf("PieceNamed(%q) = %v, %v", name, s, ok)
		}
	}
}

// TestPieceNamedOfShortStrings tries all strings of up to two bytes, and of up to three bytes of those that the names have.
func TestPieceNamedOfShortStrings(t *testing.T) {
	for _, name := range append(stringsOver(allBytes(), 2), stringsOver("IVLTSOXPWU2345", 3)...) {
		if s, ok := impl.PieceNamed(name); ok != isPieceName(name) || ok != (len(s) > 0) {
			t.Errorf("PieceNamed(%q) = %v, %v", name, s, ok)
		}
	}
}

func TestNamedPiecesDiffer(t *testing.T) {
	for i, p := range namedPieces {
		a, _ := impl.PieceNamed(p.name)
		for j, q := range namedPieces {
			b, _ := impl.PieceNamed(q.name)
			if impl.IsCongruent(a, b) != (i == j) {
				t.Errorf("%s and %s: congruent is %v", p.name, q.name, i != j)
			}
		}
	}
}

// TestMotionsOfNamedPieces has the numbers of different results that a drawing shows.
func TestMotionsOfNamedPieces(t *testing.T) {
	orientations := map[string]int{"I2": 2, "I3": 2, "V3": 4, "I4": 2, "L4": 8, "T4": 4, "S4": 4, "O4": 1, "X5": 1, "P5": 8, "W5": 4, "U5": 4}
	chiral := []string{"L4", "S4", "P5"}
	for _, p := range namedPieces {
		s, _ := impl.PieceNamed(p.name)
		if got := len(impl.OrientationsOf(s)); got != orientations[p.name] || got*len(impl.SymmetriesOf(s)) != 8 {
			t.Errorf("%s has %d orientations and the symmetries %v", p.name, got, impl.SymmetriesOf(s))
		}
		if got := impl.IsChiral(s); got != slices.Contains(chiral, p.name) {
			t.Errorf("IsChiral of %s is %v", p.name, got)
		}
	}
}

func TestPieceNamedGivesNewMemory(t *testing.T) {
	for _, p := range namedPieces {
		first, _ := impl.PieceNamed(p.name)
		second, _ := impl.PieceNamed(p.name)
		overwrite(first, impl.Cell{X: -1, Y: -1})
		third, _ := impl.PieceNamed(p.name)
		if !slices.Equal(second, p.cells) || !slices.Equal(third, p.cells) {
			t.Errorf("%s became %v and %v", p.name, second, third)
		}
	}
}

func TestMaxCount(t *testing.T) {
	if impl.MaxCount != 5 {
		t.Error(impl.MaxCount)
	}
}

func TestEnumerationExamples(t *testing.T) {
	for _, c := range []struct {
		n                     int
		fixed, oneSided, free string
	}{
		{0, "", "", ""},
		{1, "#", "#", "#"},
		{2, "## #/#", "##", "##"},
		{3, "### ##/# ##/.# #/## #/#/# .#/##", "### ##/#", "### ##/#"},
		{
			4,
			"#### ###/# ###/.# ###/..# ##/## ##/#/# ##/.## ##/.#/.# #/### #/##/# #/##/.# #/#/## #/#/#/# .##/## .#/### .#/##/# .#/##/.# .#/.#/## ..#/###",
			"#### ###/# ###/.# ###/..# ##/## ##/.## #/##/.#",
			"#### ###/# ###/.# ##/## ##/.##",
		},
	} {
		if got := formatsOf(impl.FixedShapes(c.n)); got != c.fixed {
			t.Errorf("FixedShapes(%d) = %s, want %s", c.n, got, c.fixed)
		}
		if got := formatsOf(impl.OneSidedShapes(c.n)); got != c.oneSided {
			t.Errorf("OneSidedShapes(%d) = %s, want %s", c.n, got, c.oneSided)
		}
		if got := formatsOf(impl.FreeShapes(c.n)); got != c.free {
			t.Errorf("FreeShapes(%d) = %s, want %s", c.n, got, c.free)
		}
	}
}

func TestShapesOfFiveCells(t *testing.T) {
	const (
		oneSided = "##### ####/# ####/.# ####/..# ####/...# ###/## ###/#.# ###/#/# ###/.## ###/.#/.# ###/..## ##/.##/.# ##/.##/..# ##/.#/.## #/###/.# #/###/..# #/##/.#/.# .#/###/.#"
		free     = "##### ####/# ####/.# ###/## ###/#.# ###/#/# ###/.#/.# ###/..## ##/.##/.# ##/.##/..# ##/.#/.## .#/###/.#"
	)
	if got := formatsOf(impl.OneSidedShapes(5)); got != oneSided {
		t.Errorf("OneSidedShapes(5) = %s, want %s", got, oneSided)
	}
	if got := formatsOf(impl.FreeShapes(5)); got != free {
		t.Errorf("FreeShapes(5) = %s, want %s", got, free)
	}
}

func TestNumbersOfShapes(t *testing.T) {
	for n, want := range countsOfShapes {
		if got := len(impl.FixedShapes(n)); got != want.fixed {
			t.Errorf("FixedShapes(%d): %d, want %d", n, got, want.fixed)
		}
		if got := len(impl.OneSidedShapes(n)); got != want.oneSided {
			t.Errorf("OneSidedShapes(%d): %d, want %d", n, got, want.oneSided)
		}
		if got := len(impl.FreeShapes(n)); got != want.free {
			t.Errorf("FreeShapes(%d): %d, want %d", n, got, want.free)
		}
		if got := impl.CountFree(n); n > 0 && got != want.free {
			t.Errorf("CountFree(%d) = %d, want %d", n, got, want.free)
		}
	}
}

func TestNoCounts(t *testing.T) {
	for _, n := range noCounts {
		if got := impl.FixedShapes(n); len(got) > 0 {
			t.Errorf("FixedShapes(%d) = %v", n, got)
		}
		if got := impl.OneSidedShapes(n); len(got) > 0 {
			t.Errorf("OneSidedShapes(%d) = %v", n, got)
		}
		if got := impl.FreeShapes(n); len(got) > 0 {
			t.Errorf("FreeShapes(%d) = %v", n, got)
		}
		if got := impl.CountFree(n); got != -1 {
			t.Errorf("CountFree(%d) = %d", n, got)
		}
	}
}

func TestFixedShapes(t *testing.T) {
	for n := 1; n <= impl.MaxCount; n++ {
		got, want := impl.FixedShapes(n), fixedShapes(n)
		if !sameShapes(got, want) {
			t.Errorf("FixedShapes(%d) = %s, want %s", n, formatsOf(got), formatsOf(want))
		}
		for i, s := range got {
			if !impl.IsConnectedShape(s) || !slices.Equal(impl.CornerShape(s), s) || len(s) != n {
				t.Errorf("FixedShapes(%d) has %v", n, s)
			}
			if i > 0 && impl.CompareShapes(got[i-1], s) != -1 {
				t.Errorf("FixedShapes(%d) has %v before %v", n, got[i-1], s)
			}
		}
	}
}

// comesBefore tells whether one of the results of some motions comes before the shape.
func comesBefore(s []impl.Cell, motions int) bool {
	for m := range motions {
		if isBefore(turned(s, m), s) {
			return true
		}
	}
	return false
}

func TestFirstShapesOfTheirMotions(t *testing.T) {
	for n := 1; n <= impl.MaxCount; n++ {
		var oneSided, free [][]impl.Cell
		for _, s := range fixedShapes(n) {
			if !comesBefore(s, 4) {
				oneSided = append(oneSided, s)
			}
			if !comesBefore(s, 8) {
				free = append(free, s)
			}
		}
		if got := impl.OneSidedShapes(n); !sameShapes(got, oneSided) {
			t.Errorf("OneSidedShapes(%d) = %s, want %s", n, formatsOf(got), formatsOf(oneSided))
		}
		if got := impl.FreeShapes(n); !sameShapes(got, free) {
			t.Errorf("FreeShapes(%d) = %s, want %s", n, formatsOf(got), formatsOf(free))
		}
	}
}

// standsFor collects the different results of some motions of all shapes.
func standsFor(shapes [][]impl.Cell, motions int) (all [][]impl.Cell, total int) {
	for _, s := range shapes {
		var results [][]impl.Cell
		for m := range motions {
			results = append(results, turned(s, m))
		}
		results = ordered(results)
		all = append(all, results...)
		total += len(results)
	}
	return ordered(all), total
}

// TestShapesStandForAllFixedOnes also counts, so that no fixed shape belongs to two of those that stand for it.
func TestShapesStandForAllFixedOnes(t *testing.T) {
	for n := 1; n <= impl.MaxCount; n++ {
		fixed := impl.FixedShapes(n)
		if all, total := standsFor(impl.FreeShapes(n), 8); !sameShapes(all, fixed) || total != len(fixed) {
			t.Errorf("FreeShapes(%d) stand for %d shapes: %s", n, total, formatsOf(all))
		}
		if all, total := standsFor(impl.OneSidedShapes(n), 4); !sameShapes(all, fixed) || total != len(fixed) {
			t.Errorf("OneSidedShapes(%d) stand for %d shapes: %s", n, total, formatsOf(all))
		}
		chiral := 0
		for _, s := range impl.FreeShapes(n) {
			if !slices.Equal(impl.CanonicalShape(s), s) {
				t.Errorf("FreeShapes(%d) has %s", n, impl.FormatShape(s))
			}
			if impl.IsChiral(s) {
				chiral++
			}
		}
		if got := len(impl.OneSidedShapes(n)) - impl.CountFree(n); got != chiral {
			t.Errorf("%d shapes of %d cells are chiral, want %d", chiral, n, got)
		}
	}
}

func TestExtensionsExamples(t *testing.T) {
	for _, c := range []struct{ format, want string }{
		{"#", "## #/#"},
		{"##", "### ##/# ##/.# #/## .#/##"},
		{"#/#", "##/# ##/.# #/## #/#/# .#/##"},
		{"##/##", "###/## ###/.## ##/### ##/##/# ##/##/.# #/##/## .##/### .#/##/##"},
		{"#.#", "### ##.# #.## #.#/# #.#/..# #/#.# ..#/#.#"},
		{"#/.#", "##/.# ##/..# #/## #/#/.# #/.## #/.#/.#"},
		{".#/#.#/.#", "##/#.#/.# .##/#.#/.# .#/###/.# .#/#.##/.# .#/#.#/## .#/#.#/.## .#/#.#/.#/.# .#/.#/#.#/.# ..#/##.#/..#"},
		{"#......#", "##.....# #.....## #......#/# #......#/.......# #/#......# .......#/#......#"},
		{"#///////#", "##///////# ##///////.# #/#//////# #//////#/# #///////## .#///////##"},
		{"#######", "######## #######/# #######/.# #######/..# #######/...# #######/....# #######/.....# #######/......# #/####### .#/####### ..#/####### ...#/####### ....#/####### .....#/####### ......#/#######"},
		{"########", ""},
		{"###/#.#/###", ""},
		{"#/.#/..#/...#/....#/.....#/......#/.......#", ""},
	} {
		s := shapeOf(t, c.format)
		if got := formatsOf(impl.ExtensionsOf(s)); got != c.want {
			t.Errorf("ExtensionsOf(%s) = %s, want %s", c.format, got, c.want)
		}
	}
}

func TestExtensions(t *testing.T) {
	for _, s := range enumerationShapes() {
		got, want := impl.ExtensionsOf(s), extensionsOf(s)
		if !sameShapes(got, want) {
			t.Fatalf("ExtensionsOf(%v) = %s, want %s", s, formatsOf(got), formatsOf(want))
		}
		if (len(s) == impl.MaxCells) != (len(got) == 0) {
			t.Fatalf("ExtensionsOf(%v) = %s", s, formatsOf(got))
		}
		for _, extended := range got {
			if !impl.IsShape(extended) || len(extended) != len(s)+1 || !slices.Equal(impl.CornerShape(extended), extended) {
				t.Fatalf("ExtensionsOf(%v) has %v", s, extended)
			}
			if impl.IsConnectedShape(s) && !impl.IsConnectedShape(extended) {
				t.Fatalf("ExtensionsOf(%v) has %v", s, extended)
			}
		}
	}
}

// TestExtensionsAndParentsInAllPlaces moves some shapes to each place, where the results in their corner stay the same.
func TestExtensionsAndParentsInAllPlaces(t *testing.T) {
	for _, format := range []string{"#", "##", "##/#", "##/.##", "#.#/###", "#.#", "#/.#", "#......#", "#///////#", "#///////.......#", "#######", "########"} {
		s := shapeOf(t, format)
		extensions, parents := extensionsOf(s), parentsOf(s)
		for y := range 8 {
			for x := range 8 {
				moved, ok := impl.MoveShape(s, x, y)
				if !ok {
					continue
				}
				if got := impl.ExtensionsOf(moved); !sameShapes(got, extensions) {
					t.Errorf("ExtensionsOf(%v) = %s, want %s", moved, formatsOf(got), formatsOf(extensions))
				}
				if got := impl.ParentsOf(moved); !sameShapes(got, parents) {
					t.Errorf("ParentsOf(%v) = %s, want %s", moved, formatsOf(got), formatsOf(parents))
				}
			}
		}
	}
}

func TestParentsExamples(t *testing.T) {
	for _, c := range []struct{ format, want string }{
		{"#", ""},
		{"##", "#"},
		{"#/#", "#"},
		{"###", "##"},
		{"##/#", "## #/#"},
		{"##/##", "##/# ##/.# #/## .#/##"},
		{"###/.#", "### ##/.# ##/#"},
		{".#/###/.#", "###/.# #/##/# .#/### .#/##/.#"},
		{"#.#", "#"},
		{"#/.#", "#"},
		{"##.#", "##"},
		{"#.#.#", ""},
		{"##/##//..#", "##/##"},
		{"##.##", ""},
		{"#......#", "#"},
		{"#///////.......#", "#"},
		{"########", "#######"},
		{"#/#/#/#/#/#/#/#", "#/#/#/#/#/#/#"},
		{".#/#.#/.#", ""},
		{"###/#.#/###", "###/#.#/## ###/#.#/#.# ###/#.#/.## ###/#/### ###/..#/### ##/#.#/### #.#/#.#/### .##/#.#/###"},
		{"#/.#/..#/...#/....#/.....#/......#/.......#", ""},
	} {
		s := shapeOf(t, c.format)
		var want [][]impl.Cell
		for _, format := range strings.Fields(c.want) {
			want = append(want, shapeOf(t, format))
		}
		if got := impl.ParentsOf(s); !sameShapes(got, ordered(want)) {
			t.Errorf("ParentsOf(%s) = %s, want %s", c.format, formatsOf(got), c.want)
		}
	}
}

func TestParents(t *testing.T) {
	for _, s := range enumerationShapes() {
		got, want := impl.ParentsOf(s), parentsOf(s)
		if !sameShapes(got, want) {
			t.Fatalf("ParentsOf(%v) = %s, want %s", s, formatsOf(got), formatsOf(want))
		}
		for _, parent := range got {
			if !impl.IsConnectedShape(parent) || len(parent) != len(s)-1 || !slices.Equal(impl.CornerShape(parent), parent) {
				t.Fatalf("ParentsOf(%v) has %v", s, parent)
			}
		}
	}
}

func TestExtensionsHaveTheirParents(t *testing.T) {
	for n := 1; n < impl.MaxCount; n++ {
		var extended [][]impl.Cell
		for _, s := range impl.FixedShapes(n) {
			extended = append(extended, impl.ExtensionsOf(s)...)
			for _, larger := range impl.FixedShapes(n + 1) {
				if got := containsShape(impl.ParentsOf(larger), s); got != containsShape(impl.ExtensionsOf(s), larger) {
					t.Errorf("%s is a parent of %s: %v", impl.FormatShape(s), impl.FormatShape(larger), got)
				}
			}
		}
		if got := impl.FixedShapes(n + 1); !sameShapes(got, ordered(extended)) {
			t.Errorf("FixedShapes(%d) = %s, want %s", n+1, formatsOf(got), formatsOf(ordered(extended)))
		}
	}
}

func TestEnumerationOfNoShapes(t *testing.T) {
	for why, s := range noShapes {
		if got := impl.ExtensionsOf(s); len(got) > 0 {
			t.Errorf("%s: ExtensionsOf(%v) = %v", why, s, got)
		}
		if got := impl.ParentsOf(s); len(got) > 0 {
			t.Errorf("%s: ParentsOf(%v) = %v", why, s, got)
		}
		if got := impl.NameOfPiece(s); got != "" {
			t.Errorf("%s: NameOfPiece(%v) = %q", why, s, got)
		}
	}
	// A piece in another order, with a cell twice or outside of the places of shapes is none.
	for _, s := range [][]impl.Cell{cellsOf(1, 0, 0, 0), cellsOf(0, 0, 1, 0, 1, 0), cellsOf(7, 0, 8, 0), cellsOf(-1, 0, 0, 0), cellsOf(0, 0, 0, 1, 1, 0)} {
		if len(impl.ExtensionsOf(s)) > 0 || len(impl.ParentsOf(s)) > 0 || impl.NameOfPiece(s) != "" {
			t.Errorf("%v: %v, %v, %q", s, impl.ExtensionsOf(s), impl.ParentsOf(s), impl.NameOfPiece(s))
		}
	}
}

func TestNameOfPieceInAllMotionsAndPlaces(t *testing.T) {
	for _, p := range namedPieces {
		for m := range 8 {
			s := turned(p.cells, m)
			for y := range 8 {
				for x := range 8 {
					moved, ok := impl.MoveShape(s, x, y)
					if got := impl.NameOfPiece(moved); ok && got != p.name || !ok && got != "" {
						t.Errorf("NameOfPiece(%v) = %q, want %q", moved, got, p.name)
					}
				}
			}
		}
	}
}

func TestNameOfPiece(t *testing.T) {
	shapes := enumerationShapes()
	for n := 1; n <= impl.MaxCount; n++ {
		shapes = append(shapes, fixedShapes(n)...)
	}
	names := map[string]bool{}
	for _, s := range shapes {
		got, want := impl.NameOfPiece(s), pieceName(s)
		if got != want {
			t.Fatalf("NameOfPiece(%v) = %q, want %q", s, got, want)
		}
		names[got] = true
		if piece, ok := impl.PieceNamed(got); ok != (got != "") || ok && !impl.IsCongruent(piece, s) {
			t.Fatalf("NameOfPiece(%v) = %q", s, got)
		}
	}
	if len(names) != len(namedPieces)+1 {
		t.Error(names)
	}
}

func TestShapesWithoutName(t *testing.T) {
	for _, format := range []string{"#", "#.#", "#/.#", "##.#", "#.##", "##/..#", "#.#/.#", "#####", "####/#", "####/.#", "###/..##", "###/#/#", "###/.#/.#", "##/.#/.##", ".##/##/.#", "######", "########", ".#/#.#/.#", "###/#.#/###"} {
		s := shapeOf(t, format)
		for m := range 8 {
			if got := impl.NameOfPiece(turned(s, m)); got != "" {
				t.Errorf("NameOfPiece of %s by %d is %q", format, m, got)
			}
		}
	}
}

// TestNamesOfFreeShapes has the names of all free shapes in their order.
func TestNamesOfFreeShapes(t *testing.T) {
	want := [][]string{1: {""}, 2: {"I2"}, 3: {"I3", "V3"}, 4: {"I4", "L4", "T4", "O4", "S4"}, 5: {"", "", "", "P5", "U5", "", "", "", "", "W5", "", "X5"}}
	for n := range want {
		var got []string
		for _, s := range impl.FreeShapes(n) {
			got = append(got, impl.NameOfPiece(s))
		}
		if !slices.Equal(got, want[n]) {
			t.Errorf("names of %d cells: %q, want %q", n, got, want[n])
		}
	}
}

// TestEnumerationArguments calls each function with a part of a longer list, which has to stay as it is, and writes to the results.
func TestEnumerationArguments(t *testing.T) {
	lists := append(holedShapes(), nil, cellsOf(1, 0, 0, 0), cellsOf(8, 8))
	for _, c := range someShapes {
		lists = append(lists, c.cells)
	}
	for _, l := range lists {
		whole := append(slices.Clone(l), cellsOf(90, 91, 92, 93, 94, 95)...)
		before := slices.Clone(whole)
		s := whole[:len(l)]
		for _, result := range append(impl.ExtensionsOf(s), impl.ParentsOf(s)...) {
			overwrite(result, impl.Cell{X: -77, Y: -78})
		}
		impl.NameOfPiece(s)
		if !slices.Equal(whole, before) {
			t.Errorf("%v became %v", before, whole)
		}
	}
}

// enumerations call each function that returns shapes.
func enumerations(t *testing.T) map[string]func() [][]impl.Cell {
	out := map[string]func() [][]impl.Cell{}
	for n := range 6 {
		number := impl.FormatInt(n)
		out["fixed "+number] = func() [][]impl.Cell { return impl.FixedShapes(n) }
		out["one-sided "+number] = func() [][]impl.Cell { return impl.OneSidedShapes(n) }
		out["free "+number] = func() [][]impl.Cell { return impl.FreeShapes(n) }
	}
	for _, format := range []string{"#", "##", "###/#", "#.#/###", "###/#.#/###", "#......#"} {
		s := shapeOf(t, format)
		out["extensions "+format] = func() [][]impl.Cell { return impl.ExtensionsOf(s) }
		out["parents "+format] = func() [][]impl.Cell { return impl.ParentsOf(s) }
	}
	return out
}

// TestEnumerationsShareNothing writes to each shape of a result, up to its capacity, and looks at the others and at later results.
func TestEnumerationsShareNothing(t *testing.T) {
	for name, call := range enumerations(t) {
		first, want := call(), formatsOf(call())
		for i := range first {
			overwrite(first[i], impl.Cell{X: -1 - i, Y: -1})
		}
		for i, one := range first {
			for _, c := range one {
				if c.X != -1-i {
					t.Errorf("%s: result %d became %v", name, i, one)
				}
			}
		}
		for range 20 {
			if got := formatsOf(call()); got != want {
				t.Errorf("%s: %s, and before %s", name, got, want)
			}
		}
	}
}
