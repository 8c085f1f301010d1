package tests

import (
	"math"
	"slices"
	"strings"
	"testing"

	"loop.example/g03400/impl"
)

// regionOf reads a drawing of a region, which has to have rows of the same length.
func regionOf(drawing string) impl.Region {
	rows := strings.Split(drawing, "/")
	out := impl.Region{Width: len(rows[0])}
	for _, row := range rows {
		number, bit := 0, 1
		for _, place := range row {
			if place == '#' {
				number += bit
			}
			bit *= 2
		}
		out.Rows = append(out.Rows, number)
	}
	return out
}

func isDrawn(drawing string, x int, y int) bool {
	rows := strings.Split(drawing, "/")
	return y >= 0 && y < len(rows) && x >= 0 && x < len(rows[y]) && rows[y][x] == '#'
}

// drawnCells goes through the places by rows.
func drawnCells(drawing string) []impl.Cell {
	var out []impl.Cell
	x, y := 0, 0
	for _, place := range drawing {
		switch place {
		case '/':
			x, y = 0, y+1
		case '#':
			out = append(out, impl.Cell{X: x, Y: y})
			x++
		default:
			x++
		}
	}
	return out
}

// drawnOf draws some cells in a grid.
func drawnOf(cells []impl.Cell, w int, h int) string {
	rows := make([]string, h)
	for y := range rows {
		for x := range w {
			if slices.Contains(cells, impl.Cell{X: x, Y: y}) {
				rows[y] += "#"
			} else {
				rows[y] += "."
			}
		}
	}
	return strings.Join(rows, "/")
}

// partsOf gives each cell a number and joins the numbers of cells with a common side, so that the least number stays for each part.
func partsOf(drawing string) []string {
	cells := drawnCells(drawing)
	numbers := make([]int, len(cells))
	for i := range numbers {
		numbers[i] = i
	}
	for i, a := range cells {
		for j, b := range cells {
			if (a.X-b.X)*(a.X-b.X)+(a.Y-b.Y)*(a.Y-b.Y) == 1 {
				least, greatest := min(numbers[i], numbers[j]), max(numbers[i], numbers[j])
				for k := range numbers {
					if numbers[k] == greatest {
						numbers[k] = least
					}
				}
			}
		}
	}
	var out []string
	r := regionOf(drawing)
	for number := range cells {
		var part []impl.Cell
		for i, c := range cells {
			if numbers[i] == number {
				part = append(part, c)
			}
		}
		if len(part) > 0 {
			out = append(out, drawnOf(part, r.Width, len(r.Rows)))
		}
	}
	return out
}

func sameRegion(a impl.Region, b impl.Region) bool {
	return a.Width == b.Width && slices.Equal(a.Rows, b.Rows)
}

func sameRegions(got []impl.Region, drawings []string) bool {
	return slices.EqualFunc(got, drawings, func(r impl.Region, d string) bool { return sameRegion(r, regionOf(d)) })
}

// drawingsIn returns all regions of a grid.
func drawingsIn(w int, h int) []string {
	var out []string
	for set := range 1 << (w * h) {
		drawing := ""
		for i := range w * h {
			if i > 0 && i%w == 0 {
				drawing += "/"
			}
			drawing += string(".#"[set>>i&1])
		}
		out = append(out, drawing)
	}
	return out
}

// smallDrawings are all regions of all grids of up to 10 places.
func smallDrawings() []string {
	var out []string
	for h := 1; h <= 6; h++ {
		for w := 1; w <= 6; w++ {
			if w*h <= 10 {
				out = append(out, drawingsIn(w, h)...)
			}
		}
	}
	return out
}

// greatDrawings are some regions of the greatest grids, with many cells and with few.
func greatDrawings() []string {
	var out []string
	number := uint64(1)
	next := func() int {
		number = number*6364136223846793005 + 1442695040888963407
		return int(number >> 40)
	}
	for i := range 1200 {
		w, h := 6-i/9%2, 6-i/18%2
		var cells []impl.Cell
		for y := range h {
			for x := range w {
				if next()%10 <= i%9 {
					cells = append(cells, impl.Cell{X: x, Y: y})
				}
			}
		}
		out = append(out, drawnOf(cells, w, h))
	}
	return out
}

func regionDrawings() []string {
	out := append(smallDrawings(), greatDrawings()...)
	for _, c := range regionExamples {
		out = append(out, c.format)
	}
	return out
}

const fullGrid = "######/######/######/######/######/######"

const emptyGrid = "....../....../....../....../....../......"

// regionExamples are counted by hand. The colors are those for 2 and for 3.
var regionExamples = []struct {
	format string
	width  int
	rows   []int
	area   int
	parts  []string
	two    []int
	three  []int
}{
	// One place.
	{"#", 1, []int{1}, 1, []string{"#"}, []int{1, 0}, []int{1, 0, 0}},
	// Regions without cells.
	{".", 1, []int{0}, 0, nil, []int{0, 0}, []int{0, 0, 0}},
	{"../..", 2, []int{0, 0}, 0, nil, []int{0, 0}, []int{0, 0, 0}},
	{"......", 6, []int{0}, 0, nil, []int{0, 0}, []int{0, 0, 0}},
	{"./././././.", 1, []int{0, 0, 0, 0, 0, 0}, 0, nil, []int{0, 0}, []int{0, 0, 0}},
	{emptyGrid, 6, []int{0, 0, 0, 0, 0, 0}, 0, nil, []int{0, 0}, []int{0, 0, 0}},
	// All places.
	{"######", 6, []int{63}, 6, []string{"######"}, []int{3, 3}, []int{2, 2, 2}},
	{"#/#/#/#/#/#", 1, []int{1, 1, 1, 1, 1, 1}, 6, []string{"#/#/#/#/#/#"}, []int{3, 3}, []int{2, 2, 2}},
	{"###/###/###", 3, []int{7, 7, 7}, 9, []string{"###/###/###"}, []int{5, 4}, []int{3, 3, 3}},
	{"####/####", 4, []int{15, 15}, 8, []string{"####/####"}, []int{4, 4}, []int{3, 3, 2}},
	{fullGrid, 6, []int{63, 63, 63, 63, 63, 63}, 36, []string{fullGrid}, []int{18, 18}, []int{12, 12, 12}},
	// Some of them.
	{"##./#.#", 3, []int{3, 5}, 4, []string{"##./#..", ".../..#"}, []int{1, 3}, []int{2, 2, 0}},
	{"#..", 3, []int{1}, 1, []string{"#.."}, []int{1, 0}, []int{1, 0, 0}},
	{"..#", 3, []int{4}, 1, []string{"..#"}, []int{1, 0}, []int{0, 0, 1}},
	{"..../...#/....", 4, []int{0, 8, 0}, 1, []string{"..../...#/...."}, []int{1, 0}, []int{0, 1, 0}},
	{"###/#.#/###", 3, []int{7, 5, 7}, 8, []string{"###/#.#/###"}, []int{4, 4}, []int{3, 3, 2}},
	// Parts that touch at a corner only.
	{"#./.#", 2, []int{1, 2}, 2, []string{"#./..", "../.#"}, []int{2, 0}, []int{1, 0, 1}},
	{".#/#.", 2, []int{2, 1}, 2, []string{".#/..", "../#."}, []int{0, 2}, []int{0, 2, 0}},
	{"##../##../..##/..##", 4, []int{3, 3, 12, 12}, 8, []string{"##../##../..../....", "..../..../..##/..##"}, []int{4, 4}, []int{2, 3, 3}},
	{
		"#.#/.#./#.#", 3, []int{5, 2, 5}, 5,
		[]string{"#../.../...", "..#/.../...", ".../.#./...", ".../.../#..", ".../.../..#"}, []int{5, 0}, []int{1, 1, 3},
	},
	// The end of a row has no side in common with the beginning of the next one, and no row with the first or last one.
	{"..#/#..", 3, []int{4, 1}, 2, []string{"..#/...", ".../#.."}, []int{1, 1}, []int{0, 1, 1}},
	{"#.#", 3, []int{5}, 2, []string{"#..", "..#"}, []int{2, 0}, []int{1, 0, 1}},
	{"#/./#", 1, []int{1, 0, 1}, 2, []string{"#/./.", "././#"}, []int{2, 0}, []int{1, 0, 1}},
	// Parts by their first cells, which are neither the leftmost ones nor those of the greater part.
	{"..#/#../##.", 3, []int{4, 1, 3}, 4, []string{"..#/.../...", ".../#../##."}, []int{2, 2}, []int{1, 1, 2}},
	{"#.#.#/#.###", 5, []int{21, 29}, 7, []string{"#..../#....", "..#.#/..###"}, []int{4, 3}, []int{2, 3, 2}},
	{"...#/##.#/...#", 4, []int{8, 11, 8}, 5, []string{"...#/...#/...#", "..../##../...."}, []int{2, 3}, []int{1, 2, 2}},
	// Cells that hang together only by a later row, and a way through all rows.
	{"#.#/#.#/###", 3, []int{5, 5, 7}, 7, []string{"#.#/#.#/###"}, []int{4, 3}, []int{3, 2, 2}},
	{
		"######/.....#/####.#/#..#.#/#....#/######", 6, []int{63, 32, 47, 41, 33, 63}, 23,
		[]string{"######/.....#/####.#/#..#.#/#....#/######"}, []int{12, 11}, []int{9, 7, 7},
	},
	// A part within another one.
	{
		"#####/#...#/#.#.#/#...#/#####", 5, []int{31, 17, 21, 17, 31}, 17,
		[]string{"#####/#...#/#...#/#...#/#####", "...../...../..#../...../....."}, []int{9, 8}, []int{5, 7, 5},
	},
}

// noRegions are those that are not valid, by the reason for it.
var noRegions = map[string]impl.Region{
	"zero value":                {},
	"no rows":                   {Width: 1},
	"no rows but a width":       {Width: 6, Rows: []int{}},
	"no width":                  {Rows: []int{0}},
	"no width but cells":        {Rows: []int{1, 1}},
	"too wide":                  {Width: 7, Rows: []int{0}},
	"too wide with cells":       {Width: 7, Rows: []int{127, 1}},
	"too high":                  {Width: 1, Rows: []int{0, 0, 0, 0, 0, 0, 0}},
	"too high with cells":       {Width: 6, Rows: []int{63, 63, 63, 63, 63, 63, 63}},
	"many rows":                 {Width: 3, Rows: slices.Repeat([]int{5}, 100)},
	"width negative":            {Width: -1, Rows: []int{0}},
	"width of a sum":            {Width: 64, Rows: []int{1}},
	"width less than a word":    {Width: 63, Rows: []int{1}},
	"width more than a word":    {Width: 65, Rows: []int{1}},
	"width far beyond":          {Width: 1<<32 + 2, Rows: []int{1}},
	"least width":               {Width: math.MinInt, Rows: []int{0}},
	"greatest width":            {Width: math.MaxInt, Rows: []int{0}},
	"row too great":             {Width: 1, Rows: []int{2}},
	"row a little too great":    {Width: 2, Rows: []int{4}},
	"row for a greater width":   {Width: 3, Rows: []int{7, 15}},
	"row too great at the end":  {Width: 6, Rows: []int{0, 1, 2, 3, 63, 64}},
	"first row too great":       {Width: 6, Rows: []int{64, 0}},
	"row in the middle":         {Width: 2, Rows: []int{3, 5, 3}},
	"row negative":              {Width: 2, Rows: []int{-1}},
	"later row negative":        {Width: 6, Rows: []int{3, -3, 3}},
	"least row":                 {Width: 1, Rows: []int{math.MinInt}},
	"greatest row":              {Width: 6, Rows: []int{1, math.MaxInt}},
	"row with a far bit":        {Width: 2, Rows: []int{1<<32 + 1}},
	"row with a sign and a bit": {Width: 2, Rows: []int{math.MinInt + 1}},
}

func TestRegionBounds(t *testing.T) {
	if impl.MaxSide != 6 {
		t.Error(impl.MaxSide)
	}
}

func TestRegionExamples(t *testing.T) {
	for _, c := range regionExamples {
		r := impl.Region{Width: c.width, Rows: c.rows}
		if got, ok := impl.ParseRegion(c.format); !ok || !sameRegion(got, r) {
			t.Errorf("ParseRegion(%q) = %v, %v", c.format, got, ok)
		}
		if !impl.IsRegion(r) {
			t.Errorf("IsRegion(%v) = false", r)
		}
		if got := impl.FormatRegion(r); got != c.format {
			t.Errorf("FormatRegion(%v) = %q, want %q", r, got, c.format)
		}
		if got := impl.AreaOf(r); got != c.area {
			t.Errorf("AreaOf(%v) = %d, want %d", r, got, c.area)
		}
		if got := impl.PartsOf(r); !sameRegions(got, c.parts) {
			t.Errorf("PartsOf of %s = %v, want %v", c.format, got, c.parts)
		}
		if got := impl.ColorCount(r, 1); !slices.Equal(got, []int{c.area}) {
			t.Errorf("ColorCount of %s for 1 = %v", c.format, got)
		}
		if got := impl.ColorCount(r, 2); !slices.Equal(got, c.two) {
			t.Errorf("ColorCount of %s for 2 = %v, want %v", c.format, got, c.two)
		}
		if got := impl.ColorCount(r, 3); !slices.Equal(got, c.three) {
			t.Errorf("ColorCount of %s for 3 = %v, want %v", c.format, got, c.three)
		}
	}
}

// TestIsRegion has each number of rows with each number in the last one of them.
func TestIsRegion(t *testing.T) {
	greatest := map[int]int{1: 1, 2: 3, 3: 7, 4: 15, 5: 31, 6: 63}
	for width := -70; width <= 70; width++ {
		most, isWidth := greatest[width]
		for height := range 10 {
			for number := -70; number <= 140; number++ {
				r := impl.Region{Width: width, Rows: make([]int, height)}
				want := isWidth && 1 <= height && height <= 6
				if height > 0 {
					r.Rows[height-1] = number
					want = want && 0 <= number && number <= most
				}
				if got := impl.IsRegion(r); got != want {
					t.Fatalf("IsRegion(%v) = %v", r, got)
				}
			}
		}
	}
	for why, r := range noRegions {
		if impl.IsRegion(r) {
			t.Errorf("%s: IsRegion(%v) = true", why, r)
		}
	}
}

// TestIsRegionLooksAtAllRows puts a number that is too great, or negative, in each row.
func TestIsRegionLooksAtAllRows(t *testing.T) {
	for width := 1; width <= 6; width++ {
		for height := 1; height <= 6; height++ {
			full := slices.Repeat([]int{1<<width - 1}, height)
			if !impl.IsRegion(impl.Region{Width: width, Rows: full}) {
				t.Errorf("%d by %d is no region", width, height)
			}
			for y := range height {
				for _, number := range []int{1 << width, -1, 1 << 62, math.MinInt} {
					rows := slices.Clone(full)
					rows[y] = number
					if impl.IsRegion(impl.Region{Width: width, Rows: rows}) {
						t.Errorf("%d, %v is a region", width, rows)
					}
				}
			}
		}
	}
}

func TestRectangleOf(t *testing.T) {
	sides := []int{math.MinInt, -1 << 32, math.MaxInt, 1<<32 + 1, 62, 63, 64, 65}
	for n := -9; n <= 9; n++ {
		sides = append(sides, n)
	}
	isSide := func(n int) bool { return 1 <= n && n <= 6 }
	for _, w := range sides {
		for _, h := range sides {
			want, valid := impl.Region{}, isSide(w) && isSide(h)
			if valid {
				row := strings.Repeat("#", w)
				want = regionOf(row + strings.Repeat("/"+row, h-1))
			}
			if got, ok := impl.RectangleOf(w, h); ok != valid || !sameRegion(got, want) {
				t.Errorf("RectangleOf(%d, %d) = %v, %v", w, h, got, ok)
			}
		}
	}
}

func TestInRegion(t *testing.T) {
	for _, d := range regionDrawings() {
		r := regionOf(d)
		for y := -2; y <= 8; y++ {
			for x := -2; x <= 8; x++ {
				if got := impl.InRegion(r, x, y); got != isDrawn(d, x, y) {
					t.Fatalf("InRegion of %s at %d, %d = %v", d, x, y, got)
				}
			}
		}
	}
	far := []int{math.MinInt, math.MinInt + 1, -1 << 32, -64, -6, -1, 6, 7, 31, 32, 63, 64, 1 << 32, math.MaxInt - 1, math.MaxInt}
	full := regionOf(fullGrid)
	for _, a := range far {
		for b := range 6 {
			if impl.InRegion(full, a, b) || impl.InRegion(full, b, a) {
				t.Errorf("%d and %d are a cell", a, b)
			}
		}
		for _, b := range far {
			if impl.InRegion(full, a, b) {
				t.Errorf("%d, %d is a cell", a, b)
			}
		}
	}
	// The rows have bits here, but not for places of the grid.
	for why, r := range noRegions {
		for y := -1; y <= 7; y++ {
			for x := -1; x <= 7; x++ {
				if impl.InRegion(r, x, y) {
					t.Errorf("%s: InRegion(%v, %d, %d) = true", why, r, x, y)
				}
			}
		}
	}
}

func TestAreaAndCells(t *testing.T) {
	for _, d := range regionDrawings() {
		r := regionOf(d)
		if got := impl.AreaOf(r); got != strings.Count(d, "#") {
			t.Fatalf("AreaOf of %s = %d", d, got)
		}
		if got := impl.CellsOf(r); !slices.Equal(got, drawnCells(d)) {
			t.Fatalf("CellsOf of %s = %v", d, got)
		}
	}
}

// TestRegionOfShape draws each shape that the earlier chapters are tested with.
func TestRegionOfShape(t *testing.T) {
	shapes := append(motionShapes(), outlineShapes(t)...)
	for _, s := range shapes {
		checkRegionOfShape(t, s)
	}
}

func checkRegionOfShape(t *testing.T, s []impl.Cell) {
	t.Helper()
	left, right, top, bottom := 9, -1, 9, -1
	for _, c := range s {
		left, right = min(left, c.X), max(right, c.X)
		top, bottom = min(top, c.Y), max(bottom, c.Y)
	}
	w, h := right-left+1, bottom-top+1
	want, valid := impl.Region{}, w <= 6 && h <= 6
	if valid {
		var cells []impl.Cell
		for _, c := range s {
			cells = append(cells, impl.Cell{X: c.X - left, Y: c.Y - top})
		}
		want = regionOf(drawnOf(cells, w, h))
	}
	if got, ok := impl.RegionOfShape(s); ok != valid || !sameRegion(got, want) {
		t.Fatalf("RegionOfShape(%v) = %v, %v, want %v", s, got, ok, want)
	}
}

// TestRegionOfTwoCells has all sizes of shapes, of which the last two are too large.
func TestRegionOfTwoCells(t *testing.T) {
	for b := range 64 {
		for a := range b {
			checkRegionOfShape(t, cellsOf(a%8, a/8, b%8, b/8))
		}
	}
}

func TestRegionOfShapeExamples(t *testing.T) {
	for _, c := range []struct {
		s    []impl.Cell
		want string
	}{
		{cellsOf(0, 0), "#"},
		{cellsOf(7, 7), "#"},
		{shapeOf(t, "###/.#"), "###/.#."},
		{shapeOf(t, "##/#"), "##/#."},
		{shapeOf(t, "###/#.#/###"), "###/#.#/###"},
		{shapeOf(t, "#//#"), "#/./#"},
		{shapeOf(t, "######"), "######"},
		{shapeOf(t, "#/#/#/#/#/#"), "#/#/#/#/#/#"},
		{shapeOf(t, "#/////.....#"), "#...../....../....../....../....../.....#"},
		{shapeOf(t, ".....#/////#"), ".....#/....../....../....../....../#....."},
		{cellsOf(2, 2, 7, 7), "#...../....../....../....../....../.....#"},
		{cellsOf(7, 2, 2, 7), ".....#/....../....../....../....../#....."},
		{shapeOf(t, "#######"), ""},
		{shapeOf(t, "#.....#"), ""},
		{shapeOf(t, "#/#/#/#/#/#/#"), ""},
		{shapeOf(t, "#//////#"), ""},
		{shapeOf(t, "#//////......#"), ""},
		{shapeOf(t, "#///////.......#"), ""},
		{shapeOf(t, "########"), ""},
	} {
		got, ok := impl.RegionOfShape(c.s)
		if c.want == "" {
			if ok || !sameRegion(got, impl.Region{}) {
				t.Errorf("RegionOfShape(%v) = %v, %v", c.s, got, ok)
			}
		} else if !ok || !sameRegion(got, regionOf(c.want)) {
			t.Errorf("RegionOfShape(%v) = %v, %v, want %s", c.s, got, ok, c.want)
		}
	}
	for why, s := range noShapes {
		if got, ok := impl.RegionOfShape(s); ok || !sameRegion(got, impl.Region{}) {
			t.Errorf("%s: RegionOfShape(%v) = %v, %v", why, s, got, ok)
		}
	}
}

// TestRegionsThatAreShapes goes from a region to its cells and back, if it has a cell at each border.
func TestRegionsThatAreShapes(t *testing.T) {
	for _, d := range smallDrawings() {
		r := regionOf(d)
		cells := impl.CellsOf(r)
		w, h := impl.SizeOf(cells)
		got, ok := impl.RegionOfShape(cells)
		if ok != impl.IsShape(cells) {
			t.Fatalf("RegionOfShape(%v) = %v, %v", cells, got, ok)
		}
		if ok && w == r.Width && h == len(r.Rows) && impl.FormatRegion(got) != d {
			t.Fatalf("RegionOfShape(%v) = %v", cells, got)
		}
	}
}

func TestRemoveCell(t *testing.T) {
	for _, d := range regionDrawings() {
		r := regionOf(d)
		for y := -1; y <= len(r.Rows); y++ {
			for x := -1; x <= r.Width; x++ {
				want, valid := d, isDrawn(d, x, y)
				if valid {
					i := y*(r.Width+1) + x
					want = d[:i] + "." + d[i+1:]
				}
				if got, ok := impl.RemoveCell(r, x, y); ok != valid || !sameRegion(got, regionOf(want)) {
					t.Fatalf("RemoveCell of %s at %d, %d = %v, %v", d, x, y, got, ok)
				}
			}
		}
		if impl.FormatRegion(r) != d {
			t.Fatalf("%s became %v", d, r)
		}
	}
}

// TestRemoveCellThatIsNotThere returns the region, even one that is not valid.
func TestRemoveCellThatIsNotThere(t *testing.T) {
	numbers := []int{math.MinInt, -64, -1, 0, 1, 5, 6, 7, 63, 64, 99, 100, 1 << 32, math.MaxInt}
	for why, r := range noRegions {
		for _, x := range numbers {
			for _, y := range numbers {
				if got, ok := impl.RemoveCell(r, x, y); ok || !sameRegion(got, r) {
					t.Errorf("%s: RemoveCell(%v, %d, %d) = %v, %v", why, r, x, y, got, ok)
				}
			}
		}
	}
	full := regionOf(fullGrid)
	for _, x := range numbers {
		for _, y := range numbers {
			inGrid := 0 <= x && x < 6 && 0 <= y && y < 6
			if got, ok := impl.RemoveCell(full, x, y); ok != inGrid || sameRegion(got, full) == inGrid {
				t.Errorf("RemoveCell(%v, %d, %d) = %v, %v", full, x, y, got, ok)
			}
		}
	}
}

// TestRemoveAllCells takes one cell after the other, which is not there a second time.
func TestRemoveAllCells(t *testing.T) {
	for _, d := range []string{fullGrid, "#", "#.#/.#./#.#", "######"} {
		r := regionOf(d)
		for i, c := range drawnCells(d) {
			smaller, ok := impl.RemoveCell(r, c.X, c.Y)
			if !ok || impl.InRegion(smaller, c.X, c.Y) || impl.AreaOf(smaller) != strings.Count(d, "#")-i-1 {
				t.Errorf("RemoveCell(%v, %d, %d) = %v, %v", r, c.X, c.Y, smaller, ok)
			}
			if again, ok := impl.RemoveCell(smaller, c.X, c.Y); ok || !sameRegion(again, smaller) {
				t.Errorf("RemoveCell(%v, %d, %d) = %v, %v", smaller, c.X, c.Y, again, ok)
			}
			r = smaller
		}
		if !impl.IsRegion(r) || impl.AreaOf(r) != 0 || len(impl.PartsOf(r)) > 0 {
			t.Errorf("%v has cells left", r)
		}
	}
}

func TestPartsOf(t *testing.T) {
	for _, d := range regionDrawings() {
		if got, want := impl.PartsOf(regionOf(d)), partsOf(d); !sameRegions(got, want) {
			t.Fatalf("PartsOf of %s = %v, want %v", d, got, want)
		}
	}
}

// TestMostParts has cells that touch each other at corners only, each of which is a part.
func TestMostParts(t *testing.T) {
	board := "#.#.#./.#.#.#/#.#.#./.#.#.#/#.#.#./.#.#.#"
	got := impl.PartsOf(regionOf(board))
	cells := drawnCells(board)
	if len(got) != 18 || len(cells) != 18 {
		t.Fatalf("PartsOf of %s = %v", board, got)
	}
	for i, c := range cells {
		if !sameRegion(got[i], regionOf(drawnOf([]impl.Cell{c}, 6, 6))) {
			t.Errorf("part %d is %v", i, got[i])
		}
	}
}

// TestPartsAreAllCells has each cell in one part, by the first cells of the parts, and no part with parts of its own.
func TestPartsAreAllCells(t *testing.T) {
	for _, d := range regionDrawings() {
		var cells, firsts []impl.Cell
		for _, part := range impl.PartsOf(regionOf(d)) {
			own := impl.CellsOf(part)
			if len(own) == 0 || len(impl.PartsOf(part)) != 1 {
				t.Fatalf("a part of %s is %v", d, part)
			}
			cells = append(cells, own...)
			firsts = append(firsts, own[0])
		}
		if !slices.Equal(impl.SortCells(cells), drawnCells(d)) || len(cells) != strings.Count(d, "#") {
			t.Fatalf("the parts of %s have the cells %v", d, cells)
		}
		if !slices.Equal(impl.SortCells(firsts), firsts) {
			t.Fatalf("the parts of %s begin with %v", d, firsts)
		}
	}
}

// TestPartsOfShapes has one part for each shape that hangs together, and for no other one.
func TestPartsOfShapes(t *testing.T) {
	for _, s := range outlineShapes(t) {
		if r, ok := impl.RegionOfShape(s); ok && (len(impl.PartsOf(r)) == 1) != hangsTogether(s) {
			t.Fatalf("PartsOf(%v) = %v", r, impl.PartsOf(r))
		}
	}
}

func TestColorCount(t *testing.T) {
	for _, d := range regionDrawings() {
		r := regionOf(d)
		for k := -2; k <= 9; k++ {
			var want []int
			for color := 0; color < k && k <= 6; color++ {
				count := 0
				for _, c := range drawnCells(d) {
					if (c.X+c.Y-color)%k == 0 {
						count++
					}
				}
				want = append(want, count)
			}
			if got := impl.ColorCount(r, k); !slices.Equal(got, want) {
				t.Fatalf("ColorCount of %s for %d = %v, want %v", d, k, got, want)
			}
		}
		for _, k := range []int{math.MinInt, math.MinInt + 1, -1 << 32, 64, 1 << 32, 1<<32 + 1, math.MaxInt} {
			if got := impl.ColorCount(r, k); len(got) > 0 {
				t.Fatalf("ColorCount of %s for %d = %v", d, k, got)
			}
		}
	}
}

func TestColorsOfTheFullGrid(t *testing.T) {
	for k, want := range map[int][]int{
		1: {36},
		2: {18, 18},
		3: {12, 12, 12},
		4: {9, 10, 9, 8},
		5: {8, 7, 7, 7, 7},
		6: {6, 6, 6, 6, 6, 6},
	} {
		if got := impl.ColorCount(regionOf(fullGrid), k); !slices.Equal(got, want) {
			t.Errorf("for %d: %v, want %v", k, got, want)
		}
		if got := impl.ColorCount(regionOf(emptyGrid), k); !slices.Equal(got, make([]int, k)) {
			t.Errorf("without cells for %d: %v", k, got)
		}
	}
}

// TestFormatAndParseRegion finds each region by its format, which no other region has.
func TestFormatAndParseRegion(t *testing.T) {
	formats := map[string]bool{}
	for _, d := range regionDrawings() {
		r := regionOf(d)
		format := impl.FormatRegion(r)
		if format != d {
			t.Fatalf("FormatRegion(%v) = %q, want %q", r, format, d)
		}
		if got, ok := impl.ParseRegion(d); !ok || !sameRegion(got, r) {
			t.Fatalf("ParseRegion(%q) = %v, %v", d, got, ok)
		}
		formats[d] = true
	}
	for _, s := range stringsOver("#./", 10) {
		rows := strings.Split(s, "/")
		valid := len(rows) <= 6
		for _, row := range rows {
			valid = valid && len(row) == len(rows[0]) && 1 <= len(row) && len(row) <= 6
		}
		want := impl.Region{}
		if valid {
			want = regionOf(s)
		}
		if got, ok := impl.ParseRegion(s); ok != valid || !sameRegion(got, want) {
			t.Fatalf("ParseRegion(%q) = %v, %v, want %v, %v", s, got, ok, want, valid)
		}
		if len(s) <= 4 && formats[s] != valid {
			t.Fatalf("%q is missing among the regions", s)
		}
	}
	for _, s := range stringsOver(allBytes(), 2) {
		_, valid := map[string]bool{"#": true, ".": true, "##": true, "#.": true, ".#": true, "..": true}[s]
		if got, ok := impl.ParseRegion(s); ok != valid || !valid && !sameRegion(got, impl.Region{}) {
			t.Fatalf("ParseRegion(%q) = %v, %v", s, got, ok)
		}
	}
}

func TestParseRegionRejects(t *testing.T) {
	for _, s := range []string{
		"", "/", "//", "#/", "/#", "./", "/.", "#//#", "##/##/", "/##/##", "##//##", "/////",
		"##/#", "#/##", "##/.", "./##", "###/##/###", "##/###/##", "###/###/##", "##/##/###",
		"#######", ".......", "........", "#######/#######", "......./......", "####### ", "######/#######",
		"#/#/#/#/#/#/#", "./././././././.", fullGrid + "/######", fullGrid + "/", fullGrid + "#", "/" + fullGrid, fullGrid + ".",
		"#x", "x", "##x/###", "###/x##", "#X", "*", "# ", " ", "#\n", "##\n##", "\n", "#\\#", "#|#", "#,#", "0", "1", "01/10",
		"\x00", "#\x00", "\x00\x00/##", "\xff", "#\xff", "##/#\xff", "#\u00e9", "\u00e9#/###", "\uff03", "#\u2044#", "##\u2215##", "\u2026",
		strings.Repeat("#", 64), strings.Repeat(".", 65), strings.Repeat("#", 1000), strings.Repeat("#/", 1000) + "#", strings.Repeat("/", 1000),
		strings.Repeat("#", 257), "#" + strings.Repeat(".", 256), strings.Repeat(fullGrid+"/", 40) + fullGrid,
	} {
		if got, ok := impl.ParseRegion(s); ok || !sameRegion(got, impl.Region{}) {
			t.Errorf("ParseRegion(%q) = %v, %v", s, got, ok)
		}
	}
}

// TestParseRegionOneByteOff changes each byte of some formats, leaves it out and doubles it.
func TestParseRegionOneByteOff(t *testing.T) {
	for _, c := range regionExamples {
		for i := range len(c.format) {
			before, after := c.format[:i], c.format[i+1:]
			for _, middle := range []string{"", "#", ".", "/", "x", "##", "#.", "./", "//", "\x00", "\xff"} {
				s := before + middle + after
				rows := strings.Split(s, "/")
				valid := strings.Trim(s, "#./") == "" && len(rows) <= 6
				for _, row := range rows {
					valid = valid && len(row) == len(rows[0]) && 1 <= len(row) && len(row) <= 6 && strings.Trim(row, "#.") == ""
				}
				got, ok := impl.ParseRegion(s)
				if ok != valid || !ok && !sameRegion(got, impl.Region{}) || ok && !sameRegion(got, regionOf(s)) {
					t.Fatalf("ParseRegion(%q) = %v, %v", s, got, ok)
				}
			}
		}
	}
}

func TestNoRegions(t *testing.T) {
	for why, r := range noRegions {
		if got := impl.AreaOf(r); got != -1 {
			t.Errorf("%s: AreaOf(%v) = %d", why, r, got)
		}
		if got := impl.CellsOf(r); len(got) > 0 {
			t.Errorf("%s: CellsOf(%v) = %v", why, r, got)
		}
		if got := impl.PartsOf(r); len(got) > 0 {
			t.Errorf("%s: PartsOf(%v) = %v", why, r, got)
		}
		for k := -1; k <= 7; k++ {
			if got := impl.ColorCount(r, k); len(got) > 0 {
				t.Errorf("%s: ColorCount(%v, %d) = %v", why, r, k, got)
			}
		}
		if got := impl.FormatRegion(r); got != "" {
			t.Errorf("%s: FormatRegion(%v) = %q", why, r, got)
		}
	}
}

// TestEqualRegions compares each region of a list with all of them, such as are not valid included.
func TestEqualRegions(t *testing.T) {
	var regions []impl.Region
	for width := -1; width <= 3; width++ {
		for a := -1; a <= 4; a++ {
			regions = append(regions, impl.Region{Width: width, Rows: []int{a}})
			for b := -1; b <= 4; b++ {
				regions = append(regions, impl.Region{Width: width, Rows: []int{a, b}})
			}
		}
		regions = append(regions, impl.Region{Width: width})
	}
	regions = append(regions,
		impl.Region{Width: 7, Rows: []int{1}},
		impl.Region{Width: math.MinInt, Rows: []int{1}},
		impl.Region{Width: math.MaxInt, Rows: []int{1}},
		impl.Region{Width: 1, Rows: []int{math.MinInt}},
		impl.Region{Width: 1, Rows: []int{math.MaxInt}},
		impl.Region{Width: 1, Rows: make([]int, 7)},
		impl.Region{Width: 1, Rows: make([]int, 8)},
		impl.Region{Width: 1, Rows: append(make([]int, 7), 1)},
		regionOf(fullGrid), regionOf(emptyGrid),
	)
	for i, a := range regions {
		for j, b := range regions {
			if got := impl.EqualRegions(a, impl.Region{Width: b.Width, Rows: slices.Clone(b.Rows)}); got != (i == j) {
				t.Errorf("EqualRegions(%v, %v) = %v", a, b, got)
			}
		}
	}
	none, empty := impl.Region{Width: 2}, impl.Region{Width: 2, Rows: []int{}}
	if !impl.EqualRegions(none, empty) || !impl.EqualRegions(empty, none) || !impl.EqualRegions(impl.Region{}, impl.Region{Rows: []int{}}) {
		t.Error("no rows and an empty list of rows differ")
	}
}

// TestEqualRegionsOfSmallGrids has regions with the same cells in grids of different sizes.
func TestEqualRegionsOfSmallGrids(t *testing.T) {
	var drawings []string
	for _, d := range smallDrawings() {
		if len(d) <= 7 {
			drawings = append(drawings, d)
		}
	}
	for _, a := range drawings {
		for _, b := range drawings {
			if got := impl.EqualRegions(regionOf(a), regionOf(b)); got != (a == b) {
				t.Fatalf("EqualRegions of %s and %s = %v", a, b, got)
			}
		}
	}
}

// overwriteRows writes to the unused capacity too.
func overwriteRows(rows []int) {
	rows = rows[:cap(rows)]
	for i := range rows {
		rows[i] = -77
	}
}

// TestRegionArguments calls each function with a part of a longer list of rows, which has to stay as it is, and writes to the results.
func TestRegionArguments(t *testing.T) {
	var regions []impl.Region
	for _, c := range regionExamples {
		regions = append(regions, regionOf(c.format))
	}
	for _, r := range noRegions {
		regions = append(regions, r)
	}
	for _, from := range regions {
		whole := append(slices.Clone(from.Rows), 1, 1, 0, -5, 99)
		before := slices.Clone(whole)
		r := impl.Region{Width: from.Width, Rows: whole[:len(from.Rows)]}
		for y := -1; y <= len(r.Rows); y++ {
			for x := -1; x <= 7; x++ {
				impl.InRegion(r, x, y)
				smaller, _ := impl.RemoveCell(r, x, y)
				overwriteRows(smaller.Rows)
			}
		}
		for _, part := range impl.PartsOf(r) {
			overwriteRows(part.Rows)
		}
		overwrite(impl.CellsOf(r), impl.Cell{X: -77, Y: -78})
		impl.IsRegion(r)
		impl.AreaOf(r)
		impl.ColorCount(r, 3)
		impl.FormatRegion(r)
		impl.EqualRegions(r, r)
		if !slices.Equal(whole, before) {
			t.Errorf("%v became %v", before, whole)
		}
	}
}

// TestPartsShareNoMemory writes to each part, which may not be seen in the other ones.
func TestPartsShareNoMemory(t *testing.T) {
	for _, c := range regionExamples {
		for i := range c.parts {
			parts := impl.PartsOf(regionOf(c.format))
			overwriteRows(parts[i].Rows)
			for j, part := range parts {
				if j != i && !sameRegion(part, regionOf(c.parts[j])) {
					t.Errorf("part %d of %s is %v after a change of part %d", j, c.format, part, i)
				}
			}
		}
	}
}

// TestRegionResults checks that each call has a result of its own.
func TestRegionResults(t *testing.T) {
	s := shapeOf(t, "###/.#")
	for _, call := range []func() impl.Region{
		func() impl.Region { r, _ := impl.RectangleOf(3, 2); return r },
		func() impl.Region { r, _ := impl.RegionOfShape(s); return r },
		func() impl.Region { r, _ := impl.ParseRegion("##./#.#"); return r },
	} {
		first := call()
		format := impl.FormatRegion(first)
		overwriteRows(first.Rows)
		if second := call(); impl.FormatRegion(second) != format {
			t.Errorf("%s became %v", format, second)
		}
	}
	if !slices.Equal(s, cellsOf(0, 0, 1, 0, 2, 0, 1, 1)) {
		t.Errorf("the shape became %v", s)
	}
}
