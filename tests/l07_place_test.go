package tests

import (
	"math"
	"math/bits"
	"slices"
	"strings"
	"testing"

	"loop.example/g03400/impl"
)

// maskOf reads a drawing without its slashes, where place i is bit i.
func maskOf(drawing string) int {
	mask, bit := 0, 1
	for _, place := range strings.ReplaceAll(drawing, "/", "") {
		if place == '#' {
			mask += bit
		}
		bit *= 2
	}
	return mask
}

// maskDrawn draws a mask in a grid of w columns and h rows.
func maskDrawn(mask int, w int, h int) string {
	rows := make([]string, h)
	for y := range rows {
		for x := range w {
			rows[y] += string(".#"[mask>>(y*w+x)&1])
		}
	}
	return strings.Join(rows, "/")
}

func sortedMasks(masks map[int]bool) []int {
	var out []int
	for mask := range masks {
		out = append(out, mask)
	}
	slices.Sort(out)
	return out
}

// placementsOf moves each result of a motion to all places, also outside of the grid, and looks at each of its cells in the drawing.
func placementsOf(drawing string, pieces ...[]impl.Cell) []int {
	w := strings.IndexByte(drawing+"/", '/')
	masks := map[int]bool{}
	for _, s := range pieces {
		for m := range 8 {
			result := turned(s, m)
			for move := range 64 {
				mask, fits := 0, true
				for _, c := range result {
					x, y := c.X+move%8-1, c.Y+move/8-1
					if fits = fits && isDrawn(drawing, x, y); fits {
						mask += 1 << (y*w + x)
					}
				}
				if fits {
					masks[mask] = true
				}
			}
		}
	}
	return sortedMasks(masks)
}

// congruentMasks looks at all sets of places of a small grid for those of cells that some motion makes of a shape.
func congruentMasks(drawing string, s []impl.Cell) []int {
	r := regionOf(drawing)
	var results [][]impl.Cell
	for m := range 8 {
		results = append(results, turned(s, m))
	}
	var out []int
	for mask := range maskOf(drawing) + 1 {
		if bits.OnesCount(uint(mask)) == len(s) && mask&maskOf(drawing) == mask {
			cells := drawn(drawnCells(maskDrawn(mask, r.Width, len(r.Rows))))
			if containsShape(results, cells) {
				out = append(out, mask)
			}
		}
	}
	return out
}

func piecesOf(t *testing.T, formats string) [][]impl.Cell {
	t.Helper()
	var out [][]impl.Cell
	for _, format := range strings.Fields(formats) {
		out = append(out, shapeOf(t, format))
	}
	return out
}

// everyRegion has the drawings of the region tests, of which those of great grids are fewer.
func everyRegion() []string {
	out := append(smallDrawings(), greatDrawings()[:150]...)
	for _, c := range regionExamples {
		out = append(out, c.format)
	}
	return out
}

// placeRegions are regions that differ in their grids, and in how much of them are cells.
func placeRegions() []string {
	out := append(drawingsIn(3, 2), drawingsIn(1, 4)...)
	for i, d := range greatDrawings() {
		if i%40 == 0 {
			out = append(out, d)
		}
	}
	for _, c := range regionExamples {
		out = append(out, c.format)
	}
	return append(out, "###/###/###", "####/####/####", "#####/#####", "##/##/##/##/##/##", "######/######", "###./####/.###", "####/#..#/#..#/####")
}

// placeShapes are the pieces with names, those at the bounds, and others that do not hang together.
func placeShapes(t *testing.T) [][]impl.Cell {
	out := piecesOf(t, "# #.# #/.# ##/.## #.##/.#/## ##.#/..##/#")
	for _, p := range namedPieces {
		out = append(out, p.cells)
	}
	for _, c := range someShapes {
		out = append(out, c.cells)
	}
	return out
}

// placeExamples are counted by hand.
var placeExamples = []struct {
	region, shape string
	want          []int
}{
	// One place.
	{"#", "#", []int{1}},
	{"#", "##", nil},
	{"#", "#/.#", nil},
	{"#", "########", nil},
	{".", "#", nil},
	// The same shape lying and upright.
	{"##", "##", []int{3}},
	{"#/#", "##", []int{3}},
	{"##/##", "##", []int{3, 5, 10, 12}},
	{"##/##", "#/#", []int{3, 5, 10, 12}},
	{"##/##", "##/#", []int{7, 11, 13, 14}},
	{"##/##", "#/.#", []int{6, 9}},
	{"##/##", "##/##", []int{15}},
	{"##/##", "#", []int{1, 2, 4, 8}},
	{"######", "##", []int{3, 6, 12, 24, 48}},
	{"#/#/#/#/#/#", "##", []int{3, 6, 12, 24, 48}},
	// The end of a row has no side in common with the beginning of the next one.
	{"###/###", "##", []int{3, 6, 9, 18, 24, 36, 48}},
	{"..#/#..", "##", nil},
	{"..#/#..", "..#/#", []int{12}},
	{"#..#/#..#", "##", []int{17, 136}},
	{".##/#..", "###", nil},
	{"######/######", "####", []int{15, 30, 60, 960, 1920, 3840}},
	// Shapes that fit in some of their orientations only.
	{"####", "####", []int{15}},
	{"#/#/#/#", "####", []int{15}},
	{"##/##/##/##", "###", []int{21, 42, 84, 168}},
	{"##/##/##/##", "####", []int{85, 170}},
	{"###/###", "###/#", []int{15, 39, 57, 60}},
	{"##/##/##", "###/#", []int{23, 43, 53, 58}},
	{"###/###", ".##/##", []int{30, 51}},
	{"##/##/##", ".##/##", []int{30, 45}},
	{"##/##", "###", nil},
	{"##/##", "#.#", nil},
	{"#.#", "#.#", []int{5}},
	{"#./../#.", "#.#", []int{17}},
	// Shapes that fit in none.
	{"######/######/######", "####///#", nil},
	{"######/######", ".#/###/.#", nil},
	{"##/##", "##/##/#", nil},
	// Placements that would cover a place that is no cell.
	{"#.#", "##", nil},
	{"##./#.#", "#", []int{1, 2, 8, 32}},
	{"##./#.#", "##", []int{3, 9}},
	{"##./#.#", "##/#", []int{11}},
	{"##./#.#", "#/.#", []int{10, 34}},
	{"##./#.#", "##/##", nil},
	{"###/#.#/###", "##/##", nil},
	{"###/#.#/###", "###/#.#/###", []int{495}},
	{"###/###/###", "###/#.#/###", []int{495}},
	{"###/###/###", ".#/###/.#", []int{186}},
	{".#./###/.#.", ".#/###/.#", []int{186}},
	{"##./###/.#.", ".#/###/.#", []int{186}},
	{"#.#/###/.#.", ".#/###/.#", nil},
	{"###/##./#..", "##/##", []int{27}},
	{"...", "#", nil},
	{emptyGrid, "#", nil},
	{"...../...../..#../...../.....", "#", []int{4096}},
	{"...../...../..#../...../.....", "##", nil},
	// The greatest grid.
	{fullGrid, "#/////.....#", []int{1<<5 | 1<<30, 1 | 1<<35}},
	{fullGrid, "#.....#", nil},
	{fullGrid, "#######", nil},
	{fullGrid, "########", nil},
	{fullGrid, "#//////#", nil},
	{fullGrid, "#///////.......#", nil},
	{"....../....../....../....../....../.....#", "#", []int{1 << 35}},
	{"....../....../....../....../.....#/....##", "##/#", []int{1<<29 | 1<<34 | 1<<35}},
	{"######/....../....../....../....../######", "######", []int{63, 63 << 30}},
}

func TestPlaceExamples(t *testing.T) {
	for _, c := range placeExamples {
		r, s := regionOf(c.region), shapeOf(t, c.shape)
		if got := impl.PlacementsOf(r, s); !slices.Equal(got, c.want) {
			t.Errorf("PlacementsOf of %s in %s = %v, want %v", c.shape, c.region, got, c.want)
		}
		if got := impl.AllPlacements(r, [][]impl.Cell{s}); !slices.Equal(got, c.want) {
			t.Errorf("AllPlacements of %s in %s = %v, want %v", c.shape, c.region, got, c.want)
		}
	}
}

// allExamples are counted by hand too.
var allExamples = []struct {
	region, pieces string
	want           []int
}{
	{"##/##", "## #", []int{1, 2, 3, 4, 5, 8, 10, 12}},
	{"##/##", "# ##", []int{1, 2, 3, 4, 5, 8, 10, 12}},
	{"##/##", "##/## ##/#", []int{7, 11, 13, 14, 15}},
	{"##./#.#", "##/# #/.# ##", []int{3, 9, 10, 11, 34}},
	// Pieces with equal placements, which come once.
	{"##/##", "## ##", []int{3, 5, 10, 12}},
	{"##/##", "## #/#", []int{3, 5, 10, 12}},
	{"##/##", "##/# .#/## ##/.# #/##", []int{7, 11, 13, 14}},
	{"###", "# # # # #", []int{1, 2, 4}},
	{"##/##", "# ## # ## ##/##", []int{1, 2, 3, 4, 5, 8, 10, 12, 15}},
	// Pieces of which some do not fit.
	{"##/##", "### ##/## ########", []int{15}},
	{"##/##", "### ####", nil},
	{"..", "# ##", nil},
	{"####", "# ## ### #### #####", []int{1, 2, 3, 4, 6, 7, 8, 12, 14, 15}},
}

func TestAllPlacementsExamples(t *testing.T) {
	for _, c := range allExamples {
		if got := impl.AllPlacements(regionOf(c.region), piecesOf(t, c.pieces)); !slices.Equal(got, c.want) {
			t.Errorf("AllPlacements of %s in %s = %v, want %v", c.pieces, c.region, got, c.want)
		}
	}
}

func TestMaskOf(t *testing.T) {
	for _, c := range []struct {
		drawing string
		want    int
	}{
		{"#", 1},
		{".", 0},
		{"##/##", 15},
		{"##./#.#", 43},
		{"./#", 2},
		{"..#", 4},
		{"../#.", 4},
		{"#/#/#/#/#/#", 63},
		{"###/#.#/###", 495},
		{emptyGrid, 0},
		{fullGrid, 68719476735},
		{"....../....../....../....../....../.....#", 34359738368},
	} {
		if got := impl.MaskOf(regionOf(c.drawing)); got != c.want {
			t.Errorf("MaskOf of %s = %d, want %d", c.drawing, got, c.want)
		}
	}
	for _, d := range regionDrawings() {
		if got, want := impl.MaskOf(regionOf(d)), maskOf(d); got != want {
			t.Fatalf("MaskOf of %s = %d, want %d", d, got, want)
		}
	}
}

// checkMask compares what is told of a mask with the drawing of its cells.
func checkMask(t *testing.T, d string, mask int) {
	t.Helper()
	r := regionOf(d)
	var want []impl.Cell
	if mask >= 0 && mask|maskOf(d) == maskOf(d) {
		want = drawnCells(maskDrawn(mask, r.Width, len(r.Rows)))
	}
	got := impl.CellsOfMask(r, mask)
	if !slices.Equal(got, want) {
		t.Fatalf("CellsOfMask of %s for %d = %v, want %v", d, mask, got, want)
	}
	x, y, ok := impl.FirstCell(r, mask)
	if len(want) == 0 {
		if x != 0 || y != 0 || ok {
			t.Fatalf("FirstCell of %s for %d = %d, %d, %v", d, mask, x, y, ok)
		}
		return
	}
	if x != want[0].X || y != want[0].Y || !ok {
		t.Fatalf("FirstCell of %s for %d = %d, %d, %v, want %v", d, mask, x, y, ok, want[0])
	}
	if back, ok := impl.MaskOfCells(r, got); back != mask || !ok {
		t.Fatalf("MaskOfCells of %s for %v = %d, %v, want %d", d, got, back, ok, mask)
	}
}

// farMasks have no bits, or bits that belong to no place of any grid.
var farMasks = []int{0, -1, -2, -64, math.MinInt, math.MinInt + 1, math.MinInt + 15, math.MaxInt, 1 << 36, 1<<36 + 1, 1 << 40, 1 << 62, 1<<62 + 1, -1 << 36, -1 << 35}

// TestMasksOfSmallGrids has all masks, and those with one bit more than the grid.
func TestMasksOfSmallGrids(t *testing.T) {
	for _, d := range smallDrawings() {
		if places := len(strings.ReplaceAll(d, "/", "")); places <= 6 {
			for mask := range 2 << places {
				checkMask(t, d, mask)
				checkMask(t, d, -mask)
			}
		}
	}
}

func TestMasks(t *testing.T) {
	for _, d := range everyRegion() {
		all := maskOf(d)
		r := regionOf(d)
		places := r.Width * len(r.Rows)
		for bit := range 64 {
			checkMask(t, d, 1<<bit)
			checkMask(t, d, all|1<<bit)
			checkMask(t, d, all&^(1<<bit))
		}
		for _, mask := range farMasks {
			checkMask(t, d, mask)
			checkMask(t, d, mask|all)
		}
		for mask := all; mask > 0; mask = (mask - 1) / 3 & all {
			checkMask(t, d, mask)
		}
		checkMask(t, d, 1<<places-1)
	}
}

func TestMaskExamples(t *testing.T) {
	for _, c := range []struct {
		region string
		mask   int
		want   []impl.Cell
	}{
		{"##/##", 6, cellsOf(1, 0, 0, 1)},
		{"##/##", 15, cellsOf(0, 0, 1, 0, 0, 1, 1, 1)},
		{"##/##", 12, cellsOf(0, 1, 1, 1)},
		{"##/##", 8, cellsOf(1, 1)},
		{"##/##", 0, nil},
		{"##/##", 16, nil},
		{"##/##", 17, nil},
		{"##/##", -1, nil},
		{"##/##", -16, nil},
		{"##/##", math.MinInt + 1, nil},
		{"#./.#", 9, cellsOf(0, 0, 1, 1)},
		{"#./.#", 2, nil},
		{"#./.#", 3, nil},
		{"#./.#", 15, nil},
		{"#", 1, cellsOf(0, 0)},
		{"#", 2, nil},
		{".", 1, nil},
		{".", 0, nil},
		{emptyGrid, 1, nil},
		{fullGrid, 1 << 35, cellsOf(5, 5)},
		{fullGrid, 1<<6 | 1<<5, cellsOf(5, 0, 0, 1)},
		{fullGrid, 1 << 36, nil},
		{fullGrid, 1<<36 | 1, nil},
	} {
		if got := impl.CellsOfMask(regionOf(c.region), c.mask); !slices.Equal(got, c.want) {
			t.Errorf("CellsOfMask of %s for %d = %v, want %v", c.region, c.mask, got, c.want)
		}
		checkMask(t, c.region, c.mask)
	}
}

// TestMaskOfLists has all lists of up to four places at a small grid and beside it, in any order.
func TestMaskOfLists(t *testing.T) {
	var places []impl.Cell
	for y := -1; y <= 2; y++ {
		for x := -1; x <= 2; x++ {
			places = append(places, impl.Cell{X: x, Y: y})
		}
	}
	for _, d := range []string{"##/##", "#./.#", "#", "#./##", "../.."} {
		for _, s := range listsOver(places, 3) {
			checkMaskOfCells(t, d, s)
		}
	}
	for _, s := range listsOver(cellsOf(0, 0, 1, 0, 2, 0, 0, 1, 2, 1), 5) {
		checkMaskOfCells(t, "##./#.#", s)
	}
}

func checkMaskOfCells(t *testing.T, d string, s []impl.Cell) {
	t.Helper()
	r := regionOf(d)
	want, valid := maskOf(drawnOf(s, r.Width, len(r.Rows))), true
	for i, c := range s {
		valid = valid && isDrawn(d, c.X, c.Y) && !slices.Contains(s[:i], c)
	}
	if !valid {
		want = 0
	}
	if got, ok := impl.MaskOfCells(r, s); got != want || ok != valid {
		t.Fatalf("MaskOfCells of %s for %v = %d, %v, want %d, %v", d, s, got, ok, want, valid)
	}
}

func TestMaskOfCellsExamples(t *testing.T) {
	all := drawnCells(fullGrid)
	backwards := slices.Clone(all)
	slices.Reverse(backwards)
	for _, c := range []struct {
		region string
		s      []impl.Cell
		want   int
		ok     bool
	}{
		{"##/##", cellsOf(0, 1, 1, 0), 6, true},
		{"##/##", cellsOf(1, 1, 0, 0, 1, 0), 11, true},
		{"##/##", nil, 0, true},
		{"##/##", []impl.Cell{}, 0, true},
		{"..", nil, 0, true},
		{"##/##", cellsOf(0, 0, 0, 0), 0, false},
		{"##/##", cellsOf(0, 0, 1, 0, 0, 0), 0, false},
		{"##/##", cellsOf(2, 0), 0, false},
		{"##/##", cellsOf(0, 0, 0, 2), 0, false},
		{"##/##", cellsOf(-1, 1), 0, false},
		{"##/##", cellsOf(2, -1), 0, false},
		{"##/##", cellsOf(0, 0, 1, -1), 0, false},
		{"#./##", cellsOf(0, 0, 1, 0), 0, false},
		{"#./##", cellsOf(1, 0), 0, false},
		{"..", cellsOf(0, 0), 0, false},
		{"##/##", cellsOf(math.MinInt, 0), 0, false},
		{"##/##", cellsOf(0, math.MinInt), 0, false},
		{"##/##", cellsOf(math.MaxInt, math.MaxInt), 0, false},
		{"##/##", cellsOf(0, 1<<62), 0, false},
		{"##/##", cellsOf(0, 1<<63-1), 0, false},
		{fullGrid, cellsOf(5, 5, 0, 0), 1<<35 | 1, true},
		// More cells than a shape can have.
		{fullGrid, all, 1<<36 - 1, true},
		{fullGrid, backwards, 1<<36 - 1, true},
		{fullGrid, append(slices.Clone(all), all[35]), 0, false},
		{fullGrid, append(slices.Clone(all), impl.Cell{X: 6, Y: 5}), 0, false},
	} {
		if got, ok := impl.MaskOfCells(regionOf(c.region), c.s); got != c.want || ok != c.ok {
			t.Errorf("MaskOfCells of %s for %v = %d, %v, want %d, %v", c.region, c.s, got, ok, c.want, c.ok)
		}
		checkMaskOfCells(t, c.region, c.s)
	}
}

func TestPlacements(t *testing.T) {
	regions := placeRegions()
	for _, s := range placeShapes(t) {
		for _, d := range regions {
			if got, want := impl.PlacementsOf(regionOf(d), s), placementsOf(d, s); !slices.Equal(got, want) {
				t.Fatalf("PlacementsOf(%s, %v) = %v, want %v", d, s, got, want)
			}
		}
	}
}

// TestPlacementsOfSmallShapes has all shapes of a small grid, also those that do not begin in its corner.
func TestPlacementsOfSmallShapes(t *testing.T) {
	for _, s := range shapesIn(3, 3) {
		for _, d := range []string{"###/###/###", "###/#.#/###", "##./###/.##", "####/####"} {
			if got, want := impl.PlacementsOf(regionOf(d), s), placementsOf(d, s); !slices.Equal(got, want) {
				t.Fatalf("PlacementsOf(%s, %v) = %v, want %v", d, s, got, want)
			}
		}
	}
}

// TestPlacementsAreTheCongruentMasks compares with all masks of small grids.
func TestPlacementsAreTheCongruentMasks(t *testing.T) {
	for _, s := range placeShapes(t) {
		for _, d := range []string{"###/###/###", "##./###/.##", "#####/##.##", "##/##/##/##/##", ".#/##/##/#."} {
			if got, want := impl.PlacementsOf(regionOf(d), s), congruentMasks(d, s); !slices.Equal(got, want) {
				t.Fatalf("PlacementsOf(%s, %v) = %v, want %v", d, s, got, want)
			}
		}
	}
}

// TestPlacementsAreCongruent is promise 6 as the exported functions tell it.
func TestPlacementsAreCongruent(t *testing.T) {
	found, regions := 0, placeRegions()
	for _, s := range placeShapes(t) {
		for _, d := range regions {
			r := regionOf(d)
			last := 0
			for _, mask := range impl.PlacementsOf(r, s) {
				cells := impl.CellsOfMask(r, mask)
				for _, c := range cells {
					if !impl.InRegion(r, c.X, c.Y) {
						t.Fatalf("a placement of %v in %s has %v", s, d, c)
					}
				}
				if !impl.IsCongruent(cells, s) || mask <= last {
					t.Fatalf("a placement of %v in %s after %d is %d with %v", s, d, last, mask, cells)
				}
				last = mask
				found++
			}
		}
	}
	if found < 10000 {
		t.Errorf("only %d placements", found)
	}
}

// TestNumbersOfPlacements counts the places that each orientation has in a rectangle.
func TestNumbersOfPlacements(t *testing.T) {
	for _, s := range placeShapes(t) {
		for h := 1; h <= 6; h++ {
			for w := 1; w <= 6; w++ {
				want := 0
				for _, o := range impl.OrientationsOf(s) {
					ow, oh := impl.SizeOf(o)
					want += max(0, w-ow+1) * max(0, h-oh+1)
				}
				r, _ := impl.RectangleOf(w, h)
				if got := len(impl.PlacementsOf(r, s)); got != want {
					t.Errorf("%v has %d placements in %d by %d, want %d", s, got, w, h, want)
				}
			}
		}
	}
}

// TestSymmetriesOfPlacements has shapes from eight symmetries down to one, each in a grid and in the greatest one.
func TestSymmetriesOfPlacements(t *testing.T) {
	for _, c := range []struct {
		shape             string
		symmetries        int
		w, h, small, full int
	}{
		{"#", 8, 2, 2, 4, 36},
		{"##/##", 8, 3, 3, 4, 25},
		{".#/###/.#", 8, 4, 3, 2, 16},
		{"##", 4, 2, 2, 4, 60},
		{"#####", 4, 5, 5, 10, 24},
		{".##/##", 2, 3, 3, 8, 80},
		{"###/.#", 2, 3, 3, 8, 80},
		{"#/##/.##", 2, 3, 3, 4, 64},
		{"###/#", 1, 3, 3, 16, 160},
		{"##/##/#", 1, 3, 2, 4, 160},
		{"#/##/.#/.#", 1, 4, 4, 24, 120},
	} {
		s := shapeOf(t, c.shape)
		if got := len(impl.SymmetriesOf(s)); got != c.symmetries {
			t.Errorf("%s has %d symmetries, want %d", c.shape, got, c.symmetries)
		}
		small, _ := impl.RectangleOf(c.w, c.h)
		if got := len(impl.PlacementsOf(small, s)); got != c.small {
			t.Errorf("%s has %d placements in %d by %d, want %d", c.shape, got, c.w, c.h, c.small)
		}
		if got := len(impl.PlacementsOf(regionOf(fullGrid), s)); got != c.full {
			t.Errorf("%s has %d placements in the greatest grid, want %d", c.shape, got, c.full)
		}
	}
}

// TestPlacementsOfOneCell has the masks of the single cells.
func TestPlacementsOfOneCell(t *testing.T) {
	for _, d := range everyRegion() {
		var want []int
		for bit := range 36 {
			if maskOf(d)>>bit&1 == 1 {
				want = append(want, 1<<bit)
			}
		}
		if got := impl.PlacementsOf(regionOf(d), cellsOf(0, 0)); !slices.Equal(got, want) {
			t.Fatalf("PlacementsOf of one cell in %s = %v", d, got)
		}
	}
}

// TestPlacementsDoNotDependOnThePlace turns and moves the shape to each place where it is one.
func TestPlacementsDoNotDependOnThePlace(t *testing.T) {
	for _, p := range namedPieces {
		for _, d := range []string{fullGrid, "####/#.##/####", "###/#.#/###"} {
			want := placementsOf(d, p.cells)
			for m := range 8 {
				s := turned(p.cells, m)
				for move := range 64 {
					moved, ok := impl.MoveShape(s, move%8, move/8)
					if got := impl.PlacementsOf(regionOf(d), moved); ok && !slices.Equal(got, want) {
						t.Fatalf("PlacementsOf(%s, %v) = %v, want %v", d, moved, got, want)
					}
				}
			}
		}
	}
}

// TestShapesTooLarge has shapes that no grid has room for, and those with room in the greatest one only.
func TestShapesTooLarge(t *testing.T) {
	for _, format := range []string{"#######", "########", "#.....#", "#......#", "#/#/#/#/#/#/#", "#/#/#/#/#/#/#/#", "#//////#", "#///////#", "#///////.......#", "#/......#", "......#/#", "#/#//////#", "##.....#"} {
		s := shapeOf(t, format)
		for h := 1; h <= 6; h++ {
			for w := 1; w <= 6; w++ {
				r, _ := impl.RectangleOf(w, h)
				if got := impl.PlacementsOf(r, s); len(got) > 0 {
					t.Errorf("PlacementsOf of %s in %d by %d = %v", format, w, h, got)
				}
				if got := impl.AllPlacements(r, [][]impl.Cell{s}); len(got) > 0 {
					t.Errorf("AllPlacements of %s in %d by %d = %v", format, w, h, got)
				}
				for y := range h {
					for x := range w {
						if got := impl.PlacementsAt(r, s, x, y); len(got) > 0 {
							t.Errorf("PlacementsAt of %s in %d by %d at %d, %d = %v", format, w, h, x, y, got)
						}
					}
				}
			}
		}
	}
	for _, format := range []string{"######", "#....#", "#/////.....#", "#/////#"} {
		s := shapeOf(t, format)
		w, h := impl.SizeOf(s)
		for long := 1; long <= 6; long++ {
			r, _ := impl.RectangleOf(long, min(w, h))
			if got := impl.PlacementsOf(r, s); (len(got) > 0) != (long == 6) {
				t.Errorf("PlacementsOf of %s in %v = %v", format, r, got)
			}
		}
	}
}

func TestAllPlacements(t *testing.T) {
	shapes, regions := placeShapes(t), placeRegions()
	for i := range shapes {
		for count := 1; count <= 5; count++ {
			var pieces [][]impl.Cell
			for k := range count {
				pieces = append(pieces, shapes[(i+k*(i+1))%len(shapes)])
			}
			for k, d := range regions {
				if k%20 == (i+count)%20 {
					if got, want := impl.AllPlacements(regionOf(d), pieces), placementsOf(d, pieces...); !slices.Equal(got, want) {
						t.Fatalf("AllPlacements(%s, %v) = %v, want %v", d, pieces, got, want)
					}
				}
			}
		}
	}
}

// TestAllPlacementsInAnyOrder has the same result for the same pieces.
func TestAllPlacementsInAnyOrder(t *testing.T) {
	pieces := piecesOf(t, "# ### ##/# #/.# ##/##")
	for _, d := range placeRegions() {
		want := impl.AllPlacements(regionOf(d), pieces)
		for i := range pieces {
			order := append(slices.Clone(pieces[i:]), pieces[:i]...)
			if got := impl.AllPlacements(regionOf(d), order); !slices.Equal(got, want) {
				t.Errorf("AllPlacements(%s, %v) = %v, want %v", d, order, got, want)
			}
		}
	}
}

// noPieces are lists that are none, by the reason for it.
func noPieces(t *testing.T) map[string][][]impl.Cell {
	t.Helper()
	out := map[string][][]impl.Cell{
		"nil":                nil,
		"empty":              {},
		"six pieces":         piecesOf(t, "# ## ### #### ##/# ##/##"),
		"six equal pieces":   piecesOf(t, "# # # # # #"),
		"many pieces":        slices.Repeat(piecesOf(t, "#"), 100),
		"six pieces of nil":  make([][]impl.Cell, 6),
		"five pieces of nil": make([][]impl.Cell, 5),
	}
	for why, s := range noShapes {
		out["only "+why] = [][]impl.Cell{s}
		out["first "+why] = append([][]impl.Cell{s}, piecesOf(t, "# ##")...)
		out["last "+why] = append(piecesOf(t, "# ##"), s)
		out["in the middle "+why] = append(piecesOf(t, "# ##"), s, cellsOf(0, 0), cellsOf(1, 1))
	}
	return out
}

func TestArePieces(t *testing.T) {
	for count, formats := range []string{"", "#", "# ##", "# ## #", "# ## # ##/#", "# ## # ##/# #///////.......#", "# ## # ##/# ## #"} {
		if got := impl.ArePieces(piecesOf(t, formats)); got != (1 <= count && count <= 5) {
			t.Errorf("ArePieces of %d pieces = %v", count, got)
		}
	}
	for _, s := range motionShapes() {
		if !impl.ArePieces([][]impl.Cell{s}) {
			t.Fatalf("%v is no piece", s)
		}
	}
	for why, pieces := range noPieces(t) {
		if impl.ArePieces(pieces) {
			t.Errorf("%s: ArePieces(%v) = true", why, pieces)
		}
		for _, d := range []string{"#", "##/##", fullGrid} {
			if got := impl.AllPlacements(regionOf(d), pieces); len(got) > 0 {
				t.Errorf("%s: AllPlacements(%s, %v) = %v", why, d, pieces, got)
			}
		}
	}
}

// TestNoPieceAmongFive puts what is no shape at each place of the list.
func TestNoPieceAmongFive(t *testing.T) {
	for count := 1; count <= 5; count++ {
		for i := range count {
			pieces := slices.Repeat(piecesOf(t, "##"), count)
			if !impl.ArePieces(pieces) {
				t.Errorf("ArePieces(%v) = false", pieces)
			}
			pieces[i] = cellsOf(1, 0, 0, 0)
			if impl.ArePieces(pieces) || len(impl.AllPlacements(regionOf("##/##"), pieces)) > 0 {
				t.Errorf("%v are pieces", pieces)
			}
		}
	}
}

func TestPlacementsAtExamples(t *testing.T) {
	for _, c := range []struct {
		region, shape string
		x, y          int
		want          []int
	}{
		{"##/##", "##", 1, 0, []int{3, 10}},
		{"##/##", "##", 0, 1, []int{5, 12}},
		{"##/##", "##", 2, 0, nil},
		{"##/##", "##", 0, 2, nil},
		{"##/##", "##", -1, 1, nil},
		{"##/##", "##", 2, -1, nil},
		{"##/##", "##/#", 1, 1, []int{11, 13, 14}},
		{"##/##", "##/##", 0, 0, []int{15}},
		{"##/##", "###", 0, 0, nil},
		{"##/##", "#", 1, 1, []int{8}},
		{"##./#.#", "##", 2, 1, nil},
		{"##./#.#", "##", 1, 1, nil},
		{"##./#.#", "##", 0, 0, []int{3, 9}},
		{"##./#.#", "#/.#", 2, 1, []int{34}},
		{"#", "#", 0, 0, []int{1}},
		{".", "#", 0, 0, nil},
		{"###/#.#/###", "###/#.#/###", 1, 1, nil},
		{"###/#.#/###", "###/#.#/###", 2, 2, []int{495}},
		{"###/###/###", "###/#.#/###", 1, 1, nil},
		{fullGrid, "#", 5, 5, []int{1 << 35}},
		{fullGrid, "#/////.....#", 5, 0, []int{1<<5 | 1<<30}},
	} {
		if got := impl.PlacementsAt(regionOf(c.region), shapeOf(t, c.shape), c.x, c.y); !slices.Equal(got, c.want) {
			t.Errorf("PlacementsAt of %s in %s at %d, %d = %v, want %v", c.shape, c.region, c.x, c.y, got, c.want)
		}
	}
}

func TestPlacementsAt(t *testing.T) {
	regions := placeRegions()
	for i, s := range placeShapes(t) {
		for k, d := range regions {
			if (i+k)%4 > 0 {
				continue
			}
			r := regionOf(d)
			all := placementsOf(d, s)
			for y := -1; y <= len(r.Rows); y++ {
				for x := -1; x <= r.Width; x++ {
					var want []int
					for _, mask := range all {
						if isDrawn(maskDrawn(mask, r.Width, len(r.Rows)), x, y) {
							want = append(want, mask)
						}
					}
					if got := impl.PlacementsAt(r, s, x, y); !slices.Equal(got, want) {
						t.Fatalf("PlacementsAt(%s, %v, %d, %d) = %v, want %v", d, s, x, y, got, want)
					}
				}
			}
		}
	}
	far := []int{math.MinInt, math.MinInt + 1, -1 << 32, -64, -1, 6, 7, 63, 64, 1 << 32, math.MaxInt}
	for _, a := range far {
		for _, b := range append(far, 0, 1, 5) {
			if len(impl.PlacementsAt(regionOf(fullGrid), cellsOf(0, 0), a, b)) > 0 || len(impl.PlacementsAt(regionOf(fullGrid), cellsOf(0, 0), b, a)) > 0 {
				t.Errorf("%d and %d have placements", a, b)
			}
		}
	}
}

func TestPlacementsOfNoShapes(t *testing.T) {
	for why, s := range noShapes {
		for _, d := range []string{"#", "##/##", "##./#.#", fullGrid, emptyGrid} {
			r := regionOf(d)
			if got := impl.PlacementsOf(r, s); len(got) > 0 {
				t.Errorf("%s: PlacementsOf(%s, %v) = %v", why, d, s, got)
			}
			for y := range 6 {
				for x := range 6 {
					if got := impl.PlacementsAt(r, s, x, y); len(got) > 0 {
						t.Errorf("%s: PlacementsAt(%s, %v, %d, %d) = %v", why, d, s, x, y, got)
					}
				}
			}
		}
	}
}

// TestPlacementsInNoRegions names what each function returns for a region that is not valid, whatever else it is given.
func TestPlacementsInNoRegions(t *testing.T) {
	lists := [][]impl.Cell{nil, {}, cellsOf(0, 0), cellsOf(0, 0, 1, 0), cellsOf(0, 0, 0, 1), cellsOf(0, 0, 0, 0), cellsOf(-1, 0), cellsOf(math.MinInt, math.MaxInt)}
	masks := append([]int{1, 2, 3, 5, 15, 16, 63, 64, 127, 1 << 35, 1<<36 - 1}, farMasks...)
	for why, r := range noRegions {
		if got := impl.MaskOf(r); got != 0 {
			t.Errorf("%s: MaskOf(%v) = %d", why, r, got)
		}
		for _, mask := range masks {
			if got := impl.CellsOfMask(r, mask); len(got) > 0 {
				t.Errorf("%s: CellsOfMask(%v, %d) = %v", why, r, mask, got)
			}
			if x, y, ok := impl.FirstCell(r, mask); x != 0 || y != 0 || ok {
				t.Errorf("%s: FirstCell(%v, %d) = %d, %d, %v", why, r, mask, x, y, ok)
			}
		}
		for _, s := range lists {
			if got, ok := impl.MaskOfCells(r, s); got != 0 || ok {
				t.Errorf("%s: MaskOfCells(%v, %v) = %d, %v", why, r, s, got, ok)
			}
			if got := impl.PlacementsOf(r, s); len(got) > 0 {
				t.Errorf("%s: PlacementsOf(%v, %v) = %v", why, r, s, got)
			}
			if got := impl.AllPlacements(r, [][]impl.Cell{s}); len(got) > 0 {
				t.Errorf("%s: AllPlacements(%v, %v) = %v", why, r, s, got)
			}
			for place := range 64 {
				if got := impl.PlacementsAt(r, s, place%8-1, place/8-1); len(got) > 0 {
					t.Errorf("%s: PlacementsAt(%v, %v, %d, %d) = %v", why, r, s, place%8-1, place/8-1, got)
				}
			}
		}
	}
}

// TestPlaceArguments gives each function parts of longer lists, which have to stay as they are, and writes to the results.
func TestPlaceArguments(t *testing.T) {
	rows := []int{7, 5, 7, 0, -5, 99}
	cells := cellsOf(2, 1, 3, 1, 2, 2, 9, 9, -3, 4)
	pieces := append(piecesOf(t, "## # ##/#"), cellsOf(7, 0, 0, 0), cells)
	for _, size := range []int{2, 3} {
		for _, height := range []int{2, 3, 4, 5} {
			r := impl.Region{Width: 3, Rows: rows[:height]}
			s := cells[:size]
			for range 2 {
				overwriteRows(impl.PlacementsOf(r, s))
				overwriteRows(impl.AllPlacements(r, append(pieces[:size:size], s)))
				overwriteRows(impl.AllPlacements(r, pieces[:size]))
				overwriteRows(impl.PlacementsAt(r, s, 0, 0))
				overwrite(impl.CellsOfMask(r, 5), impl.Cell{X: -77, Y: -78})
				impl.MaskOf(r)
				impl.MaskOfCells(r, cells)
				impl.MaskOfCells(r, cells[:size])
				impl.ArePieces(pieces[:size])
				impl.FirstCell(r, 5)
			}
		}
	}
	if !slices.Equal(rows, []int{7, 5, 7, 0, -5, 99}) {
		t.Errorf("the rows became %v", rows)
	}
	if !slices.Equal(cells, cellsOf(2, 1, 3, 1, 2, 2, 9, 9, -3, 4)) {
		t.Errorf("the cells became %v", cells)
	}
	if !sameShapes(pieces, append(piecesOf(t, "## # ##/#"), cellsOf(7, 0, 0, 0), cells)) {
		t.Errorf("the pieces became %v", pieces)
	}
}

// TestPlaceResults checks that each call has a result of its own.
func TestPlaceResults(t *testing.T) {
	r, s := regionOf("###/#.#/###"), shapeOf(t, "##")
	for i, call := range []func() []int{
		func() []int { return impl.PlacementsOf(r, s) },
		func() []int { return impl.AllPlacements(r, [][]impl.Cell{s, s}) },
		func() []int { return impl.PlacementsAt(r, s, 0, 0) },
	} {
		first := call()
		kept := slices.Clone(first)
		overwriteRows(first)
		if second := call(); !slices.Equal(second, kept) || len(kept) == 0 {
			t.Errorf("call %d: %v became %v", i, kept, second)
		}
	}
	first := impl.CellsOfMask(r, 5)
	overwrite(first, impl.Cell{X: -77, Y: -78})
	if second := impl.CellsOfMask(r, 5); !slices.Equal(second, cellsOf(0, 0, 2, 0)) {
		t.Errorf("CellsOfMask = %v", second)
	}
}
