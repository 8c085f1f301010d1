package tests

import (
	"math"
	"math/bits"
	"slices"
	"strings"
	"testing"

	"loop.example/g03400/impl"
)

// byLeastBits puts the masks of a tiling in their order.
func byLeastBits(l []int) []int {
	out := slices.Clone(l)
	slices.SortStableFunc(out, func(a int, b int) int {
		return bits.TrailingZeros(uint(a)) - bits.TrailingZeros(uint(b))
	})
	return out
}

// coversOf fills the greatest free place first, with the placements from last to first, so that it reaches the covers in another order.
func coversOf(free int, placements []int) [][]int {
	if free == 0 {
		return [][]int{nil}
	}
	greatest := bits.Len(uint(free)) - 1
	var out [][]int
	for _, mask := range slices.Backward(placements) {
		if mask>>greatest == 1 && free|mask == free {
			for _, cover := range coversOf(free-mask, placements) {
				out = append(out, append(cover, mask))
			}
		}
	}
	return out
}

// tilingsIn has all tilings in the order in which they are reached: the least free cell is tried with lesser masks first, so that the tiling with the lesser mask where two of them differ comes first.
func tilingsIn(drawing string, pieces ...[]impl.Cell) [][]int {
	var out [][]int
	for _, cover := range coversOf(maskOf(drawing), placementsOf(drawing, pieces...)) {
		out = append(out, byLeastBits(cover))
	}
	slices.SortFunc(out, slices.Compare[[]int])
	return out
}

// coverCount counts what coversOf finds, and remembers the counts.
func coverCount(free int, placements []int, known map[int]int) int {
	if free == 0 {
		return 1
	}
	if count, ok := known[free]; ok {
		return count
	}
	greatest, sum := bits.Len(uint(free))-1, 0
	for _, mask := range placements {
		if mask>>greatest == 1 && free|mask == free {
			sum += coverCount(free-mask, placements, known)
		}
	}
	known[free] = sum
	return sum
}

func tilingCount(drawing string, pieces ...[]impl.Cell) int {
	return coverCount(maskOf(drawing), placementsOf(drawing, pieces...), map[int]int{})
}

// firstTiling takes the least placement at each step after which the rest has a cover.
func firstTiling(drawing string, pieces ...[]impl.Cell) ([]int, bool) {
	placements, known := placementsOf(drawing, pieces...), map[int]int{}
	free, out := maskOf(drawing), []int(nil)
	for free > 0 {
		i := slices.IndexFunc(placements, func(mask int) bool {
			return mask&(free&-free) > 0 && free|mask == free && coverCount(free-mask, placements, known) > 0
		})
		if i < 0 {
			return nil, false
		}
		out = append(out, placements[i])
		free -= placements[i]
	}
	return out, true
}

// isTiling looks at each place of the grid, and at each pair of masks for their order.
func isTiling(drawing string, placements []int, l []int) bool {
	for i, mask := range l {
		if !slices.Contains(placements, mask) || i > 0 && bits.TrailingZeros(uint(l[i-1])) >= bits.TrailingZeros(uint(mask)) {
			return false
		}
	}
	for place := range 36 {
		count := 0
		for _, mask := range l {
			count += mask >> place & 1
		}
		if count != maskOf(drawing)>>place&1 {
			return false
		}
	}
	return true
}

// tilingDrawn draws the masks from last to first, so that the first ones stay.
func tilingDrawn(l []int, w int, h int) string {
	rows := slices.Repeat([]string{strings.Repeat(".", w)}, h)
	for i, mask := range slices.Backward(l) {
		for place := range w * h {
			if y, x := place/w, place%w; mask >= 0 && mask>>place&1 == 1 {
				rows[y] = rows[y][:x] + "abcdefghijklmnopqrstuvwxyz"[i:i+1] + rows[y][x+1:]
			}
		}
	}
	return strings.Join(rows, "/")
}

// masksDrawn reads the masks of a drawn tiling.
func masksDrawn(drawing string) []int {
	var out []int
	for i, place := range strings.ReplaceAll(drawing, "/", "") {
		if place != '.' {
			for len(out) <= int(place-'a') {
				out = append(out, 0)
			}
			out[place-'a'] += 1 << i
		}
	}
	return out
}

// tilingExamples are counted by hand, with the first tiling.
var tilingExamples = []struct {
	region, pieces string
	count          int
	first          string
}{
	// One cell.
	{"#", "#", 1, "a"},
	{"#", "##", 0, ""},
	{"#", "# ##", 1, "a"},
	{".#", "#", 1, ".a"},
	{"../.#", "#", 1, "../.a"},
	// No cells: there is one tiling, which has no masks, also with pieces that do not fit.
	{".", "#", 1, "."},
	{"..", "##", 1, ".."},
	{"./.", "##", 1, "./."},
	{".", "########", 1, "."},
	{emptyGrid, "#", 1, emptyGrid},
	{emptyGrid, "# ## ### #### #///////.......#", 1, emptyGrid},
	// Rows.
	{"##", "#", 1, "ab"},
	{"##", "##", 1, "aa"},
	{"##", "# ##", 2, "ab"},
	{"##", "## #", 2, "ab"},
	{"###", "##", 0, ""},
	{"###", "# ##", 3, "abc"},
	{"####", "##", 1, "aabb"},
	{"####", "# ##", 5, "abcd"},
	{"#####", "## ###", 2, "aabbb"},
	{"######", "##", 1, "aabbcc"},
	{"######", "###", 1, "aaabbb"},
	{"######", "## ###", 2, "aabbcc"},
	{"######", "## ####", 3, "aabbcc"},
	{"######", "####", 0, ""},
	{"######", "######", 1, "aaaaaa"},
	{"######", "#####", 0, ""},
	{"#/#/#/#", "##", 1, "a/a/b/b"},
	// Small rectangles.
	{"##/##", "##", 2, "aa/bb"},
	{"##/##", "##/##", 1, "aa/aa"},
	{"##/##", "# ##", 7, "ab/cd"},
	{"##/##", "# ##/#", 5, "ab/cd"},
	{"##/##", "##/#", 0, ""},
	{"##/##", "#/.#", 1, "ab/ba"},
	{"##/##", "## #/.#", 3, "aa/bb"},
	{"##/##", "# ## ##/# ##/## #/.#", 15, "ab/cd"},
	{"###/###", "##", 3, "aab/ccb"},
	{"###/###", "##/#", 2, "aab/abb"},
	{"###/###", "###", 1, "aaa/bbb"},
	{"###/###", "###/###", 1, "aaa/aaa"},
	{"###/###", "##/##", 0, ""},
	{"###/###", "## ##/##", 5, "aab/ccb"},
	{"###/###", "### ##/#", 3, "aaa/bbb"},
	{"##/##/##", "##", 3, "aa/bb/cc"},
	{"##/##/##", "##/#", 2, "aa/ab/bb"},
	{"###/###/###", "##", 0, ""},
	{"###/###/###", "###", 2, "aaa/bbb/ccc"},
	{"###/###/###", "##/#", 0, ""},
	{"####/####/####/####", "###/.#", 2, "aaab/cabb/ccdb/cddd"},
	// Two pieces with the same placements.
	{"###/###", "## ##", 3, "aab/ccb"},
	{"###/###", "## #/#", 3, "aab/ccb"},
	{"###/###", "## #/# ## #/# ##", 3, "aab/ccb"},
	{"###/###", "##/# #/## .#/## ##/.#", 2, "aab/abb"},
	// Pieces of which one does not fit.
	{"###/###", "## ####", 3, "aab/ccb"},
	{"###/###", "#### ##", 3, "aab/ccb"},
	{"###/###", "#### ######## ##", 3, "aab/ccb"},
	{"###/###", "####", 0, ""},
	{"###/###", "#### #//..#", 0, ""},
	// Numbers of cells that no piece divides, or that no pieces sum up to.
	{"#####", "##", 0, ""},
	{"####/####", "###", 0, ""},
	{"#####/#####", "##/##", 0, ""},
	{"####/###.", "## ####", 0, ""},
	{"####/###.", "### #####", 0, ""},
	{"#####/.....", "###", 0, ""},
	// Cells that no placement reaches.
	{"##.#", "##", 0, ""},
	{"##.#.#", "##", 0, ""},
	{"#.##/#...", "##", 1, "a.bb/a..."},
	{"#.##/..#.", "##", 0, ""},
	{"####/...#/....", "## ###", 1, "aaab/...b/...."},
	{"###./...#", "## ###", 0, ""},
	{"###./...#", "# ## ###", 4, "abc./...d"},
	{"#../.#./..#", "##", 0, ""},
	{"#../.#./..#", "# ##", 1, "a../.b./..c"},
	// Parts, corners and holes.
	{"##.##", "##", 1, "aa.bb"},
	{"##.##/##.##", "##", 4, "aa.bb/cc.dd"},
	{"###/#.#/###", "##", 2, "aab/c.b/cdd"},
	{"###/#.#/###", "###/#.#/###", 1, "aaa/a.a/aaa"},
	{"###/#.#/###", "# ###/#.#/###", 2, "abc/d.e/fgh"},
	{"##./#.#", "## #", 3, "ab./c.d"},
	{"##./#.#", "##", 0, ""},
	// Pieces that do not hang together.
	{"#.#", "#.#", 1, "a.a"},
	{"####", "#.#", 1, "abab"},
	{"######", "#.#", 0, ""},
	{"######", "#..#", 1, "abcabc"},
	{"######", "#.# ##", 3, "aabbcc"},
	{"#./.#", "#/.#", 1, "a./.a"},
	// The greatest grid.
	{fullGrid, "##/##", 1, "aabbcc/aabbcc/ddeeff/ddeeff/gghhii/gghhii"},
	{fullGrid, "######", 2, "aaaaaa/bbbbbb/cccccc/dddddd/eeeeee/ffffff"},
	{fullGrid, "##", 2000, "aabbcc/ddeeff/gghhii/jjkkll/mmnnoo/ppqqrr"},
	{fullGrid, "###/.#", 0, ""},
	{fullGrid, "####", 0, ""},
	{fullGrid, "#####", 0, ""},
	{fullGrid, "########", 0, ""},
	{fullGrid, "######/#", 0, ""},
	{"######/######/######/######/######/#####.", "##", 0, ""},
	{"#####./######/######/######/######/.#####", "##", 0, ""},
}

func TestTilingExamples(t *testing.T) {
	for _, c := range tilingExamples {
		r, pieces := regionOf(c.region), piecesOf(t, c.pieces)
		if got := impl.CountTilings(r, pieces); got != c.count {
			t.Errorf("CountTilings of %s by %s = %d, want %d", c.region, c.pieces, got, c.count)
		}
		want := masksDrawn(c.first)
		l, ok := impl.FindTiling(r, pieces)
		if !slices.Equal(l, want) || ok != (c.count > 0) {
			t.Errorf("FindTiling of %s by %s = %v, %v, want %v", c.region, c.pieces, l, ok, want)
		}
		if got := impl.HasTiling(r, pieces); got != (c.count > 0) {
			t.Errorf("HasTiling of %s by %s = %v", c.region, c.pieces, got)
		}
		if got := impl.IsTiling(r, pieces, l); got != (c.count > 0) {
			t.Errorf("IsTiling of %s by %s for %v = %v", c.region, c.pieces, l, got)
		}
		if got := impl.FormatTiling(r, l); ok && got != c.first {
			t.Errorf("FormatTiling of %s for %v = %s, want %s", c.region, l, got, c.first)
		}
	}
}

// rectangleCounts are known from the literature, for the heights from 1 on.
var rectangleCounts = []struct {
	width  int
	pieces string
	counts []int
}{
	{1, "##", []int{0, 1, 0, 1, 0, 1}},
	{2, "##", []int{1, 2, 3, 5, 8, 13}},
	{3, "##", []int{0, 3, 0, 11, 0, 41}},
	{4, "##", []int{1, 5, 11, 36, 95, 281}},
	{5, "##", []int{0, 8, 0, 95, 0, 1183}},
	{6, "##", []int{1, 13, 41, 281, 1183, 2000}},
	{3, "###", []int{1, 1, 2, 3, 4, 6}},
	{2, "##/#", []int{0, 0, 2, 0, 0, 4}},
	{3, "##/#", []int{0, 2, 0, 4, 0, 8}},
	{6, "##/#", []int{0, 4, 8, 18, 72, 162}},
	{4, "####", []int{1, 1, 1, 2, 3, 4}},
	{4, "###/.#", []int{0, 0, 0, 2, 0, 0}},
	{4, "###/#", []int{0, 2, 0, 10, 0, 42}},
	{1, "# ##", []int{1, 2, 3, 5, 8, 13}},
	{2, "# ##", []int{2, 7, 22, 71, 228, 733}},
	{3, "# ##", []int{3, 22, 131, 823, 2000, 2000}},
	{4, "# ##", []int{5, 71, 823, 2000, 2000, 2000}},
	{6, "# ##", []int{13, 733, 2000, 2000, 2000, 2000}},
	{2, "# ##/#", []int{1, 5, 11, 33, 87, 241}},
	{2, "# ##/##", []int{1, 2, 3, 5, 8, 13}},
	{3, "# ##/##", []int{1, 3, 5, 11, 21, 43}},
	{4, "# ##/##", []int{1, 5, 11, 35, 93, 269}},
	{2, "## ##/##", []int{1, 3, 5, 11, 21, 43}},
	{6, "#", []int{1, 1, 1, 1, 1, 1}},
}

func TestCountsOfRectangles(t *testing.T) {
	for _, c := range rectangleCounts {
		for i, want := range c.counts {
			pieces := piecesOf(t, c.pieces)
			r, _ := impl.RectangleOf(c.width, i+1)
			if got := impl.CountTilings(r, pieces); got != want {
				t.Errorf("CountTilings of %d by %d by %s = %d, want %d", c.width, i+1, c.pieces, got, want)
			}
			turned, _ := impl.RectangleOf(i+1, c.width)
			if got := impl.CountTilings(turned, pieces); got != want {
				t.Errorf("CountTilings of %d by %d by %s = %d, want %d", i+1, c.width, c.pieces, got, want)
			}
		}
	}
}

// checkTilings compares all that is told of tilings with the tilings that the tests find.
func checkTilings(t *testing.T, d string, pieces [][]impl.Cell) {
	t.Helper()
	r, want := regionOf(d), tilingsIn(d, pieces...)
	if got := impl.CountTilings(r, pieces); got != min(len(want), 2000) {
		t.Fatalf("CountTilings(%s, %v) = %d, want %d", d, pieces, got, len(want))
	}
	for n := range 200 {
		got, ok := impl.TilingNumber(r, pieces, n)
		if n >= len(want) {
			if len(got) > 0 || ok {
				t.Fatalf("TilingNumber(%s, %v, %d) = %v, %v, but there are %d", d, pieces, n, got, ok, len(want))
			}
			if n > len(want)+2 {
				break
			}
			continue
		}
		if !slices.Equal(got, want[n]) || !ok {
			t.Fatalf("TilingNumber(%s, %v, %d) = %v, %v, want %v", d, pieces, n, got, ok, want[n])
		}
		if !impl.IsTiling(r, pieces, got) {
			t.Fatalf("IsTiling(%s, %v, %v) = false", d, pieces, got)
		}
		if text := impl.FormatTiling(r, got); text != tilingDrawn(want[n], r.Width, len(r.Rows)) {
			t.Fatalf("FormatTiling(%s, %v) = %s", d, got, text)
		}
	}
	var first []int
	if len(want) > 0 {
		first = want[0]
	}
	if got, ok := impl.FindTiling(r, pieces); !slices.Equal(got, first) || ok != (len(want) > 0) {
		t.Fatalf("FindTiling(%s, %v) = %v, %v, want %v", d, pieces, got, ok, first)
	}
	if got := impl.HasTiling(r, pieces); got != (len(want) > 0) {
		t.Fatalf("HasTiling(%s, %v) = %v", d, pieces, got)
	}
	for _, n := range []int{len(want), 200, 201, 2000, -1, -2, math.MinInt, math.MaxInt} {
		if got, ok := impl.TilingNumber(r, pieces, n); len(got) > 0 || ok {
			if n != len(want) || n < 0 || n > 199 {
				t.Fatalf("TilingNumber(%s, %v, %d) = %v, %v", d, pieces, n, got, ok)
			}
		}
	}
}

// pieceLists are lists of pieces that fit into small regions in few or many ways.
func pieceLists(t *testing.T) [][][]impl.Cell {
	var out [][][]impl.Cell
	for _, formats := range []string{"#", "##", "###", "##/#", "##/##", "###/.#", "#.#", "#/.#", "#/..#", "# ##", "## ###", "##/# ##", "##/# ###", "#.# ##/#", "# #/.#", "## ##", "##/## ## ###", "###/# .##/## ####", "# ########", "#### ###/## ##/# # #.#", "##/.## #/#.# ###", "#..# ##"} {
		out = append(out, piecesOf(t, formats))
	}
	return out
}

func TestTilingsOfSmallRegions(t *testing.T) {
	drawings := append(drawingsIn(3, 2), drawingsIn(1, 5)...)
	for i, d := range drawingsIn(3, 3) {
		if i%3 == 0 || i > 480 {
			drawings = append(drawings, d)
		}
	}
	for _, pieces := range pieceLists(t) {
		for _, d := range drawings {
			checkTilings(t, d, pieces)
		}
	}
}

func TestTilingsOfRegions(t *testing.T) {
	for _, d := range []string{"####/####", "####/####/####", "####/#..#/####", "#####/#####", "######/######", "##/##/##/##/##", "###/###/###/###", "####/####/####/####", ".##./####/####/.##.", "###.../######/...###", "#.#.#./.#.#.#", emptyGrid} {
		for _, pieces := range pieceLists(t) {
			if tilingCount(d, pieces...) < 20000 {
				checkTilings(t, d, pieces)
			}
		}
	}
}

// TestTilingsAreTheExactCovers looks at all sets of placements.
func TestTilingsAreTheExactCovers(t *testing.T) {
	for _, pieces := range pieceLists(t) {
		for _, d := range []string{"##/##", "###/###", "##./#.#", "#####", "###/#.#/###", ".#./###/.#.", "####"} {
			placements := placementsOf(d, pieces...)
			if len(placements) > 12 {
				continue
			}
			count := 0
			for set := range 1 << len(placements) {
				var l []int
				for i, mask := range placements {
					if set>>i&1 == 1 {
						l = append(l, mask)
					}
				}
				l = byLeastBits(l)
				want := isTiling(d, placements, l)
				if want {
					count++
				}
				if got := impl.IsTiling(regionOf(d), pieces, l); got != want {
					t.Fatalf("IsTiling(%s, %v, %v) = %v", d, pieces, l, got)
				}
			}
			if got := impl.CountTilings(regionOf(d), pieces); got != count {
				t.Fatalf("CountTilings(%s, %v) = %d, want %d", d, pieces, got, count)
			}
		}
	}
}

// TestTilingsOfGreatRegions has regions with too many tilings to list them all.
func TestTilingsOfGreatRegions(t *testing.T) {
	regions := []string{fullGrid, "######/######/######/######/######", "#####/#####/#####/#####/#####", ".####./######/######/######/######/.####."}
	for i, d := range greatDrawings() {
		if i%25 == 0 {
			regions = append(regions, d)
		}
	}
	for _, formats := range []string{"#", "##", "##/#", "###", "###/.#", "###/#", "# ##", "## ##/#", "### #### #####", ".##/## ###", "#/.# ##/##", "## ###/### ##/##", "#..# ##", "#.#/###", "##/#/# ###/##", "##/##/# ####/# #####", "#.##/# #", "# #/////.....#"} {
		pieces := piecesOf(t, formats)
		for _, d := range regions {
			r := regionOf(d)
			if got, want := impl.CountTilings(r, pieces), min(2000, tilingCount(d, pieces...)); got != want {
				t.Errorf("CountTilings of %s by %s = %d, want %d", d, formats, got, want)
			}
			want, exists := firstTiling(d, pieces...)
			got, ok := impl.FindTiling(r, pieces)
			if !slices.Equal(got, want) || ok != exists {
				t.Errorf("FindTiling of %s by %s = %v, %v, want %v, %v", d, formats, got, ok, want, exists)
			}
			if got := impl.HasTiling(r, pieces); got != exists {
				t.Errorf("HasTiling of %s by %s = %v", d, formats, got)
			}
			if got := impl.IsTiling(r, pieces, want); got != exists {
				t.Errorf("IsTiling of %s by %s for %v = %v", d, formats, want, got)
			}
		}
	}
}

// TestTilingsAreNumberedWithoutRepetition has regions with more than 200 tilings, of which the first 200 differ and come in order.
func TestTilingsAreNumberedWithoutRepetition(t *testing.T) {
	for _, c := range []struct{ region, pieces string }{
		{"####/####/####/####/####/####", "##"},
		{"#####/#####/#####/#####/#####/#####", "##"},
		{fullGrid, "##"},
		{fullGrid, "# ##"},
		{fullGrid, "# ## ### #### ##/#"},
		{"####/####/####", "# ##"},
		{"#####/#####/#####/#####/#####/#####", "## #.#"},
		{"##/##/##/##/##/##", "# ##/#"},
		{"######/#....#/#....#/#....#/#....#/######", "# ##"},
	} {
		r, pieces := regionOf(c.region), piecesOf(t, c.pieces)
		placements := placementsOf(c.region, pieces...)
		if got := impl.CountTilings(r, pieces); got <= 200 {
			t.Fatalf("CountTilings of %s by %s = %d", c.region, c.pieces, got)
		}
		var last []int
		for n := range 200 {
			l, ok := impl.TilingNumber(r, pieces, n)
			if !ok || !isTiling(c.region, placements, l) || !impl.IsTiling(r, pieces, l) {
				t.Fatalf("TilingNumber of %s by %s, %d = %v, %v", c.region, c.pieces, n, l, ok)
			}
			if n > 0 && slices.Compare(last, l) >= 0 {
				t.Fatalf("TilingNumber of %s by %s, %d = %v after %v", c.region, c.pieces, n, l, last)
			}
			last = l
		}
		for _, n := range []int{200, 201, 1999, -1, -200, math.MinInt, math.MaxInt} {
			if l, ok := impl.TilingNumber(r, pieces, n); len(l) > 0 || ok {
				t.Errorf("TilingNumber of %s by %s, %d = %v, %v", c.region, c.pieces, n, l, ok)
			}
		}
	}
}

// TestTilingNumberHasNoGaps compares the numbers of regions with many tilings with all tilings.
func TestTilingNumberHasNoGaps(t *testing.T) {
	for _, c := range []struct {
		region, pieces string
		count          int
	}{
		{"####/####/####/####/####/####", "##", 281},
		{"######/######/######/######/######", "##", 1183},
		{"####/####/####", "# ##", 823},
		{fullGrid, "##/#", 162},
		{"##/##/##/##/##/##", "# ##/#", 241},
		{"##/##/##/##/##", "# ##", 228},
		{"######/######/######", "## ###/.#", 112},
	} {
		if got := tilingCount(c.region, piecesOf(t, c.pieces)...); got != c.count {
			t.Errorf("%s by %s has %d tilings, want %d", c.region, c.pieces, got, c.count)
		}
		checkTilings(t, c.region, piecesOf(t, c.pieces))
	}
}

func TestMaxTilings(t *testing.T) {
	if impl.MaxTilings != 2000 {
		t.Errorf("MaxTilings = %d", impl.MaxTilings)
	}
	for _, c := range []struct {
		region, pieces string
		exact          int
	}{
		{fullGrid, "##", 6728},
		{"####/####/####/####", "# ##", 10012},
		{fullGrid, "# ##/##", 6427},
		{"######/##.#.#/..###./#####.", "# #.#", 2000},
		{".#.##/#..#./#####/##.##", "# ## ##/#", 2000},
		{"#.###/#####/.####/.####", "# ##/#", 1999},
		{".##../#####/.#.##/####.", "# ## ###", 1999},
		{"..###/###.#/##.##/##.##", "# ##", 2002},
		{"####/####/###./#.##", "# ## ##/##", 2003},
	} {
		pieces := piecesOf(t, c.pieces)
		if got := tilingCount(c.region, pieces...); got != c.exact {
			t.Errorf("%s by %s has %d tilings, want %d", c.region, c.pieces, got, c.exact)
		}
		if got := impl.CountTilings(regionOf(c.region), pieces); got != min(c.exact, 2000) {
			t.Errorf("CountTilings of %s by %s = %d", c.region, c.pieces, got)
		}
	}
}

// noTilings are lists for a region, by what is wrong with them.
var noTilings = []struct {
	why, region, pieces string
	l                   []int
}{
	{"no masks", "###/###", "##", nil},
	{"out of order", "###/###", "##", []int{36, 3, 24}},
	{"out of order at the end", "###/###", "##", []int{3, 24, 36}},
	{"backwards", "###/###", "##", []int{24, 36, 3}},
	{"in the order of the masks", "###/###", "##", []int{3, 24, 36}},
	{"in the order of the greatest bits", "####", "#.# #..#", []int{10, 5}},
	{"cells left free at the end", "###/###", "##", []int{3, 36}},
	{"cells left free at the beginning", "###/###", "##", []int{36, 24}},
	{"cells left free in the middle", "######", "##", []int{3, 48}},
	{"one cell left free", "###", "# ##", []int{3}},
	{"one cell left free before", "###", "# ##", []int{6}},
	{"a mask twice", "###/###", "##", []int{3, 3, 36, 24}},
	{"a mask twice at the end", "###/###", "##", []int{3, 36, 24, 24}},
	{"one mask twice and one missing", "###/###", "##", []int{3, 36, 36}},
	{"the only mask twice", "#", "#", []int{1, 1}},
	{"cells in two masks", "###/###", "##", []int{3, 6, 24, 36}},
	{"cells in two masks of the same beginning", "###", "# ##", []int{1, 3, 4}},
	{"cells in two masks of one less", "###", "# ##", []int{3, 6}},
	{"a mask that is no placement", "###/###", "##", []int{33, 6, 24}},
	{"a mask that is the next row", "###/###", "##", []int{3, 12, 48}},
	{"a mask for all", "###/###", "##", []int{63}},
	{"a mask of another piece", "###/###", "##", []int{7, 56}},
	{"a mask of a piece that does not fit", "###/###", "## ########", []int{255}},
	{"single cells", "##", "##", []int{1, 2}},
	{"a last mask that is no placement", "###/###", "##", []int{3, 24, 4, 32}},
	{"the mask 0 alone", "###/###", "##", []int{0}},
	{"the mask 0 at the beginning", "###/###", "##", []int{0, 3, 36, 24}},
	{"the mask 0 in the middle", "###/###", "##", []int{3, 0, 36, 24}},
	{"the mask 0 at the end", "###/###", "##", []int{3, 36, 24, 0}},
	{"the mask 0 in a region without cells", "..", "##", []int{0}},
	{"a mask in a region without cells", "..", "##", []int{3}},
	{"a single cell in a region without cells", "..", "#", []int{1}},
	{"a negative mask", "###/###", "##", []int{3, 36, -24}},
	{"a negative mask more", "###/###", "##", []int{3, 36, 24, -1}},
	{"a negative mask with the right bits", "###/###", "##", []int{3, 36, math.MinInt + 24}},
	{"a negative mask with far bits", "###/###", "##", []int{3, 36, -64 + 24}},
	{"all bits", "#", "#", []int{-1}},
	{"the least mask", "#", "#", []int{1, math.MinInt}},
	{"the least mask in a region without cells", ".", "#", []int{math.MinInt}},
	{"bits out side of the region", "###/###", "##", []int{3, 36, 24, 192}},
	{"a bit out side of the region", "###/###", "##", []int{3, 36, 24 + 64}},
	{"a far bit", "###/###", "##", []int{3, 36, 24 + 1<<40}},
	{"the greatest mask", "###/###", "##", []int{math.MaxInt}},
	{"a place that is no cell", "#.#", "#", []int{1, 2, 4}},
	{"places that are no cells", "##./##.", "##/##", []int{27, 36}},
	{"a mask over a place that is no cell", "#.#", "###", []int{7}},
	{"a tiling of a greater region", "##/##", "##", []int{3, 36, 24}},
	{"a tiling of a smaller region", "##/##/##", "##", []int{3, 12}},
	{"a tiling of a turned region", "##/##/##", "##", []int{3, 36, 24}},
	{"many masks", "##", "##", slices.Repeat([]int{3}, 1000)},
}

func TestNoTilings(t *testing.T) {
	for _, c := range noTilings {
		r, pieces := regionOf(c.region), piecesOf(t, c.pieces)
		if isTiling(c.region, placementsOf(c.region, pieces...), c.l) {
			t.Errorf("%s: %v is a tiling of %s by %s", c.why, c.l, c.region, c.pieces)
		}
		if impl.IsTiling(r, pieces, c.l) {
			t.Errorf("%s: IsTiling of %s by %s for %v = true", c.why, c.region, c.pieces, c.l)
		}
	}
}

func TestAreTilings(t *testing.T) {
	for _, c := range []struct {
		region, pieces string
		l              []int
	}{
		{"..", "##", nil},
		{"..", "##", []int{}},
		{"#", "#", []int{1}},
		{"#", "## #", []int{1}},
		{"##/##", "## ##/##", []int{15}},
		{"##/##", "## ##/##", []int{3, 12}},
		{"##/##", "## ##/##", []int{5, 10}},
		{"###/###", "##", []int{3, 36, 24}},
		{"###/###", "##", []int{9, 18, 36}},
		{"###/###", "##", []int{9, 6, 48}},
		{"####", "#.# #..# ##", []int{9, 6}},
		{"####", "#.# #..# ##", []int{5, 10}},
		{"#.#", "#.#", []int{5}},
		{"#.#", "#.# #", []int{1, 4}},
	} {
		if !impl.IsTiling(regionOf(c.region), piecesOf(t, c.pieces), c.l) {
			t.Errorf("IsTiling of %s by %s for %v = false", c.region, c.pieces, c.l)
		}
	}
	r, single := regionOf(fullGrid), []int(nil)
	for bit := range 36 {
		single = append(single, 1<<bit)
	}
	if !impl.IsTiling(r, piecesOf(t, "#"), single) || impl.IsTiling(r, piecesOf(t, "#"), single[1:]) || impl.IsTiling(r, piecesOf(t, "#"), single[:35]) || impl.IsTiling(r, piecesOf(t, "##"), single) {
		t.Error("single cells of the greatest grid")
	}
}

// TestIsTilingOfAllLists has all lists of few masks.
func TestIsTilingOfAllLists(t *testing.T) {
	for _, c := range []struct{ region, pieces string }{
		{"##/##", "##"},
		{"##/##", "##/# # #/.#"},
		{"##/#.", "## #"},
		{"..", "#"},
		{"###", "# ##"},
		{"#.#", "# #.#"},
	} {
		r, pieces, placements := regionOf(c.region), piecesOf(t, c.pieces), placementsOf(c.region, piecesOf(t, c.pieces)...)
		masks := []int{-1, math.MinInt + 3, 32}
		for mask := range 18 {
			masks = append(masks, mask)
		}
		for _, l := range listsOver(masks, 3) {
			if got, want := impl.IsTiling(r, pieces, l), isTiling(c.region, placements, l); got != want {
				t.Fatalf("IsTiling of %s by %s for %v = %v, want %v", c.region, c.pieces, l, got, want)
			}
		}
	}
}

// TestTilingsOneStepOff changes tilings by one mask, or by one bit of a mask, or by the order of two masks.
func TestTilingsOneStepOff(t *testing.T) {
	for _, c := range []struct{ region, pieces string }{
		{fullGrid, "##"},
		{fullGrid, "##/#"},
		{"####/#..#/####", "## # ##/#"},
		{"###.##/######", "##/# ##"},
		{"#.#.#./.#.#.#", "#/.# #.#"},
	} {
		r, pieces, placements := regionOf(c.region), piecesOf(t, c.pieces), placementsOf(c.region, piecesOf(t, c.pieces)...)
		for n := range 5 {
			l, ok := impl.TilingNumber(r, pieces, n)
			if !ok {
				break
			}
			check := func(changed []int) {
				t.Helper()
				if got, want := impl.IsTiling(r, pieces, changed), isTiling(c.region, placements, changed); got != want {
					t.Fatalf("IsTiling of %s by %s for %v = %v, want %v", c.region, c.pieces, changed, got, want)
				}
			}
			for i := range l {
				check(slices.Delete(slices.Clone(l), i, i+1))
				check(slices.Insert(slices.Clone(l), i, l[i]))
				check(slices.Insert(slices.Clone(l), i, 0))
				check(slices.Insert(slices.Clone(l), i, -1))
				for j := range l {
					changed := slices.Clone(l)
					changed[i], changed[j] = l[j], l[i]
					check(changed)
				}
				for bit := range 64 {
					changed := slices.Clone(l)
					changed[i] ^= 1 << bit
					check(changed)
				}
			}
		}
	}
}

func TestFormatTilingExamples(t *testing.T) {
	var single []int
	for bit := range 36 {
		single = append(single, 1<<bit)
	}
	for _, c := range []struct {
		region string
		l      []int
		want   string
	}{
		{"###/###", []int{3, 36, 24}, "aab/ccb"},
		{"###/###", []int{36, 3, 24}, "bba/cca"},
		{"###/###", []int{3}, "aa./..."},
		{"###/###", nil, ".../..."},
		{"###/###", []int{}, ".../..."},
		{"#", []int{1}, "a"},
		{"#", nil, "."},
		{"#", []int{0}, "."},
		{".", nil, "."},
		{"./.", nil, "./."},
		{emptyGrid, nil, emptyGrid},
		// Masks with common places, of which the first one is told.
		{"###/###", []int{3, 6}, "aab/..."},
		{"###/###", []int{6, 3}, "baa/..."},
		{"###/###", []int{63, 3}, "aaa/aaa"},
		{"###/###", []int{3, 63}, "aab/bbb"},
		{"###/###", []int{5, 63, 63, 63}, "aba/bbb"},
		{"##", []int{1, 1, 1, 3}, "ad"},
		// Places that are no cells.
		{"#.#", []int{2}, ".a."},
		{"#.#", []int{1, 2, 4}, "abc"},
		{"...", []int{7}, "aaa"},
		{"./.", []int{2, 1}, "b/a"},
		{emptyGrid, []int{1 << 35, 1, 1 << 6}, "b...../c...../....../....../....../.....a"},
		// Bits that belong to no place.
		{"##", []int{4}, ".."},
		{"##", []int{5}, "a."},
		{"##", []int{1 << 36, 1 << 62, 2}, ".c"},
		{"##", []int{math.MaxInt}, "aa"},
		{"##", []int{2, math.MaxInt}, "ba"},
		{fullGrid, []int{1 << 36, 1<<36 + 1<<35}, "....../....../....../....../....../.....b"},
		// Negative masks have a letter, but no places.
		{"##", []int{-1}, ".."},
		{"##", []int{-1, 1}, "b."},
		{"##", []int{-1, -2, 1, 2}, "cd"},
		{"##", []int{math.MinInt, math.MinInt + 1, math.MinInt + 3, 3}, "dd"},
		{"##", []int{1, -1, 3}, "ac"},
		{fullGrid, []int{-1, -1 << 35, -1 << 36}, emptyGrid},
		{"###/###", []int{0, 3, 0, 36}, "bbd/..d"},
		// The greatest number of masks.
		{"######/######/######/######/##....", single[:26], "abcdef/ghijkl/mnopqr/stuvwx/yz...."},
		{fullGrid, single[:26], "abcdef/ghijkl/mnopqr/stuvwx/yz..../......"},
		{fullGrid, single[10:36], "....../....ab/cdefgh/ijklmn/opqrst/uvwxyz"},
		{fullGrid, single[:27], ""},
		{fullGrid, single, ""},
		{"#", append(make([]int, 25), 1), "z"},
		{"#", append(make([]int, 26), 1), ""},
		{"#", slices.Repeat([]int{1}, 26), "a"},
		{"#", slices.Repeat([]int{1}, 27), ""},
		{"#", make([]int, 27), ""},
		{"#", slices.Repeat([]int{-1}, 26), "."},
		{"#", slices.Repeat([]int{-1}, 27), ""},
		{"#", slices.Repeat([]int{1}, 1000), ""},
	} {
		if got := impl.FormatTiling(regionOf(c.region), c.l); got != c.want {
			t.Errorf("FormatTiling of %s for %v = %q, want %q", c.region, c.l, got, c.want)
		}
	}
}

// TestFormatTiling draws lists of masks of all kinds.
func TestFormatTiling(t *testing.T) {
	number := 1
	for count := range 27 {
		for i, d := range everyRegion() {
			if (i+count)%9 > 0 {
				continue
			}
			var l []int
			for range count {
				number = number*6364136223846793005 + 1442695040888963407
				l = append(l, number>>(16+number>>60&15*3))
			}
			r := regionOf(d)
			if got, want := impl.FormatTiling(r, l), tilingDrawn(l, r.Width, len(r.Rows)); got != want {
				t.Fatalf("FormatTiling(%s, %v) = %s, want %s", d, l, got, want)
			}
		}
	}
}

// TestTilingsInNoRegions names what each function returns for a region that is not valid, whatever else it is given.
func TestTilingsInNoRegions(t *testing.T) {
	lists := [][]int{nil, {}, {0}, {1}, {3}, {1, 2}, {-1}, {3, 12}, {63}, {math.MinInt}, {math.MaxInt}}
	for why, r := range noRegions {
		for _, formats := range []string{"#", "##", "# ## ### #### #####", "########", ""} {
			pieces := piecesOf(t, formats)
			checkNothing(t, why, r, pieces)
			for _, l := range lists {
				if impl.IsTiling(r, pieces, l) {
					t.Errorf("%s: IsTiling(%v, %v, %v) = true", why, r, pieces, l)
				}
			}
		}
		for _, l := range lists {
			if got := impl.FormatTiling(r, l); got != "" {
				t.Errorf("%s: FormatTiling(%v, %v) = %q", why, r, l, got)
			}
		}
	}
}

// checkNothing is for regions or pieces that are not valid.
func checkNothing(t *testing.T, why string, r impl.Region, pieces [][]impl.Cell) {
	t.Helper()
	if l, ok := impl.FindTiling(r, pieces); len(l) > 0 || ok {
		t.Errorf("%s: FindTiling(%v, %v) = %v, %v", why, r, pieces, l, ok)
	}
	if impl.HasTiling(r, pieces) {
		t.Errorf("%s: HasTiling(%v, %v) = true", why, r, pieces)
	}
	if got := impl.CountTilings(r, pieces); got != -1 {
		t.Errorf("%s: CountTilings(%v, %v) = %d", why, r, pieces, got)
	}
	for _, n := range []int{0, 1, 199, 200, -1} {
		if l, ok := impl.TilingNumber(r, pieces, n); len(l) > 0 || ok {
			t.Errorf("%s: TilingNumber(%v, %v, %d) = %v, %v", why, r, pieces, n, l, ok)
		}
	}
}

func TestTilingsByNoPieces(t *testing.T) {
	lists := [][]int{nil, {}, {0}, {1}, {3, 12}, {1, 2, 4, 8}, {15}, {3, 36, 24}}
	for why, pieces := range noPieces(t) {
		for _, d := range []string{"#", "##/##", ".", "..", "###/###", fullGrid, emptyGrid} {
			r := regionOf(d)
			checkNothing(t, why, r, pieces)
			for _, l := range lists {
				if impl.IsTiling(r, pieces, l) {
					t.Errorf("%s: IsTiling(%s, %v, %v) = true", why, d, pieces, l)
				}
			}
		}
	}
}

// TestNumbersThatAreNone has regions with one tiling, two, and many.
func TestNumbersThatAreNone(t *testing.T) {
	for _, c := range []struct {
		region, pieces string
		count          int
	}{
		{"..", "##", 1},
		{"#", "#", 1},
		{"##", "##", 1},
		{"##/##", "##", 2},
		{"##/#.", "##", 0},
		{fullGrid, "##", 200},
	} {
		r, pieces := regionOf(c.region), piecesOf(t, c.pieces)
		for _, n := range []int{-1, -2, -200, math.MinInt, c.count, c.count + 1, 200, 201, 1000, 1999, 2000, 1 << 32, math.MaxInt - 1, math.MaxInt} {
			if l, ok := impl.TilingNumber(r, pieces, n); len(l) > 0 || ok {
				t.Errorf("TilingNumber of %s by %s, %d = %v, %v", c.region, c.pieces, n, l, ok)
			}
		}
		if _, ok := impl.TilingNumber(r, pieces, 0); ok != (c.count > 0) {
			t.Errorf("TilingNumber of %s by %s, 0 = %v", c.region, c.pieces, ok)
		}
		if _, ok := impl.TilingNumber(r, pieces, 199); ok != (c.count > 199) {
			t.Errorf("TilingNumber of %s by %s, 199 = %v", c.region, c.pieces, ok)
		}
	}
}

// TestTilingsInAnyOrderOfPieces has the same results for the same pieces, in any place and motion.
func TestTilingsInAnyOrderOfPieces(t *testing.T) {
	for _, d := range []string{"####/####", "####/#..#/####", "###/###/###", "######/######/######"} {
		r, pieces := regionOf(d), piecesOf(t, "## ##/# ###/.# #.#/.#")
		for i := range pieces {
			order := append(slices.Clone(pieces[i:]), pieces[:i]...)
			for k := range order {
				turn, _ := impl.TurnShape(order[k], (i+k)%8)
				order[k], _ = impl.MoveShape(turn, k, i)
			}
			if got, want := impl.CountTilings(r, order), impl.CountTilings(r, pieces); got != want {
				t.Errorf("CountTilings(%s, %v) = %d, want %d", d, order, got, want)
			}
			for n := range 200 {
				got, found := impl.TilingNumber(r, order, n)
				if want, ok := impl.TilingNumber(r, pieces, n); !slices.Equal(got, want) || found != ok {
					t.Fatalf("TilingNumber(%s, %v, %d) = %v, want %v", d, order, n, got, want)
				}
			}
		}
	}
}

// TestSearchesThatFindNothing has regions without tilings that a search finds out late.
func TestSearchesThatFindNothing(t *testing.T) {
	for _, c := range []struct{ region, pieces string }{
		{"######/######/######/######/######/####.#", "##"},
		{".#####/######/######/######/######/#####.", "##"},
		{".#####/######/######/######/######/#####.", "## ##/.## #..#"},
		{fullGrid, "###/.#"},
		{fullGrid, "####"},
		{fullGrid, "##/##/# ##/.##/..# ###/#/# ##/.#/.## .##/##/.#"},
		{fullGrid, "#######"},
		{"######/######/######/######/####../.....#", "## ###"},
	} {
		r, pieces := regionOf(c.region), piecesOf(t, c.pieces)
		if count := tilingCount(c.region, pieces...); count > 0 {
			t.Fatalf("%s by %s has %d tilings", c.region, c.pieces, count)
		}
		if got, l := impl.CountTilings(r, pieces), (impl.HasTiling(r, pieces)); got != 0 || l {
			t.Errorf("CountTilings of %s by %s = %d, and HasTiling = %v", c.region, c.pieces, got, l)
		}
	}
}

// TestTilingArguments gives each function parts of longer lists, which have to stay as they are, and writes to the results.
func TestTilingArguments(t *testing.T) {
	rows := []int{7, 5, 7, 0, -5, 99}
	cells := cellsOf(2, 1, 3, 1, 2, 2, 9, 9, -3, 4)
	pieces := append(piecesOf(t, "## # ##/#"), cellsOf(7, 0, 0, 0), cells)
	l := []int{3, 36, 8, 448, 9, -4}
	for _, height := range []int{2, 3, 4, 5} {
		for count := range 6 {
			r := impl.Region{Width: 3, Rows: rows[:height]}
			for _, p := range [][][]impl.Cell{pieces[:count], {cells[:2]}, {cells[:3], cells[:2]}} {
				first, _ := impl.FindTiling(r, p)
				overwriteRows(first)
				later, _ := impl.TilingNumber(r, p, 1)
				overwriteRows(later)
				impl.HasTiling(r, p)
				impl.CountTilings(r, p)
				impl.IsTiling(r, p, l[:count])
			}
			impl.FormatTiling(r, l[:count])
		}
	}
	if !slices.Equal(rows, []int{7, 5, 7, 0, -5, 99}) {
		t.Errorf("the rows became %v", rows)
	}
	if !slices.Equal(cells, cellsOf(2, 1, 3, 1, 2, 2, 9, 9, -3, 4)) {
		t.Errorf("the cells became %v", cells)
	}
	if !sameShapes(pieces, append(piecesOf(t, "## # ##/#"), cellsOf(7, 0, 0, 0), cells)) {
		t.Errorf("the pieces became %v", pieces)
	}
	if !slices.Equal(l, []int{3, 36, 8, 448, 9, -4}) {
		t.Errorf("the masks became %v", l)
	}
}

// TestTilingResults checks that each call has a result of its own.
func TestTilingResults(t *testing.T) {
	r, pieces := regionOf("###/###"), piecesOf(t, "##")
	for n, want := range [][]int{{3, 36, 24}, {3, 36, 24}, {9, 6, 48}, {9, 18, 36}} {
		for range 2 {
			l, ok := impl.FindTiling(r, pieces)
			if n > 0 {
				l, ok = impl.TilingNumber(r, pieces, n-1)
			}
			if !slices.Equal(l, want) || !ok {
				t.Errorf("call %d: %v, %v, want %v", n, l, ok, want)
			}
			overwriteRows(l)
		}
	}
}
