package tests

import (
	"math"
	"slices"
	"strings"
	"testing"

	"loop.example/g03400/impl"
)

// dominoCount pairs each cell of the one color with a cell of the other color beside it, by the sets of cells that are paired already.
func dominoCount(drawing string) int {
	var colors [2][]impl.Cell
	for _, c := range drawnCells(drawing) {
		colors[(c.X+c.Y)%2] = append(colors[(c.X+c.Y)%2], c)
	}
	if len(colors[0]) != len(colors[1]) {
		return 0
	}
	ways := map[int]int{0: 1}
	for _, a := range colors[0] {
		next := map[int]int{}
		for paired, count := range ways {
			for i, b := range colors[1] {
				if paired>>i&1 == 0 && (a.X-b.X)*(a.X-b.X)+(a.Y-b.Y)*(a.Y-b.Y) == 1 {
					next[paired+1<<i] += count
				}
			}
		}
		ways = next
	}
	return ways[1<<len(colors[1])-1]
}

// rectangleFormula is the product that Kasteleyn, Temperley and Fisher found.
func rectangleFormula(w int, h int) int {
	square := func(i int, n int) float64 {
		cosine := 2 * math.Cos(math.Pi*float64(i)/float64(n+1))
		return cosine * cosine
	}
	product := 1.0
	for i := 1; i <= (w+1)/2; i++ {
		for k := 1; k <= (h+1)/2; k++ {
			product *= square(i, w) + square(k, h)
		}
	}
	return int(math.Round(product))
}

func rectangleDrawn(w int, h int) string {
	return strings.Repeat("/"+strings.Repeat("#", w), h)[1:]
}

// checkDominoes compares the count with that of the tests, and with that of chapter 8 as far as its limit.
func checkDominoes(t *testing.T, d string) {
	t.Helper()
	r, want := regionOf(d), dominoCount(d)
	if got := impl.CountDominoes(r); got != want {
		t.Fatalf("CountDominoes(%s) = %d, want %d", d, got, want)
	}
	if got := impl.CountTilings(r, [][]impl.Cell{cellsOf(0, 0, 1, 0)}); got != min(want, 2000) {
		t.Fatalf("CountTilings(%s) = %d, but there are %d", d, got, want)
	}
}

// dominoExamples are counted by hand or known from the literature, but for the greatest grid without two corners of one side, which the searches counted.
var dominoExamples = []struct {
	region string
	count  int
}{
	// No cells: there is one tiling, which has no dominoes.
	{".", 1},
	{"..", 1},
	{"./.", 1},
	{"../..", 1},
	{emptyGrid, 1},
	// One cell.
	{"#", 0},
	{".#", 0},
	{"#.", 0},
	{"../.#", 0},
	{"#/.", 0},
	{"....../....../...#../....../....../......", 0},
	{"....../....../....../....../....../.....#", 0},
	{"#...../....../....../....../....../......", 0},
	// One domino.
	{"##", 1},
	{"#/#", 1},
	{".##", 1},
	{"##.", 1},
	{"./#/#", 1},
	{"#/#/.", 1},
	{"..../.##./....", 1},
	{"....../....../....../....../.....#/.....#", 1},
	{"....../....../....../....../....../....##", 1},
	// Two cells that are no domino.
	{"#.#", 0},
	{"#..#", 0},
	{"#/./#", 0},
	{"#./.#", 0},
	{".#/#.", 0},
	{"..#/#..", 0},
	{".....#/#.....", 0},
	{"#...../....../....../....../....../.....#", 0},
	// An odd number of cells.
	{"###", 0},
	{"##/#.", 0},
	{"#####", 0},
	{"###/##.", 0},
	{"###/###/###", 0},
	{"#####/#####/#####/#####/#####", 0},
	{"######/######/######/######/######/#####.", 0},
	{".#####/######/######/######/######/######", 0},
	// Rows, columns and rectangles.
	{"####", 1},
	{"######", 1},
	{"#/#/#/#/#/#", 1},
	{"##/##", 2},
	{"###/###", 3},
	{"##/##/##", 3},
	{"####/####", 5},
	{"######/######", 13},
	{"##/##/##/##/##/##", 13},
	{"####/####/####", 11},
	{"######/######/######", 41},
	{"####/####/####/####", 36},
	{"#####/#####/#####/#####", 95},
	{"######/######/######/######/######", 1183},
	// More than MaxTilings.
	{fullGrid, 6728},
	// Ways around corners, which leave no choice.
	{"####/...#/####/#.../####", 1},
	{"##../.##./..##", 1},
	{"#.../##../.##./..#.", 1},
	{"######/.....#/######/#...../######/.....#", 0},
	{"######/.....#/######/#...../######/......", 1},
	{"#.####/#.#..#/#.#.##/#.#.#./#.#.##/###..#", 0},
	{"#.####/#.#..#/#.#.##/#.#.#./#.#.##/###...", 1},
	// Several parts.
	{"##.##", 1},
	{"##.##/##.##", 4},
	{"##.###/##.###", 6},
	{"##.###/##.###/....../######/######", 78},
	{"##.##./##.##./....../##.##./##.##.", 16},
	{"###.../###.../......", 3},
	{"##.###", 0},
	{"#.###.", 0},
	{"###.#/...../#.###", 0},
	{"#.#.#./.#.#.#", 0},
	{"##./#.#", 0},
	{"##..../..##../....##/##..../..##../....##", 1},
	// Holes.
	{"###/#.#/###", 2},
	{"####/#..#/####", 2},
	{"####/#..#/#..#/####", 2},
	{"#####/#...#/#.#.#/#...#/#####", 0},
	{"######/#....#/#.##.#/#.##.#/#....#/######", 4},
	{"#####/#.#.#/#####", 0},
	{"#####/##.##/#####", 0},
	{"#####/###.#/#####", 8},
	{"#####/#####/##.##/#####/#####", 196},
	{"###/#.#/###/###", 0},
	// Squares of an odd side without a corner, by spanning trees.
	{".##/###/###", 4},
	{"###/###/##.", 4},
	{".####/#####/#####/#####/#####", 192},
	{"####./#####/#####/#####/#####", 192},
	{"#####/#####/#####/#####/####.", 192},
	// Aztec diamonds: 2 to the power of 1, 3 and 6.
	{".##./####/####/.##.", 8},
	{"..##../.####./######/######/.####./..##..", 64},
	// Without two corners, of the same color and of both.
	{".###/####/####/###.", 0},
	{"###./####/####/.###", 0},
	{".#####/######/######/######/######/#####.", 0},
	{"#####./######/######/######/######/.#####", 0},
	{".##./####/####/####", 12},
	{".####./######/######/######/######/######", 1624},
	{"######/######/######/######/######/.####.", 1624},
	{".#####/######/######/######/######/.#####", 1624},
	// As many cells of one color as of the other, without a tiling.
	{"###/.#./.#./###", 0},
	{"#.##/##.#", 0},
	{"#.#/###/#.#/###", 0},
	{"#.####/.#####/######/###.##/######/#####.", 0},
	{"####.#/#####./######/######/.#####/#.####", 0},
	{"###.../###.../###.../....../.....#/......", 0},
	{"#####./######/######/....../######/#####.", 0},
}

func TestDominoExamples(t *testing.T) {
	for _, c := range dominoExamples {
		if got := impl.CountDominoes(regionOf(c.region)); got != c.count {
			t.Errorf("CountDominoes(%s) = %d, want %d", c.region, got, c.count)
		}
		checkDominoes(t, c.region)
	}
}

func TestDominoesOfSmallRegions(t *testing.T) {
	for _, d := range slices.Concat(smallDrawings(), drawingsIn(4, 3), drawingsIn(3, 4), drawingsIn(6, 2), drawingsIn(2, 6), drawingsIn(4, 4)) {
		checkDominoes(t, d)
	}
}

func TestDominoesOfGreatRegions(t *testing.T) {
	for _, d := range greatDrawings() {
		checkDominoes(t, d)
	}
	for _, c := range regionExamples {
		checkDominoes(t, c.format)
	}
}

// TestDominoesWithoutSomeCells takes two cells of the greatest grid away, in all ways, and then four cells, in some.
func TestDominoesWithoutSomeCells(t *testing.T) {
	some, tiled := 0, 0
	for one := range 36 {
		for other := range one {
			checkDominoes(t, maskDrawn(1<<36-1-1<<one-1<<other, 6, 6))
			for third := range other {
				for fourth := range third {
					some++
					if some%150 == 0 {
						d := maskDrawn(1<<36-1-1<<one-1<<other-1<<third-1<<fourth, 6, 6)
						checkDominoes(t, d)
						if impl.CountDominoes(regionOf(d)) > 0 {
							tiled++
						}
					}
				}
			}
		}
	}
	if tiled < 50 {
		t.Errorf("only %d regions have tilings", tiled)
	}
}

func TestDominoesOfRectangles(t *testing.T) {
	for w := 1; w <= 6; w++ {
		for h := 1; h <= 6; h++ {
			r, _ := impl.RectangleOf(w, h)
			if got, want := impl.CountDominoes(r), rectangleFormula(w, h); got != want {
				t.Errorf("CountDominoes of %d by %d = %d, want %d", w, h, got, want)
			}
			checkDominoes(t, rectangleDrawn(w, h))
		}
	}
}

// TestDominoesOfParts has each part tiled on its own.
func TestDominoesOfParts(t *testing.T) {
	for i, d := range everyRegion() {
		if i%5 > 0 {
			continue
		}
		product := 1
		for _, part := range partsOf(d) {
			product *= impl.CountDominoes(regionOf(part))
		}
		if got := impl.CountDominoes(regionOf(d)); got != product {
			t.Errorf("CountDominoes(%s) = %d, want %d", d, got, product)
		}
	}
}

// TestDominoesInMotion has the same numbers for a region whose columns and rows are exchanged, or whose rows or columns are in reverse order.
func TestDominoesInMotion(t *testing.T) {
	for i, d := range greatDrawings() {
		if i%9 < 6 {
			continue
		}
		r := regionOf(d)
		var exchanged []impl.Cell
		for _, c := range drawnCells(d) {
			exchanged = append(exchanged, impl.Cell{X: c.Y, Y: c.X})
		}
		letters := []byte(d)
		slices.Reverse(letters)
		rows := slices.Clone(r.Rows)
		slices.Reverse(rows)
		want := impl.CountDominoes(r)
		if got := impl.CountDominoes(regionOf(drawnOf(exchanged, len(r.Rows), r.Width))); got != want {
			t.Errorf("CountDominoes of the exchanged %s = %d, want %d", d, got, want)
		}
		if got := impl.CountDominoes(regionOf(string(letters))); got != want {
			t.Errorf("CountDominoes of the turned %s = %d, want %d", d, got, want)
		}
		if got := impl.CountDominoes(impl.Region{Width: r.Width, Rows: rows}); got != want {
			t.Errorf("CountDominoes of the reversed %s = %d, want %d", d, got, want)
		}
	}
}

func TestDominoesInNoRegions(t *testing.T) {
	for why, r := range noRegions {
		if got := impl.CountDominoes(r); got != -1 {
			t.Errorf("%s: CountDominoes(%v) = %d", why, r, got)
		}
	}
}

// stripCounts are known from the literature, for the widths from 1 on.
var stripCounts = [][]int{
	{1, 0, 1, 0, 1, 0, 1, 0, 1, 0, 1, 0, 1, 0, 1, 0, 1},
	{1, 1, 2, 3, 5, 8, 13, 21, 34, 55, 89, 144, 233, 377, 610, 987, 1597},
	{1, 0, 3, 0, 11, 0, 41, 0, 153, 0, 571, 0, 2131, 0, 7953, 0, 29681},
	{1, 1, 5, 11, 36, 95, 281, 781, 2245, 6336, 18061, 51205, 145601, 413351, 1174500, 3335651, 9475901},
}

func TestStrips(t *testing.T) {
	for i, counts := range stripCounts {
		w := i + 1
		if len(counts) != 17 {
			t.Fatalf("there are %d counts for %d columns", len(counts), w)
		}
		for n, want := range counts {
			if n > 0 && want != rectangleFormula(w, n) {
				t.Errorf("%d by %d has %d tilings by the formula", w, n, rectangleFormula(w, n))
			}
			if got := impl.StripCount(w, n); got != want {
				t.Errorf("StripCount(%d, %d) = %d, want %d", w, n, got, want)
			}
			if got := impl.StripSequence(w, n); !slices.Equal(got, counts[:n+1]) || got[0] != 1 {
				t.Errorf("StripSequence(%d, %d) = %v, want %v", w, n, got, counts[:n+1])
			}
		}
	}
}

// TestStripsAreRectangles has the same numbers as the regions and the searches, where there is such a region.
func TestStripsAreRectangles(t *testing.T) {
	for w := 1; w <= 4; w++ {
		for n := 1; n <= 6; n++ {
			r, ok := impl.RectangleOf(w, n)
			if got, want := impl.StripCount(w, n), impl.CountDominoes(r); got != want || !ok {
				t.Errorf("StripCount(%d, %d) = %d, want %d", w, n, got, want)
			}
			if got, want := impl.StripCount(w, n), impl.CountTilings(r, piecesOf(t, "##")); got != want {
				t.Errorf("StripCount(%d, %d) = %d, but CountTilings is %d", w, n, got, want)
			}
			if n <= 4 && impl.StripCount(w, n) != impl.StripCount(n, w) {
				t.Errorf("StripCount(%d, %d) = %d, but turned it is %d", w, n, impl.StripCount(w, n), impl.StripCount(n, w))
			}
		}
	}
}

// numbersBeside are those to try that are not from least to most.
func numbersBeside(least int, most int) []int {
	isWithin := func(n int) bool { return n >= least && n <= most }
	return slices.DeleteFunc(append(numbersToTry(), least-1, most+1, -least, -most, least+1<<32, most+1<<32), isWithin)
}

func TestNoStrips(t *testing.T) {
	check := func(w int, n int) {
		t.Helper()
		if got := impl.StripCount(w, n); got != -1 {
			t.Errorf("StripCount(%d, %d) = %d", w, n, got)
		}
		if got := impl.StripSequence(w, n); len(got) > 0 {
			t.Errorf("StripSequence(%d, %d) = %v", w, n, got)
		}
	}
	for _, w := range append(numbersBeside(1, 4), -4, -1, 0, 5, 6, 7, 8, 16) {
		for n := range 18 {
			check(w, n)
		}
		check(w, -1)
		check(w, w)
	}
	for _, n := range append(numbersBeside(0, 16), -16, -2, -1, 17, 18, 32) {
		for w := 1; w <= 4; w++ {
			check(w, n)
		}
	}
}

// rowFillings counts the ways to fill a row: each place is filled already (f), or a domino stands there (s), or it is the left or the right place of one that lies (l, r).
func rowFillings(w int) [][]int {
	out := make([][]int, 1<<w)
	for i := range out {
		out[i] = make([]int, 1<<w)
	}
	for _, filling := range stringsOver("fslr", w) {
		if len(filling) != w || strings.ContainsAny(strings.ReplaceAll(filling, "lr", "-"), "lr") {
			continue
		}
		filled, reached := 0, 0
		for i, place := range filling {
			if place == 'f' {
				filled += 1 << i
			}
			if place == 's' {
				reached += 1 << i
			}
		}
		out[filled][reached]++
	}
	return out
}

func sameMatrix(a [][]int, b [][]int) bool {
	return slices.EqualFunc(a, b, slices.Equal[[]int])
}

// transferExamples are filled by hand.
var transferExamples = [][][]int{
	{{0, 1}, {1, 0}},
	{{1, 0, 0, 1}, {0, 0, 1, 0}, {0, 1, 0, 0}, {1, 0, 0, 0}},
	{
		{0, 1, 0, 0, 1, 0, 0, 1},
		{1, 0, 0, 0, 0, 0, 1, 0},
		{0, 0, 0, 0, 0, 1, 0, 0},
		{0, 0, 0, 0, 1, 0, 0, 0},
		{1, 0, 0, 1, 0, 0, 0, 0},
		{0, 0, 1, 0, 0, 0, 0, 0},
		{0, 1, 0, 0, 0, 0, 0, 0},
		{1, 0, 0, 0, 0, 0, 0, 0},
	},
}

func TestTransferExamples(t *testing.T) {
	for i, want := range transferExamples {
		if got, ok := impl.TransferMatrix(i + 1); !sameMatrix(got, want) || !ok {
			t.Errorf("TransferMatrix(%d) = %v, %v, want %v", i+1, got, ok, want)
		}
	}
	first := []int{1, 0, 0, 1, 0, 0, 0, 0, 0, 1, 0, 0, 1, 0, 0, 1}
	if got, ok := impl.TransferMatrix(4); len(got) != 16 || !slices.Equal(got[0], first) || !ok {
		t.Errorf("TransferMatrix(4) = %v, %v", got, ok)
	}
}

func TestTransferMatrix(t *testing.T) {
	for w := 1; w <= 4; w++ {
		want := rowFillings(w)
		got, ok := impl.TransferMatrix(w)
		if !sameMatrix(got, want) || !ok {
			t.Errorf("TransferMatrix(%d) = %v, %v, want %v", w, got, ok, want)
		}
		for a := range got {
			for b := range got {
				if got[a][b] != got[b][a] {
					t.Errorf("TransferMatrix(%d) has %d in %d, %d and %d in the other place", w, got[a][b], a, b, got[b][a])
				}
			}
		}
	}
}

func TestNoTransferMatrix(t *testing.T) {
	for _, w := range append(numbersBeside(1, 4), -4, -1, 0, 5, 6, 7, 8, 16, 64, 65) {
		if got, ok := impl.TransferMatrix(w); len(got) > 0 || ok {
			t.Errorf("TransferMatrix(%d) = %v, %v", w, got, ok)
		}
	}
}

func identity(n int) [][]int {
	out := squareOf(n, 0)
	for i := range out {
		out[i][i] = 1
	}
	return out
}

func squareOf(n int, number int) [][]int {
	out := make([][]int, n)
	for i := range out {
		out[i] = slices.Repeat([]int{number}, n)
	}
	return out
}

func greatestOf(m [][]int) int {
	out := m[0][0]
	for _, row := range m {
		out = max(out, slices.Max(row))
	}
	return out
}

// product adds for each place the products of a row and a column.
func product(a [][]int, b [][]int) [][]int {
	out := squareOf(len(a), 0)
	for row := range a {
		for column := range a {
			for i := range a {
				out[row][column] += a[row][i] * b[i][column]
			}
		}
	}
	return out
}

// TestPowersCountStrips multiplies as far as the numbers are not too great, with the transfer matrix as the second and as the first one.
func TestPowersCountStrips(t *testing.T) {
	for w := 1; w <= 4; w++ {
		m, _ := impl.TransferMatrix(w)
		last := 16
		if w == 4 {
			last = 14
		}
		power := identity(1 << w)
		for n := range 17 {
			if power[0][0] != impl.StripCount(w, n) {
				t.Errorf("the power %d for %d columns has %d tilings, want %d", n, w, power[0][0], impl.StripCount(w, n))
			}
			if got, want := greatestOf(power) <= 1000000, n < last || w < 4; got != want {
				t.Fatalf("the power %d for %d columns has numbers up to %d", n, w, greatestOf(power))
			}
			next, ok := impl.MultiplyInts(power, m)
			other, too := impl.MultiplyInts(m, power)
			if n == last && w == 4 {
				if len(next) > 0 || ok || len(other) > 0 || too {
					t.Errorf("the power %d for %d columns was multiplied", n, w)
				}
				break
			}
			if !sameMatrix(next, product(power, m)) || !ok || !sameMatrix(other, next) || !too {
				t.Fatalf("the power %d for %d columns is %v, %v or %v, %v", n+1, w, next, ok, other, too)
			}
			power = next
		}
	}
}

// TestPowersCountRegions has, in row a and column b of a power, the tilings of a rectangle without the places of a in its first row and those of b in its last one, where dominoes reach out of it.
func TestPowersCountRegions(t *testing.T) {
	for w := 1; w <= 4; w++ {
		m, _ := impl.TransferMatrix(w)
		power := m
		for n := 1; n <= 6; n++ {
			for a := range 1 << w {
				for b := range 1 << w {
					want := 0
					if n > 1 || a&b == 0 {
						r, _ := impl.RectangleOf(w, n)
						r.Rows[0] &^= a
						r.Rows[n-1] &^= b
						want = impl.CountDominoes(r)
					}
					if power[a][b] != want {
						t.Fatalf("the power %d for %d columns has %d in %d, %d, want %d", n, w, power[a][b], a, b, want)
					}
				}
			}
			power, _ = impl.MultiplyInts(power, m)
		}
	}
}

// someSquares are matrices of n rows with the numbers 0 and 1000000 and some between them.
func someSquares(n int) [][][]int {
	out := [][][]int{squareOf(n, 0), squareOf(n, 1), squareOf(n, 1000000), squareOf(n, 999999), identity(n), identity(n)}
	slices.Reverse(out[5])
	number := uint64(n)
	for i := range 6 {
		m := squareOf(n, 0)
		for row := range m {
			for column := range m {
				number = number*6364136223846793005 + 1442695040888963407
				m[row][column] = int(number>>33) % []int{2, 10, 1000, 1000001}[i%4]
				if i > 3 && number>>50%3 == 0 {
					m[row][column] = 1000000
				}
			}
		}
		out = append(out, m)
	}
	return out
}

func TestMultiplyExamples(t *testing.T) {
	for _, c := range []struct{ a, b, want [][]int }{
		{[][]int{{0}}, [][]int{{0}}, [][]int{{0}}},
		{[][]int{{2}}, [][]int{{3}}, [][]int{{6}}},
		{[][]int{{1000000}}, [][]int{{0}}, [][]int{{0}}},
		{[][]int{{1000000}}, [][]int{{1000000}}, [][]int{{1000000000000}}},
		{[][]int{{1, 2}, {3, 4}}, [][]int{{0, 1}, {1, 1}}, [][]int{{2, 3}, {4, 7}}},
		{[][]int{{0, 1}, {1, 1}}, [][]int{{1, 2}, {3, 4}}, [][]int{{3, 4}, {4, 6}}},
		{[][]int{{1, 2}, {3, 4}}, [][]int{{1, 0}, {0, 1}}, [][]int{{1, 2}, {3, 4}}},
		{[][]int{{0, 1}, {1, 0}}, [][]int{{1, 2}, {3, 4}}, [][]int{{3, 4}, {1, 2}}},
		{[][]int{{1, 2}, {3, 4}}, [][]int{{0, 1}, {1, 0}}, [][]int{{2, 1}, {4, 3}}},
		{[][]int{{1, 2, 3}, {4, 5, 6}, {7, 8, 9}}, [][]int{{9, 8, 7}, {6, 5, 4}, {3, 2, 1}}, [][]int{{30, 24, 18}, {84, 69, 54}, {138, 114, 90}}},
	} {
		if got, ok := impl.MultiplyInts(c.a, c.b); !sameMatrix(got, c.want) || !ok {
			t.Errorf("MultiplyInts(%v, %v) = %v, %v, want %v", c.a, c.b, got, ok, c.want)
		}
	}
	if got, ok := impl.MultiplyInts(squareOf(16, 1000000), squareOf(16, 1000000)); !sameMatrix(got, squareOf(16, 16000000000000)) || !ok {
		t.Errorf("MultiplyInts of the greatest matrices = %v, %v", got, ok)
	}
}

func TestMultiplyInts(t *testing.T) {
	for n := 1; n <= 16; n++ {
		for _, a := range someSquares(n) {
			for _, b := range someSquares(n) {
				if got, ok := impl.MultiplyInts(a, b); !sameMatrix(got, product(a, b)) || !ok {
					t.Fatalf("MultiplyInts(%v, %v) = %v, %v, want %v", a, b, got, ok, product(a, b))
				}
			}
		}
	}
}

func TestTraceOf(t *testing.T) {
	for n := 1; n <= 16; n++ {
		for _, m := range someSquares(n) {
			want := 0
			for i := range m {
				want += m[i][i]
			}
			if got := impl.TraceOf(m); got != want {
				t.Errorf("TraceOf(%v) = %d, want %d", m, got, want)
			}
		}
		if got := impl.TraceOf(identity(n)); got != n {
			t.Errorf("TraceOf of the identity of %d rows = %d", n, got)
		}
	}
	for _, c := range []struct {
		m    [][]int
		want int
	}{
		{[][]int{{0}}, 0},
		{[][]int{{7}}, 7},
		{[][]int{{1000000}}, 1000000},
		{[][]int{{1, 2}, {3, 4}}, 5},
		{[][]int{{0, 1000000}, {1000000, 0}}, 0},
		{[][]int{{1, 2, 3}, {4, 5, 6}, {7, 8, 9}}, 15},
		{squareOf(16, 1000000), 16000000},
	} {
		if got := impl.TraceOf(c.m); got != c.want {
			t.Errorf("TraceOf(%v) = %d, want %d", c.m, got, c.want)
		}
	}
}

// checkNoMatrix has a matrix that is not valid as the first and as the second one, beside valid ones and beside itself.
func checkNoMatrix(t *testing.T, why string, m [][]int) {
	t.Helper()
	if got := impl.TraceOf(m); got != 0 {
		t.Errorf("%s: TraceOf(%v) = %d", why, m, got)
	}
	if got, ok := impl.MultiplyInts(m, m); len(got) > 0 || ok {
		t.Errorf("%s: MultiplyInts(%v, itself) = %v, %v", why, m, got, ok)
	}
	for _, n := range []int{len(m), len(m) - 1, len(m) + 1, 1, 2, 16} {
		if n < 1 || n > 16 {
			continue
		}
		for _, valid := range [][][]int{identity(n), squareOf(n, 0), squareOf(n, 1)} {
			if got, ok := impl.MultiplyInts(m, valid); len(got) > 0 || ok {
				t.Errorf("%s: MultiplyInts(%v, %v) = %v, %v", why, m, valid, got, ok)
			}
			if got, ok := impl.MultiplyInts(valid, m); len(got) > 0 || ok {
				t.Errorf("%s: MultiplyInts(%v, %v) = %v, %v", why, valid, m, got, ok)
			}
		}
	}
}

// noMatrices are those that are not valid, by the reason for it.
var noMatrices = map[string][][]int{
	"nil":                       nil,
	"no rows":                   {},
	"a row without numbers":     {{}},
	"a row that is nil":         {nil},
	"rows without numbers":      {{}, {}},
	"one row of two":            {{1, 1}},
	"two rows of one":           {{1}, {1}},
	"two rows of three":         {{1, 1, 1}, {1, 1, 1}},
	"three rows of two":         {{1, 1}, {1, 1}, {1, 1}},
	"a first row too short":     {{1}, {1, 1}},
	"a last row too short":      {{1, 1}, {1}},
	"a first row without any":   {{}, {1, 1}},
	"a last row without any":    {{1, 1}, {}},
	"a first row too long":      {{1, 1, 1}, {1, 1}},
	"a last row too long":       {{1, 1}, {1, 1, 1}},
	"rows as long together":     {{1}, {1, 1, 1}},
	"rows as long in the order": {{1, 1, 1}, {1}},
	"a triangle":                {{1, 1, 1}, {1, 1}, {1}},
	"one row of sixteen":        {slices.Repeat([]int{1}, 16)},
	"sixteen rows of fifteen":   slices.Repeat([][]int{slices.Repeat([]int{1}, 15)}, 16),
	"fifteen rows of sixteen":   slices.Repeat([][]int{slices.Repeat([]int{1}, 16)}, 15),
	"sixteen rows of seventeen": slices.Repeat([][]int{slices.Repeat([]int{1}, 17)}, 16),
	"seventeen rows of sixteen": slices.Repeat([][]int{slices.Repeat([]int{1}, 16)}, 17),
	"seventeen rows":            squareOf(17, 1),
	"seventeen rows of 0":       squareOf(17, 0),
	"eighteen rows":             squareOf(18, 1),
	"thirty-two rows":           squareOf(32, 1),
	"a hundred rows":            squareOf(100, 1),
	"many rows of one":          slices.Repeat([][]int{{1}}, 256),
	"one number negative":       {{-1}},
	"one number too great":      {{1000001}},
	"all negative":              squareOf(3, -1),
	"all too great":             squareOf(16, 1000001),
}

func TestNoMatrices(t *testing.T) {
	for why, m := range noMatrices {
		checkNoMatrix(t, why, m)
	}
	for n := 1; n <= 16; n++ {
		if _, ok := impl.MultiplyInts(squareOf(n, 1), squareOf(n, 1)); !ok {
			t.Errorf("%d rows are not accepted", n)
		}
	}
}

// TestNumbersOutOfRange puts each number into each place of small matrices, and some places of the greatest ones.
func TestNumbersOutOfRange(t *testing.T) {
	for _, number := range append(numbersBeside(0, 1000000), -1, 1000001, -1000000, 2000000) {
		for n := 1; n <= 3; n++ {
			for place := range n * n {
				m := squareOf(n, 1)
				m[place/n][place%n] = number
				checkNoMatrix(t, "number out of range", m)
			}
		}
	}
	for _, number := range []int{-1, 1000001, math.MinInt, math.MaxInt} {
		for _, n := range []int{4, 8, 15, 16} {
			for place := range n * n {
				m := squareOf(n, 0)
				m[place/n][place%n] = number
				checkNoMatrix(t, "number out of range", m)
			}
		}
	}
}

// TestRowsOfUnequalLength makes one row of valid matrices shorter or longer.
func TestRowsOfUnequalLength(t *testing.T) {
	for n := 1; n <= 16; n++ {
		for row := range n {
			m := squareOf(n, 1)
			m[row] = append(m[row], 1)
			checkNoMatrix(t, "a row too long", m)
			m[row] = m[row][:n-1]
			checkNoMatrix(t, "a row too short", m)
			m[row] = nil
			checkNoMatrix(t, "a row without numbers", m)
			m[row] = slices.Repeat([]int{1}, 2*n)
			checkNoMatrix(t, "a row twice as long", m)
		}
	}
}

func TestDifferentNumbersOfRows(t *testing.T) {
	for n := range 19 {
		for other := range 19 {
			want := n == other && n >= 1 && n <= 16
			if got, ok := impl.MultiplyInts(squareOf(n, 1), squareOf(other, 1)); ok != want || !want && len(got) > 0 {
				t.Errorf("MultiplyInts of %d and %d rows = %v, %v", n, other, got, ok)
			}
		}
	}
}

// overwriteAll writes a number to a row and to its unused capacity.
func overwriteAll(row []int, number int) {
	row = row[:cap(row)]
	for i := range row {
		row[i] = number
	}
}

// checkOwnRows overwrites each row of a matrix, which must not change the other ones.
func checkOwnRows(t *testing.T, why string, m [][]int) {
	t.Helper()
	want := make([][]int, len(m))
	for i, row := range m {
		want[i] = slices.Clone(row)
	}
	for i := range m {
		overwriteAll(m[i], -1-i)
		want[i] = slices.Repeat([]int{-1 - i}, len(m[i]))
		if !sameMatrix(m, want) {
			t.Fatalf("%s: the matrix became %v, want %v", why, m, want)
		}
	}
}

// TestMatrixResults checks that no two rows share memory, and that each call has a result of its own.
func TestMatrixResults(t *testing.T) {
	for range 2 {
		for w := 1; w <= 4; w++ {
			m, _ := impl.TransferMatrix(w)
			other, _ := impl.TransferMatrix(w)
			checkOwnRows(t, "TransferMatrix", m)
			if !sameMatrix(other, rowFillings(w)) {
				t.Errorf("TransferMatrix(%d) became %v", w, other)
			}
			for n := range 17 {
				l, later := impl.StripSequence(w, n), impl.StripSequence(w, n)
				overwriteAll(l, -1)
				if !slices.Equal(later, stripCounts[w-1][:n+1]) {
					t.Errorf("StripSequence(%d, %d) became %v", w, n, later)
				}
			}
		}
		for n := 1; n <= 16; n++ {
			a, b := someSquares(n)[9], someSquares(n)[8]
			for _, pair := range [][2][][]int{{a, b}, {identity(n), b}, {a, identity(n)}, {squareOf(n, 0), b}, {a, a}} {
				want := product(pair[0], pair[1])
				m, _ := impl.MultiplyInts(pair[0], pair[1])
				other, _ := impl.MultiplyInts(pair[0], pair[1])
				checkOwnRows(t, "MultiplyInts", m)
				if !sameMatrix(other, want) || !sameMatrix(product(pair[0], pair[1]), want) {
					t.Errorf("MultiplyInts of %d rows changed what it was given, or another result", n)
				}
			}
		}
	}
}

// TestTransferArguments gives the functions parts of longer lists, which have to stay as they are.
func TestTransferArguments(t *testing.T) {
	rows := []int{7, 5, 7, 0, -5, 99}
	for height := range 7 {
		impl.CountDominoes(impl.Region{Width: 3, Rows: rows[:height]})
	}
	if !slices.Equal(rows, []int{7, 5, 7, 0, -5, 99}) {
		t.Errorf("the rows became %v", rows)
	}
	numbers := []int{3, 1, 4, 1, 5, 9, 2, 6, 5, 3, 5, -8, 9, 7, 1000001, 3}
	whole := slices.Clone(numbers)
	for start := range 4 {
		for n := range 5 {
			var lists [][]int
			for i := range 4 {
				lists = append(lists, numbers[start*i:][:n])
			}
			kept := slices.Clone(lists)
			for count := range 5 {
				for other := range 5 {
					m, ok := impl.MultiplyInts(lists[:count], lists[:other])
					if valid := count == n && other == n && n > 0; ok && !valid {
						t.Errorf("MultiplyInts(%v, %v) = %v", lists[:count], lists[:other], m)
					}
					for i := range m {
						overwriteAll(m[i], -1)
					}
					clear(m[:cap(m)])
				}
				impl.TraceOf(lists[:count])
			}
			for i := range lists {
				if len(lists[i]) != n || cap(lists[i]) != cap(kept[i]) || n > 0 && &lists[i][0] != &kept[i][0] {
					t.Errorf("row %d of %d became %v", i, n, lists[i])
				}
			}
		}
	}
	if !slices.Equal(numbers, whole) {
		t.Errorf("the numbers became %v", numbers)
	}
}
