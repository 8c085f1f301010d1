package tests

import (
	"math"
	"slices"
	"strings"
	"testing"

	"loop.example/g03400/impl"
)

var primes = []int{2, 3, 5}

// notPrimes are numbers other than 2, 3 and 5, also those that have the bits of these at their end or beyond it.
func notPrimes() []int {
	var out []int
	for _, n := range append(numbersToTry(), -5, -3, -2, -1, 0, 1, 4, 6, 7, 8, 9, 10, 11, 13, 15, 25, 30, 257, 258, 259, 261, 1<<16+2, 1<<32+2, 1<<32+3, 1<<32+5, 1<<62+3, math.MinInt+2, math.MinInt+5) {
		if n != 2 && n != 3 && n != 5 {
			out = append(out, n)
		}
	}
	return out
}

func placesOf(drawing string) int {
	return len(strings.ReplaceAll(drawing, "/", ""))
}

// sumAt adds the numbers at the places of a mask.
func sumAt(l []int, mask int, p int) int {
	sum := 0
	for i, n := range l {
		if mask>>i&1 == 1 {
			sum = (sum + n) % p
		}
	}
	return sum
}

func areBelow(l []int, count int, p int) bool {
	for _, n := range l {
		if n < 0 || n >= p {
			return false
		}
	}
	return len(l) == count
}

func sumsAreZero(placements []int, p int, w []int) bool {
	for _, mask := range placements {
		if sumAt(w, mask, p) != 0 {
			return false
		}
	}
	return true
}

func isProof(drawing string, placements []int, p int, w []int) bool {
	return areBelow(w, placesOf(drawing), p) && sumsAreZero(placements, p, w) && sumAt(w, maskOf(drawing), p) != 0
}

// sumsOfPlaces has for each place the sum of the numbers of the placements that contain it.
func sumsOfPlaces(drawing string, placements []int, p int, k []int) []int {
	out := make([]int, placesOf(drawing))
	for i, mask := range placements {
		for place := range out {
			if mask>>place&1 == 1 {
				out[place] = (out[place] + k[i]) % p
			}
		}
	}
	return out
}

func isSigned(drawing string, placements []int, p int, k []int) bool {
	return areBelow(k, len(placements), p) && slices.Equal(sumsOfPlaces(drawing, placements, p, k), digitsDrawn(drawing))
}

// digitsDrawn has a 1 for each cell.
func digitsDrawn(drawing string) []int {
	var out []int
	for place := range placesOf(drawing) {
		out = append(out, maskOf(drawing)>>place&1)
	}
	return out
}

// listsModulo has all lists of so many numbers from 0 up to p.
func listsModulo(p int, count int) [][]int {
	out := [][]int{nil}
	for range count {
		var next [][]int
		for _, l := range out {
			for n := range p {
				next = append(next, append(slices.Clone(l), n))
			}
		}
		out = next
	}
	return out
}

// freeColumns are the columns without a leading one in the reduced row echelon form of equations, by all solutions that these have with the sums 0: in such a column, and in no other one, the last number of a solution that is not 0 can be.
func freeColumns(solutions [][]int, columns int) []bool {
	out := make([]bool, columns)
	for _, l := range solutions {
		for i, n := range slices.Backward(l) {
			if n != 0 {
				out[i] = true
				break
			}
		}
	}
	return out
}

// isUnit tells whether a list has 1 at one column, or at none if it is -1, and 0 at the other ones of some columns.
func isUnit(l []int, column int, columns []bool) bool {
	for i, isOne := range columns {
		if isOne && (i == column && l[i] != 1 || i != column && l[i] != 0) {
			return false
		}
	}
	return true
}

// weightsTried looks at all weights.
func weightsTried(t *testing.T, drawing string, placements []int, p int, lists [][]int) ([]int, bool) {
	t.Helper()
	var solutions [][]int
	for _, w := range lists {
		if sumsAreZero(placements, p, w) {
			solutions = append(solutions, w)
		}
	}
	free := freeColumns(solutions, placesOf(drawing))
	for column, isFree := range free {
		var found [][]int
		for _, w := range solutions {
			if isFree && isUnit(w, column, free) {
				found = append(found, w)
			}
		}
		if isFree != (len(found) == 1) {
			t.Fatalf("%s has %d solutions for column %d modulo %d", drawing, len(found), column, p)
		}
		if isFree && sumAt(found[0], maskOf(drawing), p) != 0 {
			return found[0], true
		}
	}
	return nil, false
}

// signedTried looks at all numbers for the placements.
func signedTried(t *testing.T, drawing string, placements []int, p int, lists [][]int) ([]int, bool) {
	t.Helper()
	var zeros, ones [][]int
	for _, k := range lists {
		if slices.Max(append(sumsOfPlaces(drawing, placements, p, k), 0)) == 0 {
			zeros = append(zeros, k)
		}
		if isSigned(drawing, placements, p, k) {
			ones = append(ones, k)
		}
	}
	free := freeColumns(zeros, len(placements))
	var found [][]int
	for _, k := range ones {
		if isUnit(k, -1, free) {
			found = append(found, k)
		}
	}
	if len(found) != min(len(ones), 1) {
		t.Fatalf("%s has %d signed tilings modulo %d, of which %d are 0 in some columns", drawing, len(ones), p, len(found))
	}
	if len(found) == 0 {
		return nil, false
	}
	return found[0], true
}

// span has the columns that are no combinations of earlier ones, which are those with a leading one, and in another form, in which each has a 1 at a place where all later ones have 0, together with the factors by which the columns give it.
type span struct {
	p       int
	columns []int
	tops    []int
	vectors [][]int
	factors [][]int
}

// rest takes combinations of the columns away from a vector, and returns what remains of it, and the factors.
func (s *span) rest(vector []int) ([]int, []int) {
	rest, factors := slices.Clone(vector), make([]int, len(s.columns))
	for i, top := range s.tops {
		times := rest[top]
		for k := range rest {
			rest[k] = (rest[k] + (s.p-times)*s.vectors[i][k]) % s.p
		}
		for k, factor := range s.factors[i] {
			factors[k] = (factors[k] + times*factor) % s.p
		}
	}
	return rest, factors
}

func isNotZero(n int) bool { return n != 0 }

// add returns the factors of a column that is a combination.
func (s *span) add(column int, vector []int) ([]int, bool) {
	rest, factors := s.rest(vector)
	top := slices.IndexFunc(rest, isNotZero)
	if top < 0 {
		return factors, true
	}
	inverse := 1
	for inverse*rest[top]%s.p != 1 {
		inverse++
	}
	for k := range rest {
		rest[k] = rest[k] * inverse % s.p
	}
	own := make([]int, len(factors)+1)
	for k, factor := range factors {
		own[k] = (s.p - factor) * inverse % s.p
	}
	own[len(factors)] = inverse
	s.columns, s.tops = append(s.columns, column), append(s.tops, top)
	s.vectors, s.factors = append(s.vectors, rest), append(s.factors, own)
	return nil, false
}

// weightsSpanned finds the weights by columns instead of rows.
func weightsSpanned(drawing string, placements []int, p int) ([]int, bool) {
	s := span{p: p}
	for place := range placesOf(drawing) {
		var vector []int
		for _, mask := range placements {
			vector = append(vector, mask>>place&1)
		}
		factors, ok := s.add(place, vector)
		if !ok {
			continue
		}
		w := make([]int, placesOf(drawing))
		w[place] = 1
		for k, factor := range factors {
			w[s.columns[k]] = (p - factor) % p
		}
		if sumAt(w, maskOf(drawing), p) != 0 {
			return w, true
		}
	}
	return nil, false
}

// signedSpanned finds the numbers by columns instead of rows.
func signedSpanned(drawing string, placements []int, p int) ([]int, bool) {
	s := span{p: p}
	for i, mask := range placements {
		var vector []int
		for place := range placesOf(drawing) {
			vector = append(vector, mask>>place&1)
		}
		s.add(i, vector)
	}
	rest, factors := s.rest(digitsDrawn(drawing))
	if slices.ContainsFunc(rest, isNotZero) {
		return nil, false
	}
	k := make([]int, len(placements))
	for i, factor := range factors {
		k[s.columns[i]] = factor
	}
	return k, true
}

// answers are what is to be found modulo a prime.
type answers struct {
	weights     []int
	isForbidden bool
	signed      []int
	hasSigned   bool
}

// checkFound compares what is found with what the tests find, and has it checked.
func checkFound(t *testing.T, d string, pieces [][]impl.Cell, placements []int, p int, want answers) {
	t.Helper()
	r := regionOf(d)
	if got, ok := impl.FindWeights(r, pieces, p); !slices.Equal(got, want.weights) || ok != want.isForbidden {
		t.Fatalf("FindWeights(%s, %v, %d) = %v, %v, want %v", d, pieces, p, got, ok, want)
	}
	if got, ok := impl.FindSigned(r, pieces, p); !slices.Equal(got, want.signed) || ok != want.hasSigned {
		t.Fatalf("FindSigned(%s, %v, %d) = %v, %v, want %v", d, pieces, p, got, ok, want)
	}
	if want.isForbidden == want.hasSigned {
		t.Fatalf("%s by %v has both weights and a signed tiling modulo %d, or neither: %v", d, pieces, p, want)
	}
	if got := impl.IsWeightProof(r, pieces, p, want.weights); got != want.isForbidden || got != isProof(d, placements, p, want.weights) {
		t.Fatalf("IsWeightProof(%s, %v, %d, %v) = %v", d, pieces, p, want.weights, got)
	}
	if got := impl.IsSignedTiling(r, pieces, p, want.signed); got != want.hasSigned || got != isSigned(d, placements, p, want.signed) {
		t.Fatalf("IsSignedTiling(%s, %v, %d, %v) = %v", d, pieces, p, want.signed, got)
	}
}

// onesAt has a 1 for each placement that is in a list, and 0 for the others.
func onesAt(placements []int, l []int) []int {
	out := make([]int, len(placements))
	for i, mask := range placements {
		if slices.Contains(l, mask) {
			out[i] = 1
		}
	}
	return out
}

// checkWeights compares what is found modulo each prime with what the tests find by columns, and with tilings, for a region with these placements of the pieces.
func checkWeights(t *testing.T, d string, pieces [][]impl.Cell, placements []int) {
	t.Helper()
	r := regionOf(d)
	l, isTiled := impl.FindTiling(r, pieces)
	for _, p := range primes {
		var want answers
		want.weights, want.isForbidden = weightsSpanned(d, placements, p)
		want.signed, want.hasSigned = signedSpanned(d, placements, p)
		checkFound(t, d, pieces, placements, p, want)
		if isTiled && want.isForbidden {
			t.Fatalf("%s by %v has the tiling %v, and %v forbids it modulo %d", d, pieces, l, want.weights, p)
		}
		if got := impl.IsSignedTiling(r, pieces, p, onesAt(placements, l)); got != isTiled {
			t.Fatalf("IsSignedTiling(%s, %v, %d) = %v for the tiling %v", d, pieces, p, got, l)
		}
	}
}

func TestIsPrime(t *testing.T) {
	for _, p := range primes {
		if !impl.IsPrime(p) {
			t.Errorf("IsPrime(%d) = false", p)
		}
	}
	for _, p := range notPrimes() {
		if impl.IsPrime(p) {
			t.Errorf("IsPrime(%d) = true", p)
		}
	}
	for p := -1000; p <= 100000; p++ {
		if got := impl.IsPrime(p); got != (p == 2 || p == 3 || p == 5) {
			t.Errorf("IsPrime(%d) = %v", p, got)
		}
	}
}

// digits has a list of numbers below 10 for each string, and none for -.
func digits(s string) ([]int, bool) {
	var out []int
	for _, digit := range s {
		if digit != '-' {
			out = append(out, int(digit-'0'))
		}
	}
	return out, s != "-"
}

// weightExamples are solved by hand, with a digit for each place or placement, and - for none.
var weightExamples = []struct {
	region, pieces string
	p              int
	weights        string
	signed         string
}{
	// One cell.
	{"#", "#", 2, "-", "1"},
	{"#", "#", 3, "-", "1"},
	{"#", "#", 5, "-", "1"},
	{"#", "##", 2, "1", "-"},
	{"#", "##", 3, "1", "-"},
	{"#", "##", 5, "1", "-"},
	{"#", "## #", 3, "-", "1"},
	{"#", "########", 5, "1", "-"},
	{".#", "##", 3, "01", "-"},
	{"../#.", "##", 5, "0010", "-"},
	{".#", "#", 5, "-", "1"},
	// No cells: any weight has the sum 0, and no number is as good as a tiling.
	{".", "#", 2, "-", ""},
	{".", "##", 3, "-", ""},
	{"../..", "# ##", 5, "-", ""},
	{emptyGrid, "#", 2, "-", ""},
	{emptyGrid, "## ##/#", 5, "-", ""},
	// Rows.
	{"##", "##", 2, "-", "1"},
	{"##", "##", 5, "-", "1"},
	{"##", "#", 3, "-", "11"},
	{"##", "# ##", 3, "-", "110"},
	{"##", "###", 2, "10", "-"},
	{"###", "##", 2, "111", "-"},
	{"###", "##", 3, "121", "-"},
	{"###", "##", 5, "141", "-"},
	{"###", "# ##", 5, "-", "11010"},
	{"###", "###", 3, "-", "1"},
	{"####", "##", 2, "-", "101"},
	{"#####", "##", 2, "11111", "-"},
	{"#####", "##", 3, "12121", "-"},
	{"#####", "##", 5, "14141", "-"},
	{"#####", "## ###", 2, "-", "0010010"},
	// The first column without a leading one has a sum of 0, so that a later one is taken.
	{"####", "###", 2, "1101", "-"},
	{"####", "###", 3, "1201", "-"},
	{"####", "###", 5, "1401", "-"},
	{"######", "####", 3, "102010", "-"},
	{"######", "####", 5, "104010", "-"},
	// The area is divided by the prime, and weights forbid.
	{"##/#.", "##", 3, "2110", "-"},
	{"#####/#####", "##/##", 2, "1111100000", "-"},
	{"#####/#####", "##/##", 5, "1414100000", "-"},
	{"#.#", "##", 2, "100", "-"},
	{"#.#.#", "##", 3, "10000", "-"},
	{"#.#/#.#/#..", "#.#", 5, "401000100", "-"},
	// The area is divided by the prime, and they do not.
	{"##", "##", 2, "-", "1"},
	{"##/##", "##", 2, "-", "0110"},
	{"###", "###", 3, "-", "1"},
	{"###/###", "##", 2, "-", "0011010"},
	{"###/###", "##", 3, "-", "0011010"},
	{"##/##", "##/#", 2, "-", "1111"},
	{"#####", "## ###", 5, "-", "0010010"},
	// The area is not divided by the prime.
	{"##/##", "##", 3, "-", "0110"},
	{"##/##", "##", 5, "-", "0110"},
	{"###/###", "##", 5, "-", "0011010"},
	{"##/##", "##/#", 3, "1111", "-"},
	{"##/##", "##/#", 5, "-", "2222"},
	{"#####/#####", "##/##", 3, "1212100000", "-"},
	{"##/#.", "##", 2, "1110", "-"},
	{"##/#.", "##", 5, "4110", "-"},
	{"###/###/###/##.", "##", 2, "111111111110", "-"},
	{"###./####/####/.###", "##", 3, "1210212112120121", "-"},
	{"###./####/####/.###", "##", 5, "1410414114140141", "-"},
	// Two pieces with equal placements, and pieces of which some do not fit.
	{"##/##", "## #/#", 3, "-", "0110"},
	{"##/##", "##/# .#/## ##/#", 5, "-", "2222"},
	{"###", "## ## ## ## ##", 3, "121", "-"},
	{"###", "## ########", 5, "141", "-"},
	{"##/##", "### #### ##", 2, "-", "0110"},
	{"##/##", "### ####", 2, "1000", "-"},
	// Places that are no cells.
	{".###", "##", 3, "0121", "-"},
	{"###/...", "##", 5, "141000", "-"},
	{"...../.###.", "##", 3, "0000001210", "-"},
	{"##./#.#", "##", 3, "210100", "-"},
	{"#.##", "##", 2, "1000", "-"},
	{"##.#", "##", 5, "0001", "-"},
	// Pieces that do not hang together.
	{"####", "#.#", 3, "-", "11"},
	{"#.#", "#.#", 2, "-", "1"},
	{"######", "#.#", 3, "102010", "-"},
}

func TestWeightExamples(t *testing.T) {
	for _, c := range weightExamples {
		r, pieces := regionOf(c.region), piecesOf(t, c.pieces)
		w, isForbidden := digits(c.weights)
		k, hasSigned := digits(c.signed)
		if got, ok := impl.FindWeights(r, pieces, c.p); !slices.Equal(got, w) || ok != isForbidden {
			t.Errorf("FindWeights of %s by %s modulo %d = %v, %v, want %s", c.region, c.pieces, c.p, got, ok, c.weights)
		}
		if got, ok := impl.FindSigned(r, pieces, c.p); !slices.Equal(got, k) || ok != hasSigned {
			t.Errorf("FindSigned of %s by %s modulo %d = %v, %v, want %s", c.region, c.pieces, c.p, got, ok, c.signed)
		}
		if got := impl.IsWeightProof(r, pieces, c.p, w); got != isForbidden {
			t.Errorf("IsWeightProof of %s by %s modulo %d for %s = %v", c.region, c.pieces, c.p, c.weights, got)
		}
		if got := impl.IsSignedTiling(r, pieces, c.p, k); got != hasSigned {
			t.Errorf("IsSignedTiling of %s by %s modulo %d for %s = %v", c.region, c.pieces, c.p, c.signed, got)
		}
		checkWeights(t, c.region, pieces, placementsOf(c.region, pieces...))
	}
}

// TestWeightsOfSmallRegions has all regions of small grids, with all sets of up to five of some pieces.
func TestWeightsOfSmallRegions(t *testing.T) {
	pieces := piecesOf(t, "# ## ### ##/# #/.# #.#")
	drawings := slices.Concat(drawingsIn(1, 1), drawingsIn(2, 2), drawingsIn(3, 2), drawingsIn(2, 3), drawingsIn(6, 1), drawingsIn(1, 5))
	for i, d := range drawingsIn(3, 3) {
		if i%16 == 15 || i > 440 {
			drawings = append(drawings, d)
		}
	}
	for _, d := range drawings {
		var placements [][]int
		for _, s := range pieces {
			placements = append(placements, placementsOf(d, s))
		}
		for set := 1; set < 63; set++ {
			var chosen [][]impl.Cell
			var masks [][]int
			for i, s := range pieces {
				if set>>i&1 == 1 {
					chosen, masks = append(chosen, s), append(masks, placements[i])
				}
			}
			checkWeights(t, d, chosen, joined(masks...))
		}
	}
}

// TestWeightsOfRegions has regions of greater grids.
func TestWeightsOfRegions(t *testing.T) {
	drawings := []string{"####/####", "####/####/####", "####/####/###.", "####/#..#/####", "#####/#####", "######/######", "##/##/##/##/##", "###/###/###/##.", "####/####/####/####", ".##./####/####/.##.", "#####/#####/#####/#####/#####", "###.../######/...###", "#.#.#./.#.#.#", ".##.##/##..##/#..#.#", fullGrid, emptyGrid}
	for i, d := range greatDrawings() {
		if i%40 == 0 {
			drawings = append(drawings, d)
		}
	}
	for _, pieces := range pieceLists(t) {
		for _, d := range drawings {
			checkWeights(t, d, pieces, placementsOf(d, pieces...))
		}
	}
}

// TestWeightsOfGreatRegions has the most placements, and pieces that reach far.
func TestWeightsOfGreatRegions(t *testing.T) {
	for _, d := range []string{fullGrid, "######/######/######/######/######/#####.", ".#####/######/######/######/######/#####.", "######/######/######/######/######/.....#", "#.####/######/####.#/######/.#####/###.##"} {
		for _, formats := range []string{"######", "#####", "#....#", "####/#", "###/.#", "###/##", "###/#/#", "#.#/###", "##/.##/..##", "#/////.....#", "########", "###/#.#/###", "####/.#.#/..#", "####/.#.#/..# ###/#...#/..#.# #.##/###/.## #..#/##.#/.### ##.##/#...#/.#", "# ## ### #### #####", "####/#### ######/## ##/##/##/##"} {
			pieces := piecesOf(t, formats)
			checkWeights(t, d, pieces, placementsOf(d, pieces...))
		}
	}
}

// TestWeightsAmongAll tries all weights and all numbers. The tests find the same by columns.
func TestWeightsAmongAll(t *testing.T) {
	for p, most := range map[int]int{2: 10, 3: 6, 5: 4} {
		var lists [][][]int
		for count := range most + 1 {
			lists = append(lists, listsModulo(p, count))
		}
		drawings := slices.Concat(drawingsIn(1, 1), drawingsIn(2, 2), drawingsIn(4, 1), drawingsIn(1, 4), []string{"###/###", "##/##/##", "##./#.#", "#.#/###", "##/#./##", "######", "#####", "###.##"})
		for _, d := range drawings {
			for _, pieces := range pieceLists(t) {
				placements := placementsOf(d, pieces...)
				if placesOf(d) > most || len(placements) > most {
					continue
				}
				var want answers
				want.weights, want.isForbidden = weightsTried(t, d, placements, p, lists[placesOf(d)])
				want.signed, want.hasSigned = signedTried(t, d, placements, p, lists[len(placements)])
				checkFound(t, d, pieces, placements, p, want)
			}
		}
	}
}

// TestWeightProofsAmongAll has the checkers look at all weights and at all numbers.
func TestWeightProofsAmongAll(t *testing.T) {
	drawings := append(drawingsIn(2, 2), "#", ".", "###", "#.#", "##.#", "####", "#####", "######", "#/#/#", "##/##/##", "##./###", "#####.", "###.##")
	for p, most := range map[int]int{2: 7, 3: 5, 5: 4} {
		for _, d := range drawings {
			for _, pieces := range pieceLists(t) {
				if placesOf(d) <= most {
					checkAllWeights(t, d, pieces, p)
				}
				if len(placementsOf(d, pieces...)) <= most {
					checkAllNumbers(t, d, pieces, p)
				}
			}
		}
	}
}

func checkAllWeights(t *testing.T, d string, pieces [][]impl.Cell, p int) {
	t.Helper()
	r, placements := regionOf(d), placementsOf(d, pieces...)
	proofs, isTiled := 0, tilingCount(d, pieces...) > 0
	for _, w := range listsModulo(p, placesOf(d)) {
		got := impl.IsWeightProof(r, pieces, p, w)
		if got != isProof(d, placements, p, w) || got && isTiled {
			t.Fatalf("IsWeightProof(%s, %v, %d, %v) = %v", d, pieces, p, w, got)
		}
		if got {
			proofs++
		}
	}
	if _, ok := impl.FindWeights(r, pieces, p); ok != (proofs > 0) {
		t.Fatalf("%s by %v has %d proofs modulo %d, and FindWeights is %v", d, pieces, proofs, p, ok)
	}
}

func checkAllNumbers(t *testing.T, d string, pieces [][]impl.Cell, p int) {
	t.Helper()
	r, placements := regionOf(d), placementsOf(d, pieces...)
	count := 0
	for _, k := range listsModulo(p, len(placements)) {
		got := impl.IsSignedTiling(r, pieces, p, k)
		if got != isSigned(d, placements, p, k) {
			t.Fatalf("IsSignedTiling(%s, %v, %d, %v) = %v", d, pieces, p, k, got)
		}
		if got {
			count++
		}
	}
	if _, ok := impl.FindSigned(r, pieces, p); ok != (count > 0) {
		t.Fatalf("%s by %v has %d signed tilings modulo %d, and FindSigned is %v", d, pieces, count, p, ok)
	}
}

// TestTilingsAreSignedTilings has the first tilings of regions, whose numbers are 1 for their masks, and sums of tilings.
func TestTilingsAreSignedTilings(t *testing.T) {
	for _, c := range []struct{ region, pieces string }{
		{"##/##", "##"},
		{"###/###", "## # ##/#"},
		{"####/#..#/####", "##"},
		{"######/######/######", "##/# ###"},
		{fullGrid, "##"},
		{fullGrid, "# ## ### #### #####"},
	} {
		r, pieces := regionOf(c.region), piecesOf(t, c.pieces)
		placements := placementsOf(c.region, pieces...)
		sum := make([]int, len(placements))
		for n := range 31 {
			l, ok := impl.TilingNumber(r, pieces, n)
			if !ok {
				break
			}
			one := onesAt(placements, l)
			for i := range sum {
				sum[i] += one[i]
			}
			for _, p := range primes {
				if !impl.IsSignedTiling(r, pieces, p, one) {
					t.Errorf("IsSignedTiling of %s by %s modulo %d for %v = false", c.region, c.pieces, p, l)
				}
				reduced := slices.Clone(sum)
				for i := range reduced {
					reduced[i] %= p
				}
				if got := impl.IsSignedTiling(r, pieces, p, reduced); got != (n%p == 0) {
					t.Errorf("IsSignedTiling of %s by %s modulo %d for the sum of %d tilings = %v", c.region, c.pieces, p, n+1, got)
				}
			}
		}
	}
}

// TestBoardsWithoutTwoCells takes two cells of the same color away, so that dominoes leave 2 more of the other one: modulo 2 they do not differ.
func TestBoardsWithoutTwoCells(t *testing.T) {
	pieces := piecesOf(t, "##")
	for _, side := range []int{4, 6} {
		for one := range side * side {
			for other := range one {
				if (one%side+one/side+other%side+other/side)%2 == 1 || side == 6 && one%7 > 1 {
					continue
				}
				d := maskDrawn(1<<(side*side)-1-1<<one-1<<other, side, side)
				isOdd := slices.ContainsFunc(partsOf(d), func(part string) bool { return strings.Count(part, "#")%2 == 1 })
				for _, p := range primes {
					_, ok := impl.FindWeights(regionOf(d), pieces, p)
					if ok != (p > 2 || isOdd) {
						t.Errorf("FindWeights of %s modulo %d: %v", d, p, ok)
					}
					if _, signed := impl.FindSigned(regionOf(d), pieces, p); signed == ok {
						t.Errorf("FindSigned of %s modulo %d: %v", d, p, signed)
					}
				}
				if impl.HasTiling(regionOf(d), pieces) {
					t.Errorf("%s has a tiling", d)
				}
			}
		}
	}
}

// areaExamples tell for the primes 2, 3 and 5 whether they divide the area, and whether weights forbid.
var areaExamples = []struct {
	region, pieces string
	divides        [3]bool
	forbid         [3]bool
	isTiled        bool
}{
	{"##/##", "##", [3]bool{true, false, false}, [3]bool{}, true},
	{"##/##", "##/#", [3]bool{true, false, false}, [3]bool{false, true, false}, false},
	{"###/###", "##", [3]bool{true, true, false}, [3]bool{}, true},
	{"###/###", "##/##", [3]bool{true, true, false}, [3]bool{true, true, true}, false},
	{"###/###", "####", [3]bool{true, true, false}, [3]bool{true, true, true}, false},
	{"######", "#.#", [3]bool{true, true, false}, [3]bool{true, true, true}, false},
	{"###/###/###", "##", [3]bool{false, true, false}, [3]bool{true, true, true}, false},
	{"###/###/###", "##/#", [3]bool{false, true, false}, [3]bool{}, false},
	{"###/###/###", "###", [3]bool{false, true, false}, [3]bool{}, true},
	{"#####/#####/#####", "##", [3]bool{false, true, true}, [3]bool{true, true, true}, false},
	{"#####/#####", "##/##", [3]bool{true, false, true}, [3]bool{true, true, true}, false},
	{"#####/#####", "##", [3]bool{true, false, true}, [3]bool{}, true},
	{"#####/#####", "#####", [3]bool{true, false, true}, [3]bool{}, true},
	{"#####/#####/#####/#####/#####", "##", [3]bool{false, false, true}, [3]bool{true, true, true}, false},
	{"#####/#####/#####/#####/#####", "#####", [3]bool{false, false, true}, [3]bool{}, true},
	{"###./####/####/.###", "##", [3]bool{true, false, false}, [3]bool{false, true, true}, false},
	{fullGrid, "##", [3]bool{true, true, false}, [3]bool{}, true},
	{fullGrid, "###", [3]bool{true, true, false}, [3]bool{}, true},
	{fullGrid, "####", [3]bool{true, true, false}, [3]bool{true, true, true}, false},
	{fullGrid, "#####", [3]bool{true, true, false}, [3]bool{true, true, true}, false},
	{"######/######/######/######/######", "#####", [3]bool{true, true, true}, [3]bool{}, true},
	{"######/######/######/######/######", "####", [3]bool{true, true, true}, [3]bool{true, true, true}, false},
	{"######/######/######/######/######", "##", [3]bool{true, true, true}, [3]bool{}, true},
	{".....", "##", [3]bool{true, true, true}, [3]bool{}, true},
}

func TestAreasThatThePrimeDivides(t *testing.T) {
	for _, c := range areaExamples {
		r, pieces := regionOf(c.region), piecesOf(t, c.pieces)
		for i, p := range primes {
			if got := impl.AreaOf(r)%p == 0; got != c.divides[i] {
				t.Errorf("%d divides the area of %s: %v", p, c.region, got)
			}
			w, ok := impl.FindWeights(r, pieces, p)
			if ok != c.forbid[i] || impl.IsWeightProof(r, pieces, p, w) != ok {
				t.Errorf("FindWeights of %s by %s modulo %d = %v, %v", c.region, c.pieces, p, w, ok)
			}
			k, ok := impl.FindSigned(r, pieces, p)
			if ok == c.forbid[i] || impl.IsSignedTiling(r, pieces, p, k) != ok {
				t.Errorf("FindSigned of %s by %s modulo %d = %v, %v", c.region, c.pieces, p, k, ok)
			}
			// A 1 for each cell forbids exactly if the prime divides the numbers of cells of all placements but not the area.
			ones := slices.Repeat([]int{1}, placesOf(c.region))
			want := !c.divides[i] && !slices.ContainsFunc(placementsOf(c.region, pieces...), func(mask int) bool { return sumAt(ones, mask, p) > 0 })
			if got := impl.IsWeightProof(r, pieces, p, ones); got != want {
				t.Errorf("IsWeightProof of %s by %s modulo %d for ones = %v", c.region, c.pieces, p, got)
			}
		}
		if got := impl.HasTiling(r, pieces); got != c.isTiled {
			t.Errorf("HasTiling of %s by %s = %v", c.region, c.pieces, got)
		}
		checkWeights(t, c.region, pieces, placementsOf(c.region, pieces...))
	}
}

func TestSumOfWeightsExamples(t *testing.T) {
	for _, c := range []struct {
		region  string
		mask    int
		weights []int
		p       int
		want    int
	}{
		{"###", 0, []int{1, 2, 1}, 3, 0},
		{"###", 1, []int{1, 2, 1}, 3, 1},
		{"###", 2, []int{1, 2, 1}, 3, 2},
		{"###", 3, []int{1, 2, 1}, 3, 0},
		{"###", 5, []int{1, 2, 1}, 3, 2},
		{"###", 7, []int{1, 2, 1}, 3, 1},
		{"###", 7, []int{1, 1, 1}, 2, 1},
		{"###", 7, []int{4, 4, 4}, 5, 2},
		{"###", 7, []int{0, 0, 0}, 5, 0},
		{"#", 1, []int{1}, 2, 1},
		{"#", 1, []int{4}, 5, 4},
		{"##/##", 15, []int{2, 2, 2, 2}, 3, 2},
		{"##/##", 9, []int{1, 0, 0, 4}, 5, 0},
		// The weights of places that are no cells do not count, but have to be there.
		{"#.#", 5, []int{1, 2, 1}, 3, 2},
		{"#.#", 5, []int{1, 0, 1}, 3, 2},
		{"#.#", 5, []int{1, 1}, 3, -1},
		{"#.#", 5, []int{1, 3, 1}, 3, -1},
		{"#.#", 5, []int{1, -1, 1}, 3, -1},
		{".", 0, []int{1}, 2, 0},
		{".", 0, []int{2}, 2, -1},
		{".", 0, nil, 2, -1},
		{"../..", 0, []int{4, 4, 4, 4}, 5, 0},
		{"##./#.#", 43, []int{1, 2, 4, 3, 4, 4}, 5, 0},
		{fullGrid, 1<<36 - 1, slices.Repeat([]int{4}, 36), 5, 4},
		{fullGrid, 1 << 35, append(make([]int, 35), 2), 3, 2},
		{emptyGrid, 0, slices.Repeat([]int{1}, 36), 2, 0},
		// A bit that is no cell, or no place.
		{"#.#", 2, []int{1, 1, 1}, 2, -1},
		{"#.#", 7, []int{1, 1, 1}, 2, -1},
		{"#.#", 8, []int{1, 1, 1}, 2, -1},
		{"###", 8, []int{1, 2, 1}, 3, -1},
		{"###", 15, []int{1, 2, 1}, 3, -1},
		{".", 1, []int{1}, 2, -1},
		{"##/##", 16, []int{1, 1, 1, 1}, 2, -1},
		{fullGrid, 1 << 36, make([]int, 36), 2, -1},
		{fullGrid, 1<<36 + 1, make([]int, 36), 2, -1},
		{"###", 1<<32 + 1, []int{1, 1, 1}, 2, -1},
		{"###", math.MaxInt, []int{1, 1, 1}, 2, -1},
		// A negative mask.
		{"###", -1, []int{1, 2, 1}, 3, -1},
		{"###", -7, []int{1, 2, 1}, 3, -1},
		{"###", math.MinInt, []int{1, 2, 1}, 3, -1},
		{"###", math.MinInt + 7, []int{1, 2, 1}, 3, -1},
		{fullGrid, -1, make([]int, 36), 2, -1},
		// Too few or too many weights.
		{"###", 5, nil, 3, -1},
		{"###", 0, nil, 3, -1},
		{"###", 1, []int{1}, 3, -1},
		{"###", 3, []int{1, 2}, 3, -1},
		{"###", 7, []int{1, 2, 1, 0}, 3, -1},
		{"###", 7, []int{1, 2, 1, 1, 2, 1}, 3, -1},
		{"##/##", 3, []int{1, 1}, 2, -1},
		{"##/##", 3, slices.Repeat([]int{1}, 36), 2, -1},
		{fullGrid, 1, slices.Repeat([]int{1}, 35), 2, -1},
		{fullGrid, 1, slices.Repeat([]int{1}, 37), 2, -1},
		// A weight that is too great or negative, also where the mask has no bit.
		{"###", 1, []int{3, 0, 0}, 3, -1},
		{"###", 1, []int{0, 0, 3}, 3, -1},
		{"###", 1, []int{1, 1, 2}, 2, -1},
		{"###", 1, []int{5, 0, 0}, 5, -1},
		{"###", 1, []int{4, 0, 0}, 3, -1},
		{"###", 0, []int{0, 3, 0}, 3, -1},
		{"###", 1, []int{-1, 0, 0}, 3, -1},
		{"###", 1, []int{0, -3, 0}, 3, -1},
		{"###", 7, []int{1, 1, math.MaxInt}, 2, -1},
		{"###", 7, []int{1, 1, math.MinInt}, 2, -1},
		{"###", 7, []int{math.MaxInt, math.MaxInt, 1}, 5, -1},
		{"###", 7, []int{1 << 32, 0, 0}, 2, -1},
	} {
		if got := impl.SumOfWeights(regionOf(c.region), c.mask, c.weights, c.p); got != c.want {
			t.Errorf("SumOfWeights(%s, %d, %v, %d) = %d, want %d", c.region, c.mask, c.weights, c.p, got, c.want)
		}
	}
}

// TestSumOfWeights has all masks of small grids, of which some are no masks of cells.
func TestSumOfWeights(t *testing.T) {
	for _, d := range append(drawingsIn(2, 2), "###", "#.#", "##./#.#", "###/###", "#.##.#", "###/#.#") {
		for _, p := range primes {
			lists := listsModulo(p, placesOf(d))
			for i := 0; i < len(lists); i += 1 + len(lists)/50 {
				w := lists[i]
				for mask := -(2 << placesOf(d)); mask < 2<<placesOf(d); mask++ {
					want := -1
					if mask >= 0 && mask|maskOf(d) == maskOf(d) {
						want = sumAt(w, mask, p)
					}
					if got := impl.SumOfWeights(regionOf(d), mask, w, p); got != want {
						t.Fatalf("SumOfWeights(%s, %d, %v, %d) = %d, want %d", d, mask, w, p, got, want)
					}
				}
				for _, mask := range farMasks {
					if got := impl.SumOfWeights(regionOf(d), mask, w, p); mask != 0 && got != -1 {
						t.Fatalf("SumOfWeights(%s, %d, %v, %d) = %d", d, mask, w, p, got)
					}
				}
			}
		}
	}
}

// TestSumOfWeightsOfRegions has some weights in great grids, for the placements of pieces and the masks of all cells.
func TestSumOfWeightsOfRegions(t *testing.T) {
	pieces := piecesOf(t, "# ## ###/.# #.#/.#")
	for i, d := range greatDrawings() {
		if i%60 != 0 {
			continue
		}
		for _, p := range primes {
			w := make([]int, placesOf(d))
			for k := range w {
				w[k] = (k*k + i/60*k + i/7) % p
			}
			for _, mask := range append(placementsOf(d, pieces...), 0, maskOf(d)) {
				if got, want := impl.SumOfWeights(regionOf(d), mask, w, p), sumAt(w, mask, p); got != want {
					t.Fatalf("SumOfWeights(%s, %d, %v, %d) = %d, want %d", d, mask, w, p, got, want)
				}
			}
		}
	}
}

// listsBeside are one step off: one number changed, also to one that is too great or negative, two numbers changed over, or one number too many or too few.
func listsBeside(l []int, p int) [][]int {
	var out [][]int
	for i := range l {
		for _, n := range []int{0, 1, 2, 3, 4, p - 1, p, p + 1, l[i] + p, l[i] - p, -1, 1 << 32, math.MinInt, math.MaxInt} {
			changed := slices.Clone(l)
			changed[i] = n
			out = append(out, changed)
		}
		for k := range i {
			changed := slices.Clone(l)
			changed[i], changed[k] = l[k], l[i]
			out = append(out, changed)
		}
		out = append(out, slices.Delete(slices.Clone(l), i, i+1), slices.Insert(slices.Clone(l), i, 0), slices.Insert(slices.Clone(l), i, l[i]))
	}
	for _, n := range []int{0, 1, p - 1, p, -1} {
		out = append(out, append(slices.Clone(l), n))
	}
	return append(out, nil, slices.Repeat(l, 2), make([]int, len(l)), slices.Repeat([]int{1}, len(l)), make([]int, 36))
}

func TestListsOneStepOff(t *testing.T) {
	for _, c := range []struct{ region, pieces string }{
		{"###", "##"},
		{"#", "##"},
		{"#", "#"},
		{".", "#"},
		{"##/##", "##"},
		{"##/##", "##/#"},
		{"##/#.", "##"},
		{".###", "##"},
		{"####", "###"},
		{"##.#", "##"},
		{"##./#.#", "##"},
		{"###/###", "## ##/#"},
		{"#####/#####", "##/##"},
		{"###./####/####/.###", "##"},
		{"####/####/####/####", "###/.#"},
		{fullGrid, "####"},
		{fullGrid, "##/##"},
		{emptyGrid, "## ###"},
	} {
		r, pieces := regionOf(c.region), piecesOf(t, c.pieces)
		placements := placementsOf(c.region, pieces...)
		for _, p := range primes {
			w, _ := impl.FindWeights(r, pieces, p)
			for _, l := range listsBeside(w, p) {
				if got := impl.IsWeightProof(r, pieces, p, l); got != isProof(c.region, placements, p, l) {
					t.Errorf("IsWeightProof of %s by %s modulo %d for %v = %v", c.region, c.pieces, p, l, got)
				}
			}
			k, _ := impl.FindSigned(r, pieces, p)
			for _, l := range listsBeside(k, p) {
				if got := impl.IsSignedTiling(r, pieces, p, l); got != isSigned(c.region, placements, p, l) {
					t.Errorf("IsSignedTiling of %s by %s modulo %d for %v = %v", c.region, c.pieces, p, l, got)
				}
			}
		}
	}
}

func TestIsWeightProofExamples(t *testing.T) {
	for _, c := range []struct {
		region, pieces string
		p              int
		weights        []int
		want           bool
	}{
		{"###", "##", 3, []int{1, 2, 1}, true},
		{"###", "##", 3, []int{2, 1, 2}, true},
		{"###", "##", 5, []int{2, 3, 2}, true},
		{"###", "##", 2, []int{1, 1, 1}, true},
		{"#", "##", 5, []int{3}, true},
		{".#", "##", 3, []int{2, 1}, true},
		{"####", "###", 3, []int{1, 1, 1, 1}, true},
		{"##/##", "##/#", 3, []int{2, 2, 2, 2}, true},
		// The order of the cells and not only the numbers.
		{"##/#.", "##", 3, []int{2, 1, 1, 0}, true},
		{"##/#.", "##", 3, []int{1, 2, 2, 2}, true},
		{"##/#.", "##", 3, []int{1, 2, 1, 2}, false},
		{"###", "##", 3, []int{2, 1, 1}, false},
		// A placement with another sum than 0.
		{"###", "##", 3, []int{1, 2, 0}, false},
		{"###", "##", 3, []int{0, 2, 1}, false},
		{"###", "##", 5, []int{1, 2, 1}, false},
		{"###", "## #", 3, []int{1, 2, 1}, false},
		{"###", "# ##", 3, []int{1, 2, 1}, false},
		{"###", "## ###", 3, []int{1, 2, 1}, false},
		// All cells together have the sum 0.
		{"##/##", "##", 2, []int{1, 1, 1, 1}, false},
		{"##/##", "##", 3, []int{1, 2, 2, 1}, false},
		{"##/##", "##", 5, []int{1, 4, 4, 1}, false},
		{"####", "##", 3, []int{2, 1, 2, 1}, false},
		{"####", "###", 3, []int{1, 2, 0, 1}, true},
		{"####", "###", 3, []int{0, 2, 1, 0}, false},
		{"#.#", "##", 3, []int{1, 0, 2}, false},
		{"#.#", "##", 3, []int{1, 1, 2}, false},
		{"#.#", "##", 3, []int{1, 0, 0}, true},
		{"#.", "##", 2, []int{0, 1}, false},
		{"..", "##", 2, []int{1, 1}, false},
		{"..", "##", 2, []int{1, 0}, false},
		{"###/###", "####", 3, []int{1, 1, 1, 1, 1, 1}, false},
		// No weights but 0.
		{"###", "##", 2, []int{0, 0, 0}, false},
		{"###", "##", 5, []int{0, 0, 0}, false},
		{"#", "##", 3, []int{0}, false},
		{"##/##", "##/#", 3, []int{0, 0, 0, 0}, false},
		{fullGrid, "####", 3, make([]int, 36), false},
		// Weights that are not valid, although their sums would be right.
		{"###", "##", 3, []int{1, -1, 1}, false},
		{"###", "##", 3, []int{4, 2, 1}, false},
		{"###", "##", 3, []int{1, 5, 1}, false},
		{"###", "##", 3, []int{-2, 2, -2}, false},
		{"###", "##", 3, []int{1, 2, 1, 0}, false},
		{"###", "##", 3, []int{1, 2}, false},
		{"###", "##", 3, nil, false},
		{".###", "##", 3, []int{1, 2, 1}, false},
		{".###", "##", 3, []int{3, 1, 2, 1}, false},
		{"###.", "##", 3, []int{1, 2, 1, -1}, false},
		{"###.", "##", 3, []int{1, 2, 1}, false},
		{"###.", "##", 3, []int{1, 2, 1, 2}, true},
		{"#", "##", 2, []int{2}, false},
		{"#", "##", 2, []int{3}, false},
		{"#", "##", 2, []int{-1}, false},
	} {
		if got := impl.IsWeightProof(regionOf(c.region), piecesOf(t, c.pieces), c.p, c.weights); got != c.want {
			t.Errorf("IsWeightProof of %s by %s modulo %d for %v = %v", c.region, c.pieces, c.p, c.weights, got)
		}
	}
}

func TestIsSignedTilingExamples(t *testing.T) {
	for _, c := range []struct {
		region, pieces string
		p              int
		numbers        []int
		want           bool
	}{
		{"#", "#", 2, []int{1}, true},
		{"#", "#", 2, []int{0}, false},
		{"#", "#", 5, []int{2}, false},
		{"##/##", "##", 2, []int{0, 1, 1, 0}, true},
		{"##/##", "##", 2, []int{1, 0, 0, 1}, true},
		{"##/##", "##", 2, []int{1, 1, 0, 0}, false},
		{"##/##", "##", 2, []int{1, 1, 1, 1}, false},
		{"##/##", "##", 3, []int{2, 2, 2, 2}, true},
		{"##/##", "##", 5, []int{3, 3, 3, 3}, true},
		{"##/##", "##", 5, []int{2, 4, 4, 2}, true},
		{"##/##", "##", 5, []int{2, 3, 3, 2}, false},
		{"##/##", "##/#", 2, []int{1, 1, 1, 1}, true},
		{"##/##", "##/#", 5, []int{2, 2, 2, 2}, true},
		{"##/##", "##/#", 3, []int{1, 1, 1, 1}, false},
		{"##/##", "##/#", 3, []int{2, 2, 2, 2}, false},
		{"##", "# ##", 3, []int{0, 0, 1}, true},
		{"##", "# ##", 3, []int{2, 2, 2}, true},
		{"##", "# ##", 3, []int{2, 1, 2}, false},
		{"##", "## ##", 3, []int{1}, true},
		{"##", "## ##", 3, []int{2, 2}, false},
		{"##", "## ###", 3, []int{1}, true},
		{"##", "## ###", 3, []int{1, 0}, false},
		// No cells, and no placements.
		{".", "#", 2, nil, true},
		{".", "##", 5, []int{}, true},
		{".", "#", 2, []int{0}, false},
		{".", "#", 2, []int{1}, false},
		{emptyGrid, "# ##", 3, nil, true},
		{"#", "##", 3, nil, false},
		{"#", "##", 3, []int{1}, false},
		{"##.#", "##", 3, []int{1}, false},
		{fullGrid, "########", 2, nil, false},
		// Too few or too many numbers.
		{"#", "#", 2, nil, false},
		{"#", "#", 2, []int{1, 0}, false},
		{"##/##", "##", 2, []int{0, 1, 1}, false},
		{"##/##", "##", 2, []int{1, 1, 0}, false},
		{"##/##", "##", 2, []int{0, 1, 1, 0, 0}, false},
		{"##/##", "##", 2, []int{0, 1, 1, 0, 0, 1, 1, 0}, false},
		// Numbers that are not valid, although their sums would be right.
		{"#", "#", 2, []int{3}, false},
		{"#", "#", 2, []int{-1}, false},
		{"#", "#", 3, []int{4}, false},
		{"#", "#", 3, []int{-2}, false},
		{"#", "#", 5, []int{6}, false},
		{"#", "#", 5, []int{1<<62 + 1}, false},
		{"##/##", "##", 2, []int{2, 1, 1, 2}, false},
		{"##/##", "##", 2, []int{0, 1, 1, -2}, false},
		{"##/##", "##", 3, []int{3, 1, 1, 0}, false},
		{"##/##", "##", 3, []int{-1, 2, 2, -1}, false},
		{"##/##", "##", 5, []int{5, 1, 1, 0}, false},
	} {
		if got := impl.IsSignedTiling(regionOf(c.region), piecesOf(t, c.pieces), c.p, c.numbers); got != c.want {
			t.Errorf("IsSignedTiling of %s by %s modulo %d for %v = %v", c.region, c.pieces, c.p, c.numbers, got)
		}
	}
}

func TestStripeWeightsExamples(t *testing.T) {
	for _, c := range []struct {
		region  string
		a, b, p int
		want    string
	}{
		{"#", 1, 1, 2, "0"},
		{".", 4, 3, 5, "0"},
		{"###", 1, 0, 2, "010"},
		{"###", 0, 1, 2, "000"},
		{"###", 2, 2, 3, "021"},
		{"#/#/#", 0, 1, 2, "010"},
		{"#/#/#", 1, 0, 2, "000"},
		{"#/#/#", 1, 2, 3, "021"},
		{"######", 1, 0, 3, "012012"},
		{"######", 4, 0, 5, "043210"},
		{"#/#/#/#/#/#", 0, 3, 5, "031420"},
		{"##/##", 1, 1, 2, "0110"},
		{"##/##", 0, 0, 5, "0000"},
		{"##/##", 1, 2, 3, "0120"},
		{"##/##", 2, 1, 3, "0210"},
		{"##/##", 1, 2, 5, "0123"},
		{"##/##", 4, 4, 5, "0443"},
		{"###/###", 1, 2, 3, "012201"},
		{"##/##/##", 1, 2, 3, "012012"},
		{"##/##/##", 2, 1, 3, "021021"},
		// Places that are no cells have weights too.
		{"#.#/...", 1, 2, 3, "012201"},
		{".../...", 1, 3, 5, "012340"},
		// Out of range.
		{"###", 2, 0, 2, "-"},
		{"###", 0, 2, 2, "-"},
		{"###", 3, 0, 3, "-"},
		{"###", 0, 3, 3, "-"},
		{"###", 5, 1, 5, "-"},
		{"###", 1, 5, 5, "-"},
		{"###", -1, 0, 3, "-"},
		{"###", 0, -1, 3, "-"},
		{"###", 4, 0, 3, "-"},
	} {
		want, _ := digits(c.want)
		if got := impl.StripeWeights(regionOf(c.region), c.a, c.b, c.p); !slices.Equal(got, want) {
			t.Errorf("StripeWeights(%s, %d, %d, %d) = %v, want %s", c.region, c.a, c.b, c.p, got, c.want)
		}
	}
}

// stripes goes from each place to the next one by steps, without products.
func stripes(w int, h int, a int, b int, p int) []int {
	var out []int
	first := 0
	for range h {
		n := first
		for range w {
			out = append(out, n)
			n = (n + a) % p
		}
		first = (first + b) % p
	}
	return out
}

// TestStripeWeights has all numbers in all grids.
func TestStripeWeights(t *testing.T) {
	for h := 1; h <= 6; h++ {
		for w := 1; w <= 6; w++ {
			full := regionOf(maskDrawn(1<<(w*h)-1, w, h))
			empty := regionOf(maskDrawn(0, w, h))
			for _, p := range primes {
				for a := range p {
					for b := range p {
						want := stripes(w, h, a, b, p)
						got := impl.StripeWeights(full, a, b, p)
						if !slices.Equal(got, want) || !slices.Equal(impl.StripeWeights(empty, a, b, p), want) {
							t.Errorf("StripeWeights(%v, %d, %d, %d) = %v, want %v", full, a, b, p, got, want)
						}
						sum := (a*h*w*(w-1)/2 + b*w*h*(h-1)/2) % p
						if got := impl.SumOfWeights(full, impl.MaskOf(full), got, p); got != sum {
							t.Errorf("the sum of StripeWeights(%v, %d, %d, %d) is %d, want %d", full, a, b, p, got, sum)
						}
						if got := impl.SumOfWeights(empty, 0, got, p); got != 0 {
							t.Errorf("the sum of no StripeWeights(%v, %d, %d, %d) is %d", empty, a, b, p, got)
						}
					}
				}
			}
		}
	}
}

// TestSumsOfStripes adds the weights of all cells, column by column and row by row.
func TestSumsOfStripes(t *testing.T) {
	for i, d := range append(greatDrawings(), drawingsIn(3, 3)...) {
		if i%7 != 0 {
			continue
		}
		r := regionOf(d)
		for _, p := range primes {
			for a := range p {
				for b := range p {
					sum := 0
					for _, c := range drawnCells(d) {
						sum += a*c.X + b*c.Y
					}
					w := impl.StripeWeights(r, a, b, p)
					if got := impl.SumOfWeights(r, maskOf(d), w, p); got != sum%p {
						t.Fatalf("the sum of StripeWeights(%s, %d, %d, %d) is %d, want %d", d, a, b, p, got, sum%p)
					}
				}
			}
		}
	}
}

func TestStripesOutOfRange(t *testing.T) {
	for _, d := range []string{"#", ".", "###", "###/#.#", fullGrid} {
		for _, p := range primes {
			for _, n := range append(numbersToTry(), -p, -1, p, p+1, 2*p) {
				if n >= 0 && n < p {
					continue
				}
				for other := range p {
					if got := impl.StripeWeights(regionOf(d), n, other, p); len(got) > 0 {
						t.Fatalf("StripeWeights(%s, %d, %d, %d) = %v", d, n, other, p, got)
					}
					if got := impl.StripeWeights(regionOf(d), other, n, p); len(got) > 0 {
						t.Fatalf("StripeWeights(%s, %d, %d, %d) = %v", d, other, n, p, got)
					}
				}
				if got := impl.StripeWeights(regionOf(d), n, n, p); len(got) > 0 {
					t.Fatalf("StripeWeights(%s, %d, %d, %d) = %v", d, n, n, p, got)
				}
			}
		}
	}
}

// TestStripesForbid has rows of three or five cells, in which the weights of stripes are all different or all equal, so that they have the sum 0: a square without one cell has another sum exactly if that cell has.
func TestStripesForbid(t *testing.T) {
	for _, c := range []struct {
		side, p int
		piece   string
	}{{4, 3, "###"}, {6, 5, "#####"}} {
		for place := range c.side * c.side {
			d := maskDrawn(1<<(c.side*c.side)-1-1<<place, c.side, c.side)
			r, pieces := regionOf(d), piecesOf(t, c.piece)
			isTiled := impl.HasTiling(r, pieces)
			for a := range c.p {
				for b := range c.p {
					w := impl.StripeWeights(r, a, b, c.p)
					want := (a*(place%c.side)+b*(place/c.side)-(a+b)*c.side*c.side*(c.side-1)/2)%c.p != 0
					if got := impl.IsWeightProof(r, pieces, c.p, w); got != want || got && isTiled {
						t.Errorf("IsWeightProof of %s by %s for %v = %v", d, c.piece, w, got)
					}
				}
			}
		}
	}
}

// TestNumbersThatAreNoPrimes gives all functions arguments that would be right for a prime.
func TestNumbersThatAreNoPrimes(t *testing.T) {
	lists := [][]int{nil, {0}, {1}, {0, 0, 0}, {1, 2, 1}, {1, 0, 1}, {1, 1, 1}, {1, 0}, {0, 1}, {0, 1, 1, 0}, {1, 0, 0, 1}}
	for _, p := range notPrimes() {
		for _, d := range []string{"#", ".", "##", "###", "##/##"} {
			r := regionOf(d)
			for _, formats := range []string{"#", "##", "###"} {
				checkNoWeights(t, "no prime", r, piecesOf(t, formats), p, append(lists, []int{1, p - 1, 1}, []int{p - 1}))
			}
			for _, w := range lists {
				for _, mask := range []int{0, 1, 3, 7, 15, -1} {
					if got := impl.SumOfWeights(r, mask, w, p); got != -1 {
						t.Fatalf("SumOfWeights(%s, %d, %v, %d) = %d", d, mask, w, p, got)
					}
				}
			}
			for _, n := range []int{0, 1, 2, -1, p - 1, p} {
				if a, b := impl.StripeWeights(r, n, 0, p), impl.StripeWeights(r, 0, n, p); len(a) > 0 || len(b) > 0 {
					t.Fatalf("StripeWeights(%s, %d, %d) = %v and %v", d, n, p, a, b)
				}
			}
		}
	}
}

// checkNoWeights is for regions, pieces or primes that are not valid.
func checkNoWeights(t *testing.T, why string, r impl.Region, pieces [][]impl.Cell, p int, lists [][]int) {
	t.Helper()
	if w, ok := impl.FindWeights(r, pieces, p); len(w) > 0 || ok {
		t.Fatalf("%s: FindWeights(%v, %v, %d) = %v, %v", why, r, pieces, p, w, ok)
	}
	if k, ok := impl.FindSigned(r, pieces, p); len(k) > 0 || ok {
		t.Fatalf("%s: FindSigned(%v, %v, %d) = %v, %v", why, r, pieces, p, k, ok)
	}
	for _, l := range lists {
		if impl.IsWeightProof(r, pieces, p, l) {
			t.Fatalf("%s: IsWeightProof(%v, %v, %d, %v) = true", why, r, pieces, p, l)
		}
		if impl.IsSignedTiling(r, pieces, p, l) {
			t.Fatalf("%s: IsSignedTiling(%v, %v, %d, %v) = true", why, r, pieces, p, l)
		}
	}
}

// TestWeightsInNoRegions names what each function returns for a region that is not valid, whatever else it is given.
func TestWeightsInNoRegions(t *testing.T) {
	for why, r := range noRegions {
		var lists [][]int
		for count := range 50 {
			lists = append(lists, make([]int, count), slices.Repeat([]int{1}, count))
		}
		for _, p := range append([]int{0, 1, 4, -2}, primes...) {
			for _, formats := range []string{"#", "##", "# ## ### #### #####", "########", ""} {
				checkNoWeights(t, why, r, piecesOf(t, formats), p, lists)
			}
			for _, w := range lists {
				for _, mask := range []int{0, 1, 3, -1} {
					if got := impl.SumOfWeights(r, mask, w, p); got != -1 {
						t.Errorf("%s: SumOfWeights(%v, %d, %v, %d) = %d", why, r, mask, w, p, got)
					}
				}
			}
			for a := range 2 {
				for b := range 2 {
					if got := impl.StripeWeights(r, a, b, p); len(got) > 0 {
						t.Errorf("%s: StripeWeights(%v, %d, %d, %d) = %v", why, r, a, b, p, got)
					}
				}
			}
		}
	}
}

// TestWeightsByNoPieces has regions with and without cells. Without pieces there are no placements either, so that any weights would forbid, and no numbers would be right without cells.
func TestWeightsByNoPieces(t *testing.T) {
	for why, pieces := range noPieces(t) {
		for _, d := range []string{"#", "##", "###", "##/##", ".", "..", fullGrid, emptyGrid} {
			places := placesOf(d)
			lists := [][]int{nil, {}, {0}, {1}, {1, 0}, {1, 2, 1}, {1, 1, 1}, {0, 1, 1, 0}, {1, 1, 1, 1}, make([]int, places), slices.Repeat([]int{1}, places), append(make([]int, places-1), 1)}
			for _, p := range append([]int{0, 1, 4, -2}, primes...) {
				checkNoWeights(t, why, regionOf(d), pieces, p, lists)
			}
		}
	}
	for count := 1; count <= 5; count++ {
		pieces := slices.Repeat(piecesOf(t, "##"), count)
		if !impl.IsWeightProof(regionOf("###"), pieces, 3, []int{1, 2, 1}) || !impl.IsSignedTiling(regionOf("##"), pieces, 3, []int{1}) {
			t.Errorf("%d pieces are not accepted", count)
		}
		for i := range count {
			changed := slices.Clone(pieces)
			changed[i] = cellsOf(1, 0, 0, 0)
			checkNoWeights(t, "cells out of order", regionOf("###"), changed, 3, [][]int{nil, {1, 2, 1}, {1}, {1, 0}})
			checkNoWeights(t, "cells out of order", regionOf("##"), changed, 3, [][]int{nil, {1, 2}, {1, 0}, {1}})
		}
	}
	checkNoWeights(t, "six pieces", regionOf("###"), slices.Repeat(piecesOf(t, "##"), 6), 3, [][]int{{1, 2, 1}, {1, 0}})
}

// TestWeightsInAnyOrderOfPieces has the same results for the same pieces, in any place and motion, and with pieces more than once.
func TestWeightsInAnyOrderOfPieces(t *testing.T) {
	for _, d := range []string{"#####", "###/#.#/##.", "####/###.", "####/####/####", "###./####/####/.###", fullGrid} {
		for _, formats := range []string{"## ####", "#### ##/##", "##/# ###/.#", "### #### ##/##", "######/# #...#", "#.# ##/#/# ####"} {
			r, pieces := regionOf(d), piecesOf(t, formats)
			for _, p := range primes {
				w, isForbidden := impl.FindWeights(r, pieces, p)
				k, hasSigned := impl.FindSigned(r, pieces, p)
				want := answers{weights: w, isForbidden: isForbidden, signed: k, hasSigned: hasSigned}
				for i := range pieces {
					order := append(slices.Clone(pieces[i:]), pieces[:i]...)
					for n := range order {
						turn, _ := impl.TurnShape(order[n], (3*i+n)%8)
						order[n], _ = impl.MoveShape(turn, n, i)
					}
					placements := placementsOf(d, order...)
					checkFound(t, d, order, placements, p, want)
					checkFound(t, d, append(order, order[0]), placements, p, want)
				}
			}
		}
	}
}

// TestWeightArguments gives each function parts of longer lists, which have to stay as they are.
func TestWeightArguments(t *testing.T) {
	rows := []int{7, 5, 3, 0, -5, 99}
	cells := cellsOf(2, 1, 3, 1, 2, 2, 9, 9, -3, 4)
	pieces := append(piecesOf(t, "## # ##/#"), cellsOf(7, 0, 0, 0), cells)
	l := []int{1, 2, 1, 0, 1, 2, 0, 2, 1, 1, 0, 0, 7, -3, 1}
	for height := range 7 {
		r := impl.Region{Width: 3, Rows: rows[:height]}
		for _, p := range []int{2, 3, 5, 4} {
			for _, some := range [][][]impl.Cell{nil, pieces[:1], pieces[:2], pieces[:3], pieces[:4], pieces, {cells[:2]}, {cells[:3], cells[:2]}} {
				w, _ := impl.FindWeights(r, some, p)
				overwriteRows(w)
				k, _ := impl.FindSigned(r, some, p)
				overwriteRows(k)
				for count := range l {
					impl.IsWeightProof(r, some, p, l[:count])
					impl.IsSignedTiling(r, some, p, l[:count])
				}
			}
			for count := range l {
				impl.SumOfWeights(r, 5, l[:count], p)
			}
			overwriteRows(impl.StripeWeights(r, 1, 1, p))
		}
	}
	if !slices.Equal(rows, []int{7, 5, 3, 0, -5, 99}) {
		t.Errorf("the rows became %v", rows)
	}
	if !slices.Equal(cells, cellsOf(2, 1, 3, 1, 2, 2, 9, 9, -3, 4)) {
		t.Errorf("the cells became %v", cells)
	}
	if !sameShapes(pieces, append(piecesOf(t, "## # ##/#"), cellsOf(7, 0, 0, 0), cells)) {
		t.Errorf("the pieces became %v", pieces)
	}
	if !slices.Equal(l, []int{1, 2, 1, 0, 1, 2, 0, 2, 1, 1, 0, 0, 7, -3, 1}) {
		t.Errorf("the weights became %v", l)
	}
}

// TestWeightResults checks that each call has a result of its own.
func TestWeightResults(t *testing.T) {
	for range 3 {
		w, ok := impl.FindWeights(regionOf("###"), piecesOf(t, "##"), 3)
		if !slices.Equal(w, []int{1, 2, 1}) || !ok {
			t.Errorf("FindWeights = %v, %v", w, ok)
		}
		k, ok := impl.FindSigned(regionOf("##/##"), piecesOf(t, "##"), 3)
		if !slices.Equal(k, []int{0, 1, 1, 0}) || !ok {
			t.Errorf("FindSigned = %v, %v", k, ok)
		}
		s := impl.StripeWeights(regionOf("###"), 2, 0, 5)
		if !slices.Equal(s, []int{0, 2, 4}) {
			t.Errorf("StripeWeights = %v", s)
		}
		overwriteRows(w)
		overwriteRows(k)
		overwriteRows(s)
	}
}
