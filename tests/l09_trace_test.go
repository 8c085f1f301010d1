package tests

import (
	"slices"
	"strings"
	"testing"

	"loop.example/g03400/impl"
)

// searchOf has, for each placement that a search for all tilings tries, the list of it and those before it. It finds them by their lengths and then orders them, so that each list comes before those that go on from it.
func searchOf(free int, placements []int) [][]int {
	var out [][]int
	for level := [][]int{nil}; len(level) > 0; {
		var next [][]int
		for _, l := range level {
			rest := free
			for _, mask := range l {
				rest -= mask
			}
			for _, mask := range placements {
				if mask&-mask == rest&-rest && rest|mask == rest {
					next = append(next, append(slices.Clone(l), mask))
				}
			}
		}
		out, level = append(out, next...), next
	}
	slices.SortFunc(out, slices.Compare[[]int])
	return out
}

// traceWritten writes a search down by the lengths of its lists alone.
func traceWritten(search [][]int) string {
	var text strings.Builder
	open := 0
	for _, l := range search {
		text.WriteString(strings.Repeat(")", open+1-len(l)) + "(")
		open = len(l)
	}
	return text.String() + strings.Repeat(")", open)
}

// nodeCount counts what searchOf finds, and remembers the counts, so that it can count searches that are too long to be listed.
func nodeCount(free int, placements []int, known map[int]int) int {
	if count, ok := known[free]; ok {
		return count
	}
	sum := 0
	for _, mask := range placements {
		if mask&-mask == free&-free && free|mask == free {
			sum += 1 + nodeCount(free-mask, placements, known)
		}
	}
	known[free] = sum
	return sum
}

func searchLength(drawing string, pieces ...[]impl.Cell) int {
	return nodeCount(maskOf(drawing), placementsOf(drawing, pieces...), map[int]int{})
}

// peeled takes away all pairs without anything between them, again and again. Each time the text becomes less deep by one.
func peeled(s string) (size int, depth int) {
	for rest := s; rest != ""; depth++ {
		next := strings.ReplaceAll(rest, "()", "")
		if next == rest {
			return -1, -1
		}
		rest = next
	}
	return len(s) / 2, depth
}

// checkTraceText compares what is told of a text alone.
func checkTraceText(t *testing.T, s string, size int, depth int) {
	t.Helper()
	if got := impl.RefutationSize(s); got != size {
		t.Fatalf("RefutationSize(%.200q) = %d, want %d", s, got, size)
	}
	if got := impl.DeepestOf(s); got != depth {
		t.Fatalf("DeepestOf(%.200q) = %d, want %d", s, got, depth)
	}
}

// checkTrace compares all that is told of a search with the search of the tests, for a region with these placements of the pieces.
func checkTrace(t *testing.T, d string, pieces [][]impl.Cell, placements []int) {
	t.Helper()
	r, search := regionOf(d), searchOf(maskOf(d), placements)
	text, depth := traceWritten(search), 0
	for _, l := range search {
		depth = max(depth, len(l))
	}
	checkTraceText(t, text, len(search), depth)
	if got := impl.SearchNodes(r, pieces); got != min(len(search), 5000) {
		t.Fatalf("SearchNodes(%s, %v) = %d, want %d", d, pieces, got, len(search))
	}
	isRefuted := coverCount(maskOf(d), placements, map[int]int{}) == 0 && len(text) <= 2000
	want := ""
	if isRefuted {
		want = text
	}
	if got, ok := impl.RefutationOf(r, pieces); got != want || ok != isRefuted {
		t.Fatalf("RefutationOf(%s, %v) = %q, %v, want %q, %v", d, pieces, got, ok, want, isRefuted)
	}
	for _, s := range []string{text, "", text + "()", "(" + text + ")", "()" + text} {
		if got := impl.IsRefutation(r, pieces, s); got != (isRefuted && s == text) {
			t.Fatalf("IsRefutation(%s, %v, %q) = %v", d, pieces, s, got)
		}
	}
}

// refutedExamples are searches without result that are written down by hand.
var refutedExamples = []struct{ region, pieces, trace string }{
	// One cell, and pieces that do not fit.
	{"#", "##", ""},
	{"#", "########", ""},
	{"#", "## ### #### ##/# ##/##", ""},
	{"../.#", "##", ""},
	{"###", "####", ""},
	{"##/##", "###", ""},
	{"###", "#/.#", ""},
	// A cell that no placement reaches: at the beginning the search ends at once, later it finds it after others.
	{"#.##", "##", ""},
	{"#.##/..##", "##", ""},
	{"##/..", "##/#", ""},
	{"#.#.#", "##", ""},
	{"#../.#./..#", "##", ""},
	{"##.#", "##", "()"},
	{"##.#.#", "##", "()"},
	{"###..#", "##", "()"},
	{"####.#", "##", "(())"},
	{"##.#/##..", "##", "()(())"},
	{"##/##/../#.", "##", "(())(())"},
	{"##.##/##..#/.....", "##", "((()))((()))"},
	{"###./...#", "###", "()"},
	// Rows.
	{"###", "##", "()"},
	{"#####", "##", "(())"},
	{"#####", "###", "()"},
	{"######", "####", "()"},
	{"######", "#####", "()"},
	{"#/#/#", "##", "()"},
	{"#/#/#/#/#", "##", "(())"},
	{"#####", "## ####", "(())()"},
	{"#####", "#### ##", "(())()"},
	{"#####", "### ####", "()()"},
	{"######", "#### #####", "()()"},
	// Pieces that do not hang together.
	{"#.#.#", "#.#", "()"},
	{"######", "#.#", "(())"},
	{"#####", "#..#", "(())"},
	{"######", "#.# #...#", "(()())(()())"},
	// Regions of more rows.
	{"##/#.", "##", "()()"},
	{"##./#.#", "##", "()()"},
	{"##/##/#.", "##", "(()())(())"},
	{"###/###", "####", ""},
	{"###/###", "##/##", "()"},
	{"###/###", "###/.#", "()"},
	{"##/##/##", "###/.#", "()"},
	{"###/#.#/##.", "##", "((()))(())"},
	{"###/#.#/##.", "### ##", "((()))(())(())(())"},
	{"###/###/###", "##/##", "()"},
	{"###/###/###", "###/#", "()(())()(())()(())"},
	{".##/###/##.", "##/##", "()"},
	// Two pieces with the same placements, which are tried once.
	{"###", "## ##", "()"},
	{"###", "## #/#", "()"},
	{"##/##/#.", "## #/# ## #/# ##", "(()())(())"},
	{"#####", "## #### #/# #/#/#/#", "(())()"},
	// Pieces of which some do not fit.
	{"###", "## ########", "()"},
	{"##/##/#.", "######## ##", "(()())(())"},
	{"#####", "###### ## ##/# #### ##/##", "(())()"},
	// The greatest grid.
	{fullGrid, "########", ""},
	{fullGrid, "#.....#", ""},
	{fullGrid, "#/////.....#", "()"},
	{fullGrid, "#....#", "(((((())))))((((((()))))))"},
	{"#" + emptyGrid[1:], "##", ""},
	{emptyGrid[:40] + "#", "##", ""},
	{"##" + emptyGrid[2:40] + "#", "##", "()"},
}

func TestRefutedExamples(t *testing.T) {
	for _, c := range refutedExamples {
		r, pieces := regionOf(c.region), piecesOf(t, c.pieces)
		if got, ok := impl.RefutationOf(r, pieces); got != c.trace || !ok {
			t.Errorf("RefutationOf of %s by %s = %q, %v, want %q", c.region, c.pieces, got, ok, c.trace)
		}
		if !impl.IsRefutation(r, pieces, c.trace) {
			t.Errorf("IsRefutation of %s by %s for %q = false", c.region, c.pieces, c.trace)
		}
		for _, s := range stringsOver("()", 4) {
			if s != c.trace && impl.IsRefutation(r, pieces, s) {
				t.Errorf("IsRefutation of %s by %s for %q = true", c.region, c.pieces, s)
			}
		}
		if got, want := impl.SearchNodes(r, pieces), strings.Count(c.trace, "("); got != want {
			t.Errorf("SearchNodes of %s by %s = %d, want %d", c.region, c.pieces, got, want)
		}
		if impl.HasTiling(r, pieces) {
			t.Errorf("HasTiling of %s by %s = true", c.region, c.pieces)
		}
		checkTrace(t, c.region, pieces, placementsOf(c.region, pieces...))
	}
}

// tiledExamples are searches with a result, whose traces are written down by hand too.
var tiledExamples = []struct{ region, pieces, trace string }{
	// No cells: nothing is tried, and this is a tiling.
	{".", "#", ""},
	{".", "##", ""},
	{".", "########", ""},
	{"../..", "# ##", ""},
	{emptyGrid, "#", ""},
	{emptyGrid, "# ## ### #### ##/#", ""},
	// One tiling.
	{"#", "#", "()"},
	{".#", "#", "()"},
	{"#", "## #", "()"},
	{"##", "##", "()"},
	{"###", "###", "()"},
	{"####", "##", "(())"},
	{"###", "#", "((()))"},
	{"##/##", "##/##", "()"},
	{"#.#", "#.#", "()"},
	{"####", "#.#", "(())"},
	{"##.##", "##", "(())"},
	// A tiling that is reached first, in the middle, or last.
	{"#####", "# ####", "((((())))())(())"},
	{"#####", "## ###", "(()())(())"},
	{"####", "### ##", "(())()"},
	{"####", "### ####", "()()"},
	{"##/##", "##/# ##/##", "()()()()"},
	// Many tilings.
	{"##", "# ##", "(())()"},
	{"###", "# ##", "((())())(())"},
	{"##/##", "##", "(())(())"},
	{"###/###", "##", "((()))((())(()))"},
	{"##/##/##", "##", "((())(()))((()))"},
}

func TestTiledExamples(t *testing.T) {
	for _, c := range tiledExamples {
		r, pieces := regionOf(c.region), piecesOf(t, c.pieces)
		if got := traceWritten(searchOf(maskOf(c.region), placementsOf(c.region, pieces...))); got != c.trace {
			t.Errorf("%s by %s has the trace %q, want %q", c.region, c.pieces, got, c.trace)
		}
		if got, ok := impl.RefutationOf(r, pieces); got != "" || ok {
			t.Errorf("RefutationOf of %s by %s = %q, %v", c.region, c.pieces, got, ok)
		}
		for _, s := range append(stringsOver("()", 6), c.trace, c.trace+"()") {
			if impl.IsRefutation(r, pieces, s) {
				t.Errorf("IsRefutation of %s by %s for %q = true", c.region, c.pieces, s)
			}
		}
		if got, want := impl.SearchNodes(r, pieces), strings.Count(c.trace, "("); got != want {
			t.Errorf("SearchNodes of %s by %s = %d, want %d", c.region, c.pieces, got, want)
		}
		if !impl.HasTiling(r, pieces) {
			t.Errorf("HasTiling of %s by %s = false", c.region, c.pieces)
		}
	}
}

// joined has the numbers of all lists in ascending order, each once.
func joined(lists ...[]int) []int {
	out := slices.Concat(lists...)
	slices.Sort(out)
	return slices.Compact(out)
}

// TestTracesOfSmallRegions has all regions of small grids, with all sets of up to five of some pieces.
func TestTracesOfSmallRegions(t *testing.T) {
	pieces := piecesOf(t, "# ## ### ##/# #/.# #.#")
	drawings := slices.Concat(drawingsIn(1, 1), drawingsIn(2, 2), drawingsIn(3, 2), drawingsIn(2, 3), drawingsIn(6, 1), drawingsIn(1, 5), drawingsIn(4, 2), drawingsIn(3, 3))
	for _, d := range drawings {
		var placements [][]int
		for _, s := range pieces {
			placements = append(placements, placementsOf(d, s))
		}
		for set := 1; set < 63; set++ {
			var chosen [][]impl.Cell
			var masks [][]int
			for i, s := range pieces {
				if set>>i&1 == 1 {
					chosen, masks = append(chosen, s), append(masks, placements[i])
				}
			}
			checkTrace(t, d, chosen, joined(masks...))
		}
	}
}

func TestTracesOfRegions(t *testing.T) {
	drawings := []string{"####/####/###.", "####/#..#/####", "#####/####.", "######/######", "##/##/##/##/##", "###/###/###/##.", "####/####/####/####", ".##./####/####/.##.", "###.../######/...###", "#.#.#./.#.#.#", ".##.##/##..##/#..#.#"}
	for i, d := range greatDrawings() {
		if i%30 == 0 {
			drawings = append(drawings, d)
		}
	}
	for _, pieces := range pieceLists(t) {
		for _, d := range drawings {
			if searchLength(d, pieces...) < 6000 {
				checkTrace(t, d, pieces, placementsOf(d, pieces...))
			}
		}
	}
}

// isSearched tells whether a search puts the masks one after the other, each of them on the first free cell and only on free cells.
func isSearched(drawing string, l []int) bool {
	free := maskOf(drawing)
	for _, mask := range l {
		place := 0
		for place < 36 && free>>place&1 == 0 {
			place++
		}
		if mask>>place&1 == 0 || mask&free != mask {
			return false
		}
		free -= mask
	}
	return true
}

// TestTracesOfAllSets looks at all sets of placements.
func TestTracesOfAllSets(t *testing.T) {
	for _, pieces := range pieceLists(t) {
		for _, d := range []string{"##/##", "###/###", "##./#.#", "#####", "###/#.#/##.", ".#./###/.#.", "###/##.", "##/##/#.", "#.##.#"} {
			placements := placementsOf(d, pieces...)
			if len(placements) > 12 {
				continue
			}
			var search [][]int
			for set := 1; set < 1<<len(placements); set++ {
				var l []int
				for i, mask := range placements {
					if set>>i&1 == 1 {
						l = append(l, mask)
					}
				}
				if l = byLeastBits(l); isSearched(d, l) {
					search = append(search, l)
				}
			}
			slices.SortFunc(search, slices.Compare[[]int])
			text := traceWritten(search)
			if got := impl.SearchNodes(regionOf(d), pieces); got != len(search) {
				t.Fatalf("SearchNodes(%s, %v) = %d, want %d", d, pieces, got, len(search))
			}
			isTiled := maskOf(d) == 0 || slices.ContainsFunc(search, func(l []int) bool { return isTiling(d, placements, l) })
			if got := impl.IsRefutation(regionOf(d), pieces, text); got == isTiled {
				t.Fatalf("IsRefutation(%s, %v, %q) = %v", d, pieces, text, got)
			}
			if got, ok := impl.RefutationOf(regionOf(d), pieces); ok == isTiled || ok && got != text {
				t.Fatalf("RefutationOf(%s, %v) = %q, %v, want %q", d, pieces, got, ok, text)
			}
		}
	}
}

// TestRefutationsAreAcceptedOnlyWithoutTiling tries all short texts.
func TestRefutationsAreAcceptedOnlyWithoutTiling(t *testing.T) {
	texts := stringsOver("()", 8)
	for _, formats := range []string{"##", "###", "##/#", "## ###", "#.# ##", "#/.#", "# ##", "### ####"} {
		pieces := piecesOf(t, formats)
		for _, d := range drawingsIn(3, 2) {
			var accepted []string
			for _, s := range texts {
				if impl.IsRefutation(regionOf(d), pieces, s) {
					accepted = append(accepted, s)
				}
			}
			var want []string
			search := searchOf(maskOf(d), placementsOf(d, pieces...))
			if tilingCount(d, pieces...) == 0 && len(search) <= 4 {
				want = []string{traceWritten(search)}
			}
			if !slices.Equal(accepted, want) {
				t.Fatalf("IsRefutation of %s by %s accepts %q, want %q", d, formats, accepted, want)
			}
		}
	}
}

// searchesByLength have lengths at the limits, with a tiling or without one. The lengths are counted in another way.
var searchesByLength = []struct {
	length         int
	isTiled        bool
	region, pieces string
}{
	{999, false, ".##./##.#/#.##/##.#/####/####", "#/.# ##"},
	{999, false, "#####/#####/###.#/#####/.####", "##/# ###"},
	{999, true, ".####/.####/#####/.##.#", "##/# ##"},
	{1000, false, "#.###/#..##/#..#./.####/#####/#####", "#/.# ##"},
	{1000, false, "#####/###.#/#.###/.#.##/#.#.#", "## ### #### ##/# ##/##"},
	{1000, false, ".##./##.#/####/####/#..#/####", "#..# ##"},
	{1000, false, "####./##.##/#.##./#####/##..#", "#..# ##"},
	{1000, true, "##.##/#####/#####/##.#./#.###", "## ###"},
	{1000, true, "###/..#/###/###/#.#", "# ##"},
	{1000, true, "###../#####/####./#####/#####", "## ##/##"},
	{1001, false, "#####./######/.#.###/#.#.##", "##/# ##"},
	{1001, false, ".###/#.##/.###/####/####", "#/.# ##"},
	{1001, false, "######/######/##.###/###.##", "## ##/##"},
	{1001, false, "###/###/###/##./#.#/##.", "## ### #### ##/# ##/##"},
	{1001, true, "###/.##/###/###/###", "## ### #### ##/# ##/##"},
	{1002, false, "#####/##.##/##.##/#..##/.###.", "#..# ##"},
	{1002, true, "#####/##.#./#####/.####/####.", "##/# ##"},
	{4999, false, "###./####/#.##/####/####/#.##", "#/.# ##"},
	{4999, false, "#####/####./.####/#####/#.##.", "#..# ##"},
	{4999, true, "##.###/.#####/######/###.#.", "##/# ##"},
	{5000, false, "#####/#####/####./.###./##.##", "#/.# ##"},
	{5000, false, "##.##/#####/.####/####./.####", "#/.# ##"},
	{5000, true, "####/.###/.###/####", "# ##"},
	{5000, true, "######/#.##.#/######/######", "#/.# ##"},
	{5001, false, "###./####/####/.#.#/####/####", "#/.# ##"},
	{5001, false, "###..#/#.####/#..##./######/.#####", "#..# ##"},
	{5001, true, "#####/#####/.####/#####/#####", "## ##/##"},
	{5001, true, ".#####/######/###.##/######", "#.# ##/#"},
}

func TestSearchesByLength(t *testing.T) {
	for _, c := range searchesByLength {
		pieces := piecesOf(t, c.pieces)
		if got := searchLength(c.region, pieces...); got != c.length {
			t.Fatalf("the search of %s by %s has the length %d, want %d", c.region, c.pieces, got, c.length)
		}
		if got := tilingCount(c.region, pieces...) > 0; got != c.isTiled {
			t.Fatalf("%s by %s has a tiling: %v", c.region, c.pieces, got)
		}
		text, ok := impl.RefutationOf(regionOf(c.region), pieces)
		if want := !c.isTiled && c.length <= 1000; ok != want || len(text) > 0 && len(text) != 2*c.length {
			t.Errorf("RefutationOf of %s by %s has %d bytes, %v", c.region, c.pieces, len(text), ok)
		}
		checkTrace(t, c.region, pieces, placementsOf(c.region, pieces...))
	}
}

// TestLongSearches has searches that are far longer than what is told of them.
func TestLongSearches(t *testing.T) {
	for _, c := range []struct {
		region, pieces string
		isTiled        bool
	}{
		{fullGrid, "##", true},
		{fullGrid, "# ##", true},
		{fullGrid, "# ## ### #### #####", true},
		{fullGrid, "##/#", true},
		{"#####./######/######/######/######/.#####", "##", false},
		{".#####/######/######/######/######/#####.", "##", false},
		{".#####/######/######/######/######/#####.", "## ##/.## #..#", false},
		{"######/######/######/######/######/####.#", "##", false},
		{"######/######/######/######/####../.....#", "## ###", false},
		{"######/######/######/######/######/.....#", "## ### #### ##/# ##/##", true},
		{".#####/#####./######/######/######/######", "### ##/# ####", true},
	} {
		r, pieces := regionOf(c.region), piecesOf(t, c.pieces)
		if got := tilingCount(c.region, pieces...) > 0; got != c.isTiled {
			t.Errorf("%s by %s has a tiling: %v", c.region, c.pieces, got)
		}
		length := searchLength(c.region, pieces...)
		if length <= 1000 {
			t.Errorf("the search of %s by %s has the length %d", c.region, c.pieces, length)
		}
		if got := impl.SearchNodes(r, pieces); got != min(length, 5000) {
			t.Errorf("SearchNodes of %s by %s = %d, want %d", c.region, c.pieces, got, length)
		}
		if got, ok := impl.RefutationOf(r, pieces); got != "" || ok {
			t.Errorf("RefutationOf of %s by %s = %q, %v", c.region, c.pieces, got, ok)
		}
		for _, s := range []string{"", "()", strings.Repeat("()", 1000), strings.Repeat("(", 1000) + strings.Repeat(")", 1000)} {
			if impl.IsRefutation(r, pieces, s) {
				t.Errorf("IsRefutation of %s by %s for %.100q = true", c.region, c.pieces, s)
			}
		}
	}
}

// TestSearchNodesOfRectangles has numbers counted by hand.
func TestSearchNodesOfRectangles(t *testing.T) {
	for _, c := range []struct {
		region, pieces string
		want           int
	}{
		{fullGrid, "#", 36},
		{fullGrid, "##/##", 9},
		{fullGrid, "######", 12},
		{fullGrid, "########", 0},
		{fullGrid, "#/////.....#", 1},
		{"######", "#", 6},
		{"######", "##", 3},
		{"######", "# ##", 32},
		{"######", "# ## ### #### #####", 62},
		{"#/#/#/#/#/#", "# ##", 32},
		{"##/##", "##", 4},
		{"##/##", "##/#", 3},
		{"###/###", "##", 8},
		{"##/##/##", "##", 8},
		{"###/###", "##/#", 5},
	} {
		if got := impl.SearchNodes(regionOf(c.region), piecesOf(t, c.pieces)); got != c.want {
			t.Errorf("SearchNodes of %s by %s = %d, want %d", c.region, c.pieces, got, c.want)
		}
	}
}

// textsBeside are one step off: a byte less, a byte more, another byte, or two bytes changed over.
func textsBeside(s string, step int) []string {
	var out []string
	for i := 0; i <= len(s); i += step {
		for _, b := range []string{"(", ")", "x", " ", "\x00", "\xff", "[", "*", "()", ")("} {
			out = append(out, s[:i]+b+s[i:])
			if i < len(s) {
				out = append(out, s[:i]+b+s[i+1:])
			}
		}
		if i == len(s) {
			break
		}
		out = append(out, s[:i]+s[i+1:])
		for j := i + 1; j < len(s); j += step {
			out = append(out, s[:i]+s[j:j+1]+s[i+1:j]+s[i:i+1]+s[j+1:])
		}
	}
	return append(out, s+s, s+s+s, s+strings.Repeat("()", 1000), s+strings.Repeat(" ", 2001-min(len(s), 2001)), strings.Repeat("x", len(s)))
}

func TestTextsOneStepOff(t *testing.T) {
	for _, c := range []struct {
		region, pieces string
		step           int
	}{
		{"#", "##", 1},
		{"###", "##", 1},
		{"##/##/#.", "##", 1},
		{"###/#.#/##.", "##", 1},
		{"#####", "## ####", 1},
		{"###/###/###", "###/#", 1},
		{fullGrid, "#....#", 1},
		{"####/####/###.", "##", 3},
		{fullGrid, "####", 1},
		{fullGrid, "#####", 1},
		{fullGrid, "###/.#", 1},
		{fullGrid, "######/#", 5},
		{"#.###/#..##/#..#./.####/#####/#####", "#/.# ##", 201},
	} {
		r, pieces := regionOf(c.region), piecesOf(t, c.pieces)
		text, ok := impl.RefutationOf(r, pieces)
		if !ok || !impl.IsRefutation(r, pieces, text) {
			t.Fatalf("RefutationOf of %s by %s = %q, %v", c.region, c.pieces, text, ok)
		}
		checkTrace(t, c.region, pieces, placementsOf(c.region, pieces...))
		for _, s := range textsBeside(text, c.step) {
			if got := impl.IsRefutation(r, pieces, s); got != (s == text) {
				t.Fatalf("IsRefutation of %s by %s for %q = %v", c.region, c.pieces, s, got)
			}
		}
	}
}

// TestTracesThatAreTooLong gives the whole trace, and its beginning, for searches that are a little too long and far too long.
func TestTracesThatAreTooLong(t *testing.T) {
	for _, c := range searchesByLength {
		r, pieces := regionOf(c.region), piecesOf(t, c.pieces)
		if c.length <= 1000 && !c.isTiled {
			continue
		}
		text := traceWritten(searchOf(maskOf(c.region), placementsOf(c.region, pieces...)))
		for _, s := range []string{text, text[:1998], text[:len(text)-1], text[:min(len(text), 2000)], "", text + "()", strings.Repeat("()", 1000)} {
			if impl.IsRefutation(r, pieces, s) {
				t.Errorf("IsRefutation of %s by %s for %d bytes = true", c.region, c.pieces, len(s))
			}
		}
	}
}

func TestTextsByHand(t *testing.T) {
	for _, c := range []struct {
		s           string
		size, depth int
	}{
		{"", 0, 0},
		{"()", 1, 1},
		{"()()", 2, 1},
		{"(())", 2, 2},
		{"(())()", 3, 2},
		{"()(())", 3, 2},
		{"((()))(())", 5, 3},
		{"(()())(())", 5, 2},
		{"()((()())())()", 7, 3},
		// One too many open, or closed.
		{"(", -1, -1},
		{")", -1, -1},
		{"((", -1, -1},
		{"(()", -1, -1},
		{"()(", -1, -1},
		{"((())", -1, -1},
		{"())", -1, -1},
		{"(()))", -1, -1},
		// Closed too early, with equal numbers of both.
		{")(", -1, -1},
		{"())(", -1, -1},
		{"())(()", -1, -1},
		{"(()))(", -1, -1},
		{"))((", -1, -1},
		{")()(", -1, -1},
		{"()())(", -1, -1},
		{")(()", -1, -1},
		// Other bytes.
		{"x", -1, -1},
		{" ", -1, -1},
		{"\x00", -1, -1},
		{"()x", -1, -1},
		{"x()", -1, -1},
		{"(x)", -1, -1},
		{"() ()", -1, -1},
		{"()\n", -1, -1},
		{"[]", -1, -1},
		{"()[]", -1, -1},
		{"((]", -1, -1},
		{"{}", -1, -1},
		{"（）", -1, -1},
		{"(\xa8)", -1, -1},
		{"\xa8\xa9", -1, -1},
		{"-1", -1, -1},
		// Deep and wide ones.
		{strings.Repeat("(", 1000) + strings.Repeat(")", 1000), 1000, 1000},
		{strings.Repeat("()", 1000), 1000, 1},
		{strings.Repeat("()", 1001), 1001, 1},
		{strings.Repeat("(", 300000) + strings.Repeat(")", 300000), 300000, 300000},
		{strings.Repeat("()", 300000), 300000, 1},
		{strings.Repeat("(()(()))", 50000), 200000, 3},
		{strings.Repeat("(", 300000) + strings.Repeat(")", 299999), -1, -1},
		{strings.Repeat("(", 299999) + strings.Repeat(")", 300000), -1, -1},
		{strings.Repeat(")", 300000) + strings.Repeat("(", 300000), -1, -1},
		{strings.Repeat("()", 300000) + "(", -1, -1},
		{strings.Repeat("()", 300000) + ")", -1, -1},
		{strings.Repeat("()", 300000) + "x", -1, -1},
		{"x" + strings.Repeat("()", 300000), -1, -1},
		{strings.Repeat("(", 1000), -1, -1},
		{strings.Repeat(")", 1000), -1, -1},
	} {
		checkTraceText(t, c.s, c.size, c.depth)
	}
}

func TestAllShortTexts(t *testing.T) {
	for _, s := range append(stringsOver("()", 14), stringsOver("()x", 8)...) {
		size, depth := peeled(s)
		checkTraceText(t, s, size, depth)
	}
	for _, b := range allBytes() {
		for _, s := range []string{string(byte(b)), "(" + string(byte(b)) + ")"} {
			if b != '(' && b != ')' {
				checkTraceText(t, s, -1, -1)
			}
		}
	}
}

// checkNoTrace is for regions or pieces that are not valid.
func checkNoTrace(t *testing.T, why string, r impl.Region, pieces [][]impl.Cell) {
	t.Helper()
	if got, ok := impl.RefutationOf(r, pieces); got != "" || ok {
		t.Errorf("%s: RefutationOf(%v, %v) = %q, %v", why, r, pieces, got, ok)
	}
	if got := impl.SearchNodes(r, pieces); got != -1 {
		t.Errorf("%s: SearchNodes(%v, %v) = %d", why, r, pieces, got)
	}
	for _, s := range []string{"", "()", "(())", "()()", "(", "x", strings.Repeat("()", 1000), strings.Repeat("()", 1001)} {
		if impl.IsRefutation(r, pieces, s) {
			t.Errorf("%s: IsRefutation(%v, %v, %.100q) = true", why, r, pieces, s)
		}
	}
}

// TestTracesInNoRegions has regions that are not valid, with pieces of which some fit nowhere, and with no pieces.
func TestTracesInNoRegions(t *testing.T) {
	for why, r := range noRegions {
		for _, formats := range []string{"#", "##", "# ## ### #### #####", "########", "", "# ## ### #### ##/# ##/##"} {
			checkNoTrace(t, why, r, piecesOf(t, formats))
		}
	}
}

// TestTracesByNoPieces has regions with and without cells, with a tiling and without one.
func TestTracesByNoPieces(t *testing.T) {
	for why, pieces := range noPieces(t) {
		for _, d := range []string{"#", "##", "###", "##/##/#.", ".", "..", "##.#", fullGrid, emptyGrid} {
			checkNoTrace(t, why, regionOf(d), pieces)
		}
	}
	for count := 1; count <= 5; count++ {
		pieces := slices.Repeat(piecesOf(t, "##"), count)
		if !impl.IsRefutation(regionOf("###"), pieces, "()") {
			t.Errorf("IsRefutation by %d pieces = false", count)
		}
		for i := range count {
			changed := slices.Clone(pieces)
			changed[i] = cellsOf(1, 0, 0, 0)
			checkNoTrace(t, "cells out of order", regionOf("###"), changed)
		}
	}
	checkNoTrace(t, "six pieces", regionOf("###"), slices.Repeat(piecesOf(t, "##"), 6))
}

// TestTracesInAnyOrderOfPieces has the same results for the same pieces, in any place and motion, and with pieces more than once.
func TestTracesInAnyOrderOfPieces(t *testing.T) {
	for _, d := range []string{"#####", "###/#.#/##.", "####/###.", "####/####/####", "#.##.#/######", fullGrid} {
		for _, formats := range []string{"## ####", "## ### #.#", "##/# ###/# ###", "### #### ##/##", "######/# #...#"} {
			r, pieces := regionOf(d), piecesOf(t, formats)
			text, ok := impl.RefutationOf(r, pieces)
			nodes := impl.SearchNodes(r, pieces)
			for i := range pieces {
				order := append(slices.Clone(pieces[i:]), pieces[:i]...)
				for k := range order {
					turn, _ := impl.TurnShape(order[k], (3*i+k)%8)
					order[k], _ = impl.MoveShape(turn, k, i)
				}
				for _, p := range [][][]impl.Cell{order, append(order, order[0])} {
					if got, found := impl.RefutationOf(r, p); got != text || found != ok {
						t.Errorf("RefutationOf(%s, %v) = %q, %v, want %q, %v", d, p, got, found, text, ok)
					}
					if got := impl.SearchNodes(r, p); got != nodes {
						t.Errorf("SearchNodes(%s, %v) = %d, want %d", d, p, got, nodes)
					}
					if got := impl.IsRefutation(r, p, text); got != ok {
						t.Errorf("IsRefutation(%s, %v, %q) = %v", d, p, text, got)
					}
				}
			}
		}
	}
}

// TestTraceArguments gives each function parts of longer lists, which have to stay as they are.
func TestTraceArguments(t *testing.T) {
	rows := []int{7, 5, 3, 0, -5, 99}
	cells := cellsOf(2, 1, 3, 1, 2, 2, 9, 9, -3, 4)
	pieces := append(piecesOf(t, "## # ##/#"), cellsOf(7, 0, 0, 0), cells)
	for height := range 7 {
		r := impl.Region{Width: 3, Rows: rows[:height]}
		for _, p := range [][][]impl.Cell{nil, pieces[:1], pieces[:2], pieces[:3], pieces[:4], pieces, {cells[:2]}, {cells[:3], cells[:2]}} {
			text, _ := impl.RefutationOf(r, p)
			impl.IsRefutation(r, p, text)
			impl.SearchNodes(r, p)
		}
	}
	if !slices.Equal(rows, []int{7, 5, 3, 0, -5, 99}) {
		t.Errorf("the rows became %v", rows)
	}
	if !slices.Equal(cells, cellsOf(2, 1, 3, 1, 2, 2, 9, 9, -3, 4)) {
		t.Errorf("the cells became %v", cells)
	}
	if !sameShapes(pieces, append(piecesOf(t, "## # ##/#"), cellsOf(7, 0, 0, 0), cells)) {
		t.Errorf("the pieces became %v", pieces)
	}
}

// TestTracesDoNotDependOnEarlierCalls asks for searches again after others.
func TestTracesDoNotDependOnEarlierCalls(t *testing.T) {
	var texts []string
	for range 3 {
		for i, c := range refutedExamples {
			text, _ := impl.RefutationOf(regionOf(c.region), piecesOf(t, c.pieces))
			if texts = append(texts, text); texts[i] != text {
				t.Errorf("RefutationOf of %s by %s = %q, then %q", c.region, c.pieces, texts[i], text)
			}
			impl.SearchNodes(regionOf(fullGrid), piecesOf(t, "# ##"))
		}
	}
}
