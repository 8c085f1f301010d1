package tests

import (
	"slices"
	"strings"
	"testing"

	"loop.example/g03400/impl"
)

// namedPieces are all names in the order of the document, with their formats and the cells that these stand for.
var namedPieces = []struct {
	name   string
	format string
	cells  []impl.Cell
}{
	{"I2", "##", cellsOf(0, 0, 1, 0)},
	{"I3", "###", cellsOf(0, 0, 1, 0, 2, 0)},
	{"V3", "##/#", cellsOf(0, 0, 1, 0, 0, 1)},
	{"I4", "####", cellsOf(0, 0, 1, 0, 2, 0, 3, 0)},
	{"L4", "###/#", cellsOf(0, 0, 1, 0, 2, 0, 0, 1)},
	{"T4", "###/.#", cellsOf(0, 0, 1, 0, 2, 0, 1, 1)},
	{"S4", ".##/##", cellsOf(1, 0, 2, 0, 0, 1, 1, 1)},
	{"O4", "##/##", cellsOf(0, 0, 1, 0, 0, 1, 1, 1)},
	{"X5", ".#/###/.#", cellsOf(1, 0, 0, 1, 1, 1, 2, 1, 1, 2)},
	{"P5", "##/##/#", cellsOf(0, 0, 1, 0, 0, 1, 1, 1, 0, 2)},
	{"W5", "#/##/.##", cellsOf(0, 0, 0, 1, 1, 1, 1, 2, 2, 2)},
	{"U5", "#.#/###", cellsOf(0, 0, 2, 0, 0, 1, 1, 1, 2, 1)},
}

func isPieceName(s string) bool {
	for _, p := range namedPieces {
		if p.name == s {
			return true
		}
	}
	return false
}

func TestPieceNamed(t *testing.T) {
	for _, p := range namedPieces {
		s, ok := impl.PieceNamed(p.name)
		if !ok || !slices.Equal(s, p.cells) {
			t.Errorf("PieceNamed(%q) = %v, %v, want %v", p.name, s, ok, p.cells)
		}
		if got := impl.FormatShape(s); got != p.format {
			t.Errorf("PieceNamed(%q) is %q, want %q", p.name, got, p.format)
		}
		if !impl.IsConnectedShape(s) || !slices.Equal(s, impl.CornerShape(s)) {
			t.Errorf("PieceNamed(%q) = %v", p.name, s)
		}
	}
}

func TestPieceNamedRejects(t *testing.T) {
	others := []string{
		"", " ", "I", "2", "I1", "I5", "I6", "V2", "V4", "V5", "L3", "L5", "T3", "T5", "S3", "S5", "Z4", "O3", "O5", "X4", "P4", "W4", "U4", "U6", "F5", "N5", "Y5", "Z5",
		"i2", "l4", "x5", "2I", "4L", "I02", "I2 ", " I2", "I 2", "I2\n", "I2\x00", "\x00I2", "I22", "I2I3", "I2+I3", "I2,I3", "I2I2",
		"\xff", "I\xff", "I\uff12", "\u04002", "I2\u0301", "none", "NULL", strings.Repeat("I2", 1000),
	}
	for _, p := range namedPieces {
		others = append(others, p.format, p.name[:1], p.name[1:], strings.ToLower(p.name), p.name+"4", p.name+" "+p.format)
	}
	for _, name := range others {
		if s, ok := impl.PieceNamed(name); len(s) > 0 || ok {
			t.Errorf("PieceNamed(%q) = %v, %v", name, s, ok)
		}
	}
}

// TestPieceNamedOfShortStrings tries all strings of up to two bytes, and of up to three bytes of those that the names have.
func TestPieceNamedOfShortStrings(t *testing.T) {
	for _, name := range append(stringsOver(allBytes(), 2), stringsOver("IVLTSOXPWU2345", 3)...) {
		if s, ok := impl.PieceNamed(name); ok != isPieceName(name) || ok != (len(s) > 0) {
			t.Errorf("PieceNamed(%q) = %v, %v", name, s, ok)
		}
	}
}

func TestNamedPiecesDiffer(t *testing.T) {
	for i, p := range namedPieces {
		a, _ := impl.PieceNamed(p.name)
		for j, q := range namedPieces {
			b, _ := impl.PieceNamed(q.name)
			if impl.IsCongruent(a, b) != (i == j) {
				t.Errorf("%s and %s: congruent is %v", p.name, q.name, i != j)
			}
		}
	}
}

// TestMotionsOfNamedPieces has the numbers of different results that a drawing shows.
func TestMotionsOfNamedPieces(t *testing.T) {
	orientations := map[string]int{"I2": 2, "I3": 2, "V3": 4, "I4": 2, "L4": 8, "T4": 4, "S4": 4, "O4": 1, "X5": 1, "P5": 8, "W5": 4, "U5": 4}
	chiral := []string{"L4", "S4", "P5"}
	for _, p := range namedPieces {
		s, _ := impl.PieceNamed(p.name)
		if got := len(impl.OrientationsOf(s)); got != orientations[p.name] || got*len(impl.SymmetriesOf(s)) != 8 {
			t.Errorf("%s has %d orientations and the symmetries %v", p.name, got, impl.SymmetriesOf(s))
		}
		if got := impl.IsChiral(s); got != slices.Contains(chiral, p.name) {
			t.Errorf("IsChiral of %s is %v", p.name, got)
		}
	}
}

func TestPieceNamedGivesNewMemory(t *testing.T) {
	for _, p := range namedPieces {
		first, _ := impl.PieceNamed(p.name)
		second, _ := impl.PieceNamed(p.name)
		overwrite(first, impl.Cell{X: -1, Y: -1})
		third, _ := impl.PieceNamed(p.name)
		if !slices.Equal(second, p.cells) || !slices.Equal(third, p.cells) {
			t.Errorf("%s became %v and %v", p.name, second, third)
		}
	}
}
