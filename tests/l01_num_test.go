package tests

import (
	"encoding/binary"
	"encoding/hex"
	"math"
	"strconv"
	"strings"
	"testing"

	"loop.example/g03400/impl"
)

// numbersToTry returns numbers around all powers of 2, which include all bounds of widths and of varints, of both signs.
func numbersToTry() []int {
	out := []int{math.MinInt, math.MaxInt}
	for bit := range 63 {
		for d := -2; d <= 2; d++ {
			out = append(out, 1<<bit+d, -(1<<bit)+d, 1<<bit/3+d)
		}
	}
	return out
}

// stringsOver returns all strings over an alphabet with at most size bytes.
func stringsOver(alphabet string, size int) []string {
	out := []string{""}
	last := out
	for range size {
		var next []string
		for _, s := range last {
			for i := range len(alphabet) {
				next = append(next, s+alphabet[i:i+1])
			}
		}
		out = append(out, next...)
		last = next
	}
	return out
}

func allBytes() string {
	out := make([]byte, 256)
	for i := range out {
		out[i] = byte(i)
	}
	return string(out)
}

func TestEncodeFixedExamples(t *testing.T) {
	for _, c := range []struct {
		n, width int
		want     string
	}{
		{258, 2, "\x01\x02"},
		{0, 1, "\x00"},
		{0, 7, "\x00\x00\x00\x00\x00\x00\x00"},
		{255, 1, "\xff"},
		{256, 1, ""},
		{65535, 2, "\xff\xff"},
		{65536, 2, ""},
		{258, 4, "\x00\x00\x01\x02"},
		{0x01020304050607, 7, "\x01\x02\x03\x04\x05\x06\x07"},
		{1<<56 - 1, 7, "\xff\xff\xff\xff\xff\xff\xff"},
		{1 << 56, 7, ""},
		{math.MaxInt, 7, ""},
		{-1, 1, ""},
		{-1, 7, ""},
		{math.MinInt, 7, ""},
		{0, 0, ""},
		{0, -1, ""},
		{0, 8, ""},
		{5, 9, ""},
		{5, 64, ""},
		{5, math.MinInt, ""},
		{5, math.MaxInt, ""},
	} {
		if got := impl.EncodeFixed(c.n, c.width); got != c.want {
			t.Errorf("EncodeFixed(%d, %d) = %q, want %q", c.n, c.width, got, c.want)
		}
	}
}

func TestDecodeFixedExamples(t *testing.T) {
	for _, c := range []struct {
		s     string
		width int
		want  int
		ok    bool
	}{
		{"\x01\x02", 2, 258, true},
		{"\x01\x02\x03", 2, 258, true},
		{"\x00", 1, 0, true},
		{"\x80", 1, 128, true},
		{"\x00\x00\x05", 3, 5, true},
		{"\xff\xff\xff\xff\xff\xff\xff", 7, 1<<56 - 1, true},
		{"\xff\xff\xff\xff\xff\xff\xff\xff", 7, 1<<56 - 1, true},
		{"", 1, 0, false},
		{"a", 2, 0, false},
		{"abcdef", 7, 0, false},
		{"", 0, 0, false},
		{"abc", 0, 0, false},
		{"abc", -1, 0, false},
		{"abcdefgh", 8, 0, false},
		{"abcdefghi", 9, 0, false},
		{"abc", math.MinInt, 0, false},
		{"abc", math.MaxInt, 0, false},
	} {
		if n, ok := impl.DecodeFixed(c.s, c.width); n != c.want || ok != c.ok {
			t.Errorf("DecodeFixed(%q, %d) = %d, %v, want %d, %v", c.s, c.width, n, ok, c.want, c.ok)
		}
	}
}

func TestDecodeFixedIsInverse(t *testing.T) {
	for _, n := range numbersToTry() {
		for width := 1; width <= 7; width++ {
			s := impl.EncodeFixed(n, width)
			if n < 0 || n >= 1<<(8*width) {
				if s != "" {
					t.Errorf("EncodeFixed(%d, %d) = %q, want none", n, width, s)
				}
				continue
			}
			if want := string(binary.BigEndian.AppendUint64(nil, uint64(n))[8-width:]); s != want {
				t.Errorf("EncodeFixed(%d, %d) = %q, want %q", n, width, s, want)
			}
			if got, ok := impl.DecodeFixed(s+"\xff", width); got != n || !ok {
				t.Errorf("DecodeFixed(%q, %d) = %d, %v, want %d", s, width, got, ok, n)
			}
		}
	}
	for _, s := range stringsOver(allBytes(), 2)[1:] {
		n, ok := impl.DecodeFixed(s, len(s))
		if got := impl.EncodeFixed(n, len(s)); got != s || !ok {
			t.Fatalf("EncodeFixed(DecodeFixed(%q)) = %q", s, got)
		}
	}
}

func TestEncodeVarintExamples(t *testing.T) {
	if impl.MaxVarint != 1<<49-1 {
		t.Fatal("MaxVarint is", impl.MaxVarint)
	}
	for _, c := range []struct {
		n    int
		want string
	}{
		{300, "\xac\x02"},
		{0, "\x00"},
		{1, "\x01"},
		{127, "\x7f"},
		{128, "\x80\x01"},
		{16383, "\xff\x7f"},
		{16384, "\x80\x80\x01"},
		{impl.MaxVarint, "\xff\xff\xff\xff\xff\xff\x7f"},
		{impl.MaxVarint + 1, ""},
		{math.MaxInt, ""},
		{-1, ""},
		{math.MinInt, ""},
	} {
		if got := impl.EncodeVarint(c.n); got != c.want {
			t.Errorf("EncodeVarint(%d) = %q, want %q", c.n, got, c.want)
		}
	}
}

func TestDecodeVarintExamples(t *testing.T) {
	for _, c := range []struct {
		s         string
		n, length int
	}{
		{"\xac\x02", 300, 2},
		{"\xac\x02z", 300, 2},
		{"\x00", 0, 1},
		{"\x00\x00", 0, 1},
		{"\x7f\xff", 127, 1},
		{"\x80\x01", 128, 2},
		{"\xff\xff\xff\xff\xff\xff\x7f", impl.MaxVarint, 7},
		{"\xff\xff\xff\xff\xff\xff\x7f\x01", impl.MaxVarint, 7},
		{"\x80\x80\x80\x80\x80\x80\x01", 1 << 42, 7},
		{"", 0, 0},
		{"\x80", 0, 0},
		{"\xac", 0, 0},
		{"\xff\xff\xff\xff\xff\xff", 0, 0},
		{"\xff\xff\xff\xff\xff\xff\xff", 0, 0},
		{"\x80\x80\x80\x80\x80\x80\x80\x01", 0, 0},
		{"\xff\xff\xff\xff\xff\xff\xff\x7f", 0, 0},
		{"\x80\x80\x80\x80\x80\x80\x80\x80\x80\x01", 0, 0},
		{strings.Repeat("\x80", 1000) + "\x01", 0, 0},
	} {
		if n, length := impl.DecodeVarint(c.s); n != c.n || length != c.length {
			t.Errorf("DecodeVarint(%q) = %d, %d, want %d, %d", c.s, n, length, c.n, c.length)
		}
	}
}

func TestDecodeVarintRejectsUnnecessaryBytes(t *testing.T) {
	for _, s := range []string{
		"\x80\x00",
		"\x81\x00",
		"\xff\x00",
		"\xac\x82\x00",
		"\x80\x80\x00",
		"\x80\x00\x01",
		"\xff\xff\xff\xff\xff\xff\x00",
		"\x80\x80\x80\x80\x80\x80\x00",
		"\xff\xff\xff\xff\xff\xff\xff\x00",
		"\x80\x80\x80\x80\x80\x80\x80\x80\x80\x00",
	} {
		if n, length := impl.DecodeVarint(s); n != 0 || length != 0 {
			t.Errorf("DecodeVarint(%q) = %d, %d, want zeros", s, n, length)
		}
	}
}

func TestDecodeVarintIsInverse(t *testing.T) {
	for _, n := range numbersToTry() {
		s := impl.EncodeVarint(n)
		if n < 0 || n > impl.MaxVarint {
			if s != "" {
				t.Errorf("EncodeVarint(%d) = %q, want none", n, s)
			}
			continue
		}
		if want := string(binary.AppendUvarint(nil, uint64(n))); s != want {
			t.Errorf("EncodeVarint(%d) = %q, want %q", n, s, want)
		}
		for _, rest := range []string{"", "\x00", "\xff", "\x80\x01"} {
			if got, length := impl.DecodeVarint(s + rest); got != n || length != len(s) {
				t.Errorf("DecodeVarint(%q) = %d, %d, want %d", s+rest, got, length, n)
			}
		}
		for i := range len(s) {
			if got, length := impl.DecodeVarint(s[:i]); got != 0 || length != 0 {
				t.Errorf("DecodeVarint(%q) = %d, %d, want zeros", s[:i], got, length)
			}
		}
	}
}

// TestDecodeVarintOfAllShortStrings compares the decoder with a search among all varints of up to two bytes.
func TestDecodeVarintOfAllShortStrings(t *testing.T) {
	numbers := map[string]int{}
	for n := range 1 << 14 {
		numbers[impl.EncodeVarint(n)] = n
	}
	if len(numbers) != 1<<14 {
		t.Fatal("two numbers have one varint:", len(numbers))
	}
	for _, s := range stringsOver(allBytes(), 2) {
		wantN, wantLength := 0, 0
		for i := 1; i <= len(s); i++ {
			if n, ok := numbers[s[:i]]; ok {
				wantN, wantLength = n, i
			}
		}
		if n, length := impl.DecodeVarint(s); n != wantN || length != wantLength {
			t.Fatalf("DecodeVarint(%q) = %d, %d, want %d, %d", s, n, length, wantN, wantLength)
		}
	}
}

func TestHexExamples(t *testing.T) {
	for _, c := range []struct{ s, want string }{
		{"", ""},
		{"a\xff", "61ff"},
		{"\x00", "00"},
		{"\x0f\xf0", "0ff0"},
		{"\xab\xcd\xef", "abcdef"},
		{"é", "c3a9"},
	} {
		if got := impl.EncodeHex(c.s); got != c.want {
			t.Errorf("EncodeHex(%q) = %q, want %q", c.s, got, c.want)
		}
		if got, ok := impl.DecodeHex(c.want); got != c.s || !ok {
			t.Errorf("DecodeHex(%q) = %q, %v, want %q", c.want, got, ok, c.s)
		}
	}
}

func TestDecodeHexRejects(t *testing.T) {
	for _, s := range []string{
		"6", "616", "6F", "FF", "aG", "ga", "g0", " 61", "61 ", "6 ", "0x", "-1", "+1",
		"/0", ":0", "`0", "@0", "\x00\x00", "\xff\xff", "61\xff\xff",
		"é", "é1", "1é", "1é1", "61é", "é61", "\u0661\u0661", "\u0130\u0130", "\uff11a",
	} {
		if got, ok := impl.DecodeHex(s); got != "" || ok {
			t.Errorf("DecodeHex(%q) = %q, %v, want none", s, got, ok)
		}
	}
}

func TestDecodeHexIsInverse(t *testing.T) {
	all := allBytes()
	if got := impl.EncodeHex(all); got != hex.EncodeToString([]byte(all)) {
		t.Errorf("EncodeHex of all bytes = %q", got)
	}
	if got, ok := impl.DecodeHex(impl.EncodeHex(all)); got != all || !ok {
		t.Errorf("DecodeHex(EncodeHex) of all bytes = %q, %v", got, ok)
	}
	for _, s := range stringsOver(all, 2) {
		want, err := hex.DecodeString(s)
		valid := err == nil && s == strings.ToLower(s)
		if !valid {
			want = nil
		}
		if got, ok := impl.DecodeHex(s); got != string(want) || ok != valid {
			t.Fatalf("DecodeHex(%q) = %q, %v, want %q, %v", s, got, ok, want, valid)
		}
	}
}

func TestFormatInt(t *testing.T) {
	for _, c := range []struct {
		n    int
		want string
	}{
		{0, "0"},
		{7, "7"},
		{10, "10"},
		{-1, "-1"},
		{-120, "-120"},
		{1000000000, "1000000000"},
		{math.MaxInt, "9223372036854775807"},
		{math.MinInt, "-9223372036854775808"},
	} {
		if got := impl.FormatInt(c.n); got != c.want {
			t.Errorf("FormatInt(%d) = %q, want %q", c.n, got, c.want)
		}
	}
}

func TestParseIntExamples(t *testing.T) {
	for _, c := range []struct {
		s    string
		want int
	}{
		{"0", 0},
		{"7", 7},
		{"-7", -7},
		{"10", 10},
		{"100", 100},
		{"999999999", 999999999},
		{"-999999999", -999999999},
		{"100000000", 100000000},
	} {
		if n, ok := impl.ParseInt(c.s); n != c.want || !ok {
			t.Errorf("ParseInt(%q) = %d, %v, want %d", c.s, n, ok, c.want)
		}
	}
}

func TestParseIntRejects(t *testing.T) {
	for _, s := range []string{
		"", "-", "--1", "-0", "00", "07", "-07", "000000000", "0000000007", "+1", "+0", " 1", "1 ", "1\n", "1-", "1.0", "1_000", "0x1", "1e3", "a", "\x00", "\xff", "\xb11",
		"1000000000", "-1000000000", "9999999999", "9223372036854775807", "-9223372036854775808", "18446744073709551617", strings.Repeat("9", 1000),
		"\u0661", "1\u0661", "-\u0661", "\uff11", "\u22121", "/", ":",
	} {
		if n, ok := impl.ParseInt(s); n != 0 || ok {
			t.Errorf("ParseInt(%q) = %d, %v, want none", s, n, ok)
		}
	}
}

func TestParseIntIsInverse(t *testing.T) {
	numbers := numbersToTry()
	for n := -2000; n <= 2000; n++ {
		numbers = append(numbers, n)
	}
	for _, n := range numbers {
		s := impl.FormatInt(n)
		if want := strconv.Itoa(n); s != want {
			t.Errorf("FormatInt(%d) = %q, want %q", n, s, want)
		}
		want, valid := n, n >= -999999999 && n <= 999999999
		if !valid {
			want = 0
		}
		if got, ok := impl.ParseInt(s); got != want || ok != valid {
			t.Errorf("ParseInt(%q) = %d, %v, want %d, %v", s, got, ok, want, valid)
		}
	}
	for _, s := range stringsOver("-+0129/: _a\xff", 4) {
		want, err := strconv.Atoi(s)
		valid := err == nil && strconv.Itoa(want) == s
		if !valid {
			want = 0
		}
		if got, ok := impl.ParseInt(s); got != want || ok != valid {
			t.Fatalf("ParseInt(%q) = %d, %v, want %d, %v", s, got, ok, want, valid)
		}
	}
}
