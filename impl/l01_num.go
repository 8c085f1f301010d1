package impl

import (
	"strconv"
	"strings"
)

const MaxVarint = 562949953421311

const (
	maxFixedWidth   = 7
	maxVarintLength = 7
	maxIntDigits    = 9
	hexDigits       = "0123456789abcdef"
)

func EncodeFixed(n int, width int) string {
	if !isFixedWidth(width) || n < 0 || n >= 1<<(8*width) {
		return ""
	}
	out := make([]byte, width)
	for i := range out {
		out[width-1-i] = byte(n)
		n >>= 8
	}
	return string(out)
}

func DecodeFixed(s string, width int) (int, bool) {
	if !isFixedWidth(width) || len(s) < width {
		return 0, false
	}
	n := 0
	for i := range width {
		n = n<<8 | int(s[i])
	}
	return n, true
}

// Up to this width, a number and the first one that does not fit stay below the sign bit of an int.
func isFixedWidth(width int) bool {
	return width >= 1 && width <= maxFixedWidth
}

func EncodeVarint(n int) string {
	if n < 0 || n > MaxVarint {
		return ""
	}
	var out []byte
	for n >= 128 {
		out = append(out, byte(n)|128)
		n >>= 7
	}
	return string(append(out, byte(n)))
}

func DecodeVarint(s string) (int, int) {
	n, length := readGroups(s)
	// Encoding the number again finds out whether it was written with unnecessary bytes.
	if length == 0 || len(EncodeVarint(n)) != length {
		return 0, 0
	}
	return n, length
}

// readGroups stops after as many groups as MaxVarint has, so that the number cannot exceed it.
func readGroups(s string) (int, int) {
	n := 0
	for i := range min(len(s), maxVarintLength) {
		n |= int(s[i]&127) << (7 * i)
		if s[i] < 128 {
			return n, i + 1
		}
	}
	return 0, 0
}

func EncodeHex(s string) string {
	out := make([]byte, 0, 2*len(s))
	for i := range len(s) {
		out = append(out, hexDigits[s[i]>>4], hexDigits[s[i]&15])
	}
	return string(out)
}

func DecodeHex(s string) (string, bool) {
	if len(s)%2 != 0 {
		return "", false
	}
	out := make([]byte, len(s)/2)
	for i, r := range s {
		half, ok := hexValue(r)
		if !ok {
			return "", false
		}
		out[i/2] = out[i/2]<<4 | half
	}
	return string(out), true
}

func hexValue(r rune) (byte, bool) {
	switch {
	case r >= '0' && r <= '9':
		return byte(r - '0'), true
	case r >= 'a' && r <= 'f':
		return byte(r-'a') + 10, true
	}
	return 0, false
}

func FormatInt(n int) string {
	return strconv.Itoa(n)
}

func ParseInt(s string) (int, bool) {
	digits := strings.TrimPrefix(s, "-")
	if len(digits) > maxIntDigits {
		return 0, false
	}
	n := 0
	for _, r := range digits {
		n = n*10 + int(r-'0')
	}
	if len(digits) < len(s) {
		n = -n
	}
	// Formatting the number again finds out whether s has other characters than digits, no digit, a needless zero or -0.
	if FormatInt(n) != s {
		return 0, false
	}
	return n, true
}
