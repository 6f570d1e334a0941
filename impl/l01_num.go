package impl

import (
	"strconv"
	"strings"
)

const MaxVarint = 562949953421311

const (
	maxFixedWidth  = 7
	maxVarintBytes = 7
	maxIntDigits   = 9
	hexDigits      = "0123456789abcdef"
)

func isFixedWidth(width int) bool {
	return 1 <= width && width <= maxFixedWidth
}

func EncodeFixed(n int, width int) string {
	if !isFixedWidth(width) || n < 0 || n>>(8*width) != 0 {
		return ""
	}
	out := make([]byte, width)
	for i := width - 1; i >= 0; i-- {
		out[i] = byte(n)
		n >>= 8
	}
	return string(out)
}

func DecodeFixed(s string, width int) (int, bool) {
	if !isFixedWidth(width) || len(s) < width {
		return 0, false
	}
	n := 0
	for i := range width {
		n = n<<8 | int(s[i])
	}
	return n, true
}

func EncodeVarint(n int) string {
	if n < 0 || n > MaxVarint {
		return ""
	}
	var out []byte
	for n >= 128 {
		out = append(out, byte(n%128+128))
		n /= 128
	}
	return string(append(out, byte(n)))
}

func DecodeVarint(s string) (int, int) {
	n := 0
	for i := range min(len(s), maxVarintBytes) {
		group := int(s[i])
		n |= (group % 128) << (7 * i)
		if group >= 128 {
			continue
		}
		// A number has one varint only: the one without needless bytes.
		if EncodeVarint(n) != s[:i+1] {
			return 0, 0
		}
		return n, i + 1
	}
	return 0, 0
}

func EncodeHex(s string) string {
	out := make([]byte, 0, 2*len(s))
	for i := range len(s) {
		out = append(out, hexDigits[s[i]>>4], hexDigits[s[i]&15])
	}
	return string(out)
}

// hexValue returns -1 for a rune that is no lowercase hexadecimal digit.
func hexValue(r rune) int {
	switch {
	case '0' <= r && r <= '9':
		return int(r - '0')
	case 'a' <= r && r <= 'f':
		return int(r-'a') + 10
	}
	return -1
}

func DecodeHex(s string) (string, bool) {
	if len(s)%2 != 0 {
		return "", false
	}
	out := make([]byte, 0, len(s)/2)
	high := 0
	// All digits are single bytes, so i counts the digits before r; a rune of
	// several bytes or an invalid byte is no digit and ends the loop.
	for i, r := range s {
		digit := hexValue(r)
		if digit < 0 {
			return "", false
		}
		if i%2 == 0 {
			high = digit
		} else {
			out = append(out, byte(high<<4|digit))
		}
	}
	return string(out), true
}

func FormatInt(n int) string {
	return strconv.Itoa(n)
}

func ParseInt(s string) (int, bool) {
	digits := strings.TrimPrefix(s, "-")
	if len(digits) > maxIntDigits {
		return 0, false
	}
	n := 0
	for _, r := range digits {
		if r < '0' || r > '9' {
			return 0, false
		}
		n = 10*n + int(r-'0')
	}
	if len(digits) < len(s) {
		n = -n
	}
	// This rejects what FormatInt never writes: no digits, leading zeros, -0.
	if FormatInt(n) != s {
		return 0, false
	}
	return n, true
}
