package tests

import (
	"math"
	"math/big"
	"strings"
	"testing"

	"loop.example/g02080/impl"
)

// stringsUpTo returns all strings of at most n bytes of the alphabet.
func stringsUpTo(alphabet string, n int) []string {
	all := []string{""}
	level := all
	for range n {
		var next []string
		for _, s := range level {
			for i := range len(alphabet) {
				next = append(next, s+alphabet[i:i+1])
			}
		}
		all = append(all, next...)
		level = next
	}
	return all
}

func allBytes() string {
	b := make([]byte, 256)
	for i := range b {
		b[i] = byte(i)
	}
	return string(b)
}

// fixedNumbers returns numbers at and around each limit of a width.
func fixedNumbers() []int {
	list := []int{0, 1, 2, 258, 123456789, 0x01020304050607}
	for width := 1; width <= 7; width++ {
		list = append(list, 1<<(8*width)-2, 1<<(8*width)-1, 1<<(8*width), 1<<(8*width)+1)
	}
	return append(list, math.MaxInt)
}

func TestFixedRoundTrip(t *testing.T) {
	for _, n := range fixedNumbers() {
		for width := 1; width <= 7; width++ {
			s := impl.EncodeFixed(n, width)
			if n >= 1<<(8*width) {
				if s != "" {
					t.Errorf("EncodeFixed(%d, %d) = %q, but it does not fit", n, width, s)
				}
				continue
			}
			if len(s) != width {
				t.Errorf("EncodeFixed(%d, %d) = %q", n, width, s)
			}
			if m, ok := impl.DecodeFixed(s, width); m != n || !ok {
				t.Errorf("DecodeFixed(%q, %d) = %d, %v; want %d", s, width, m, ok, n)
			}
			if m, ok := impl.DecodeFixed(s+"\xffz", width); m != n || !ok {
				t.Errorf("DecodeFixed reads beyond width %d of %q: %d, %v", width, s, m, ok)
			}
		}
	}
}

func TestFixedIsBigEndian(t *testing.T) {
	if s := impl.EncodeFixed(0x01020304050607, 7); s != "\x01\x02\x03\x04\x05\x06\x07" {
		t.Errorf("EncodeFixed = %q", s)
	}
	if s := impl.EncodeFixed(258, 4); s != "\x00\x00\x01\x02" {
		t.Errorf("EncodeFixed(258, 4) = %q", s)
	}
	if n, ok := impl.DecodeFixed("\xff\xff\xff\xff\xff\xff\xff", 7); n != 1<<56-1 || !ok {
		t.Errorf("DecodeFixed of the greatest number = %d, %v", n, ok)
	}
}

func TestFixedEachPairOfBytes(t *testing.T) {
	for _, s := range stringsUpTo(allBytes(), 2) {
		if s == "" {
			continue
		}
		n, ok := impl.DecodeFixed(s, len(s))
		if !ok || impl.EncodeFixed(n, len(s)) != s {
			t.Fatalf("DecodeFixed(%q) = %d, %v", s, n, ok)
		}
	}
}

func TestFixedInvalid(t *testing.T) {
	long := strings.Repeat("\x01", 20)
	for _, width := range []int{math.MinInt, -8, -1, 0, 8, 9, 64, math.MaxInt} {
		for _, n := range []int{0, 1, -1} {
			if s := impl.EncodeFixed(n, width); s != "" {
				t.Errorf("EncodeFixed(%d, %d) = %q", n, width, s)
			}
		}
		if n, ok := impl.DecodeFixed(long, width); n != 0 || ok {
			t.Errorf("DecodeFixed with width %d = %d, %v", width, n, ok)
		}
	}
	for width := 1; width <= 7; width++ {
		for _, n := range []int{-1, -256, math.MinInt} {
			if s := impl.EncodeFixed(n, width); s != "" {
				t.Errorf("EncodeFixed(%d, %d) = %q", n, width, s)
			}
		}
		for size := range width {
			if n, ok := impl.DecodeFixed(long[:size], width); n != 0 || ok {
				t.Errorf("DecodeFixed of %d bytes with width %d = %d, %v", size, width, n, ok)
			}
		}
	}
}

// leb128 returns n as a varint of size bytes, with needless ones if size asks for them.
func leb128(n int, size int) string {
	b := make([]byte, size)
	for i := range b {
		b[i] = byte(n>>(7*i)&127 | 128)
	}
	b[size-1] &= 127
	return string(b)
}

// leastSize returns the number of bytes that the varint of n needs.
func leastSize(n int) int {
	size := 1
	for ; n >= 128; n >>= 7 {
		size++
	}
	return size
}

func varintNumbers() []int {
	list := []int{0, 1, 2, 300, 123456789, impl.MaxVarint - 1, impl.MaxVarint}
	for size := 1; size < 7; size++ {
		list = append(list, 1<<(7*size)-2, 1<<(7*size)-1, 1<<(7*size), 1<<(7*size)+1)
	}
	return list
}

func TestVarintRoundTrip(t *testing.T) {
	for _, n := range varintNumbers() {
		want := leb128(n, leastSize(n))
		s := impl.EncodeVarint(n)
		if s != want {
			t.Errorf("EncodeVarint(%d) = %q, want %q", n, s, want)
		}
		for _, tail := range []string{"", "\x00", "\x80", "\xff\xff", "z"} {
			if m, size := impl.DecodeVarint(want + tail); m != n || size != len(want) {
				t.Errorf("DecodeVarint(%q) = %d, %d; want %d, %d", want+tail, m, size, n, len(want))
			}
		}
	}
}

func TestVarintWithNeedlessBytes(t *testing.T) {
	for _, n := range varintNumbers() {
		for size := leastSize(n) + 1; size <= 11; size++ {
			s := leb128(n&(1<<56-1), size)
			if m, k := impl.DecodeVarint(s); m != 0 || k != 0 {
				t.Errorf("DecodeVarint(%q) = %d, %d, but %d has a shorter varint", s, m, k, n)
			}
		}
	}
}

func TestVarintEachPairOfBytes(t *testing.T) {
	for _, s := range stringsUpTo(allBytes(), 2) {
		n, size := impl.DecodeVarint(s)
		wantN, wantSize := 0, 0
		switch {
		case len(s) > 0 && s[0] < 128:
			wantN, wantSize = int(s[0]), 1
		case len(s) == 2 && 0 < s[1] && s[1] < 128:
			wantN, wantSize = int(s[0])-128+128*int(s[1]), 2
		}
		if n != wantN || size != wantSize {
			t.Fatalf("DecodeVarint(%q) = %d, %d; want %d, %d", s, n, size, wantN, wantSize)
		}
		if size > 0 && impl.EncodeVarint(n) != s[:size] {
			t.Fatalf("EncodeVarint(%d) = %q, want %q", n, impl.EncodeVarint(n), s[:size])
		}
	}
}

func TestVarintInvalid(t *testing.T) {
	if impl.MaxVarint != 562949953421311 {
		t.Errorf("MaxVarint = %d", impl.MaxVarint)
	}
	for _, n := range []int{-1, -300, math.MinInt, impl.MaxVarint + 1, 1 << 56, math.MaxInt} {
		if s := impl.EncodeVarint(n); s != "" {
			t.Errorf("EncodeVarint(%d) = %q", n, s)
		}
	}
	invalid := []string{
		leb128(impl.MaxVarint+1, 8),
		leb128(math.MaxInt, 9),
		strings.Repeat("\xff", 7),
		strings.Repeat("\xff", 7) + "\x7f",
		strings.Repeat("\x80", 7) + "\x01",
		strings.Repeat("\x80", 9) + "\x01",
		strings.Repeat("\x80", 100) + "\x01",
	}
	for size := range 20 {
		invalid = append(invalid, strings.Repeat("\x81", size))
	}
	for _, s := range invalid {
		if n, k := impl.DecodeVarint(s); n != 0 || k != 0 {
			t.Errorf("DecodeVarint(%q) = %d, %d", s, n, k)
		}
	}
}

func TestHexRoundTrip(t *testing.T) {
	for _, s := range append(stringsUpTo(allBytes(), 1), allBytes(), "a\xff", "\x00\x00", "\xc3\xa9", "\u20ac") {
		hex := impl.EncodeHex(s)
		if len(hex) != 2*len(s) || strings.Trim(hex, "0123456789abcdef") != "" {
			t.Errorf("EncodeHex(%q) = %q", s, hex)
		}
		if back, ok := impl.DecodeHex(hex); back != s || !ok {
			t.Errorf("DecodeHex(%q) = %q, %v; want %q", hex, back, ok, s)
		}
	}
	if s := impl.EncodeHex("\x1f\xf1"); s != "1ff1" {
		t.Errorf("EncodeHex puts the halves as %q", s)
	}
}

func TestHexEachPairOfBytes(t *testing.T) {
	accepted := 0
	for _, s := range stringsUpTo(allBytes(), 2) {
		back, ok := impl.DecodeHex(s)
		if !ok && back != "" {
			t.Fatalf("DecodeHex(%q) = %q with false", s, back)
		}
		if ok && impl.EncodeHex(back) != s {
			t.Fatalf("DecodeHex(%q) = %q, which EncodeHex gives as %q", s, back, impl.EncodeHex(back))
		}
		if ok {
			accepted++
		}
	}
	if accepted != 257 {
		t.Errorf("DecodeHex accepts %d strings of at most 2 bytes, want 257", accepted)
	}
}

func TestHexInvalid(t *testing.T) {
	for _, s := range []string{"6", "616", "6F", "F6", "616g", "6g61", " 61", "61 ", "0x61", "61-1", "61\n0", "\xc3\xa9", "61\xc3\xa9", "6\xc3\xa91", "\xff\xff", "61\xef\xbf\xbd0", "\uff11\uff11", "/0", ":0", "`0", "g0"} {
		if back, ok := impl.DecodeHex(s); back != "" || ok {
			t.Errorf("DecodeHex(%q) = %q, %v", s, back, ok)
		}
	}
}

func TestFormatInt(t *testing.T) {
	list := []int{0, 7, -7, 10, -10, math.MaxInt, math.MinInt, math.MinInt + 1}
	for n := 1; n <= math.MaxInt/10; n *= 10 {
		list = append(list, n-1, n, n+1, 1-n, -n, -n-1)
	}
	for _, n := range list {
		if s := impl.FormatInt(n); s != big.NewInt(int64(n)).String() {
			t.Errorf("FormatInt(%d) = %q", n, s)
		}
	}
}

func TestParseIntRoundTrip(t *testing.T) {
	list := []int{0, 123456789, 999999998, 999999999}
	for n := 1; n < 1000000000; n *= 10 {
		list = append(list, n-1, n, n+1, 7*n)
	}
	for _, n := range list {
		wantOk := n <= 999999999
		for _, m := range []int{n, -n} {
			want := m
			if !wantOk {
				want = 0
			}
			if got, ok := impl.ParseInt(impl.FormatInt(m)); got != want || ok != wantOk {
				t.Errorf("ParseInt(%q) = %d, %v", impl.FormatInt(m), got, ok)
			}
		}
	}
}

func TestParseIntShortStrings(t *testing.T) {
	accepted := 0
	for _, s := range stringsUpTo("-+0179 ", 4) {
		n, ok := impl.ParseInt(s)
		if !ok && n != 0 {
			t.Errorf("ParseInt(%q) = %d with false", s, n)
		}
		if ok && impl.FormatInt(n) != s {
			t.Errorf("ParseInt(%q) = %d, which FormatInt gives as %q", s, n, impl.FormatInt(n))
		}
		if ok {
			accepted++
		}
	}
	// 1 + (3 + 12 + 48 + 192) without a sign and 3 + 12 + 48 with one.
	if accepted != 319 {
		t.Errorf("ParseInt accepts %d strings, want 319", accepted)
	}
}

func TestParseIntInvalid(t *testing.T) {
	for _, s := range []string{"", "-", "--", "--1", "-0", "-07", "07", "00", "+1", "+", " 1", "1 ", "1\n", "1_0", "0x1", "1e1", "1.0", "1a", "a", "/", ":", "\x00", "\xff", "1\xff", "\u0661", "1\u0661", "\uff11", "1000000000", "-1000000000", "0000000001", "00000000000", "9223372036854775807", "-9223372036854775808", "18446744073709551617", strings.Repeat("1", 1000)} {
		if n, ok := impl.ParseInt(s); n != 0 || ok {
			t.Errorf("ParseInt(%q) = %d, %v", s, n, ok)
		}
	}
}
