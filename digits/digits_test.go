package digits_test

import (
	"iter"
	"math"
	"slices"
	"strings"
	"testing"
	"unsafe"

	"remontoir/api"
	"remontoir/digits"
)

// piece is what an iterator tells at once.
type piece struct {
	n    int
	text string
}

func collect(l iter.Seq2[int, string]) []piece {
	var all []piece
	for n, text := range l {
		all = append(all, piece{n, text})
	}
	return all
}

// numbered: texts with their numbers, from one on.
func numbered(first int, texts ...string) []piece {
	var all []piece
	for i, text := range texts {
		all = append(all, piece{first + i, text})
	}
	return all
}

// P1.1
func TestText(t *testing.T) {
	for _, c := range []struct {
		n    int
		want string
	}{
		{0, "0"}, {1, "1"}, {9, "9"}, {10, "10"}, {100, "100"}, {120, "120"},
		{digits.Most - 1, "2147483646"}, {digits.Most, "2147483647"}, {digits.Most + 1, "2147483647"},
		{1 << 32, "2147483647"}, {1 << 40, "2147483647"}, {math.MaxInt, "2147483647"},
		{-1, "0"}, {-3, "0"}, {-digits.Most, "0"}, {math.MinInt, "0"},
	} {
		for range 2 { // P2: the same each time
			if got := digits.Text(c.n); got != c.want {
				t.Errorf("Text(%d): %q, not %q", c.n, got, c.want)
			}
		}
	}
}

// P1.1
func TestMost(t *testing.T) {
	if digits.Most != 2147483647 {
		t.Error(digits.Most)
	}
}

// P1.1
func TestRead(t *testing.T) {
	for _, c := range []struct {
		s    string
		want int
	}{
		{"0", 0}, {"1", 1}, {"9", 9}, {"10", 10}, {"120", 120}, {"1000000000", 1000000000},
		{"2147483646", 2147483646}, {"2147483647", digits.Most},
	} {
		for range 2 { // P2
			if got, e := digits.Read(c.s); got != c.want || e != api.OK {
				t.Errorf("Read(%q): %d, %v", c.s, got, e)
			}
		}
	}
}

// P1.1
func TestReadErrors(t *testing.T) {
	for _, s := range []string{
		"", " ", "00", "07", "007", "-0", "-1", "+1", "1 ", " 1", "1\n", "x", "1x", "x1", "1a", "a", "1.0", "1e3", "0x1", "1_0", "1\x00", "\xff", "٣", "１",
		"2147483648", "2147483650", "3000000000", "4294967296", "4294967297", "9999999999", "10000000000",
		"9223372036854775807", "9223372036854775808", "18446744073709551616", "18446744073709551617", // wrapped round these would be numbers again
		strings.Repeat("0", 100000), strings.Repeat("0", 100000) + "1", "1" + strings.Repeat("0", 100000), strings.Repeat("9", 100000),
	} {
		if n, e := digits.Read(s); n != 0 || e != api.ErrDigits {
			t.Errorf("Read(%.40q): %d, %v", s, n, e)
		}
	}
}

// P1.1: of all bytes only ten are figures.
func TestReadBytes(t *testing.T) {
	for b := range 256 {
		figure := b >= '0' && b <= '9'
		n, e := digits.Read("1" + string([]byte{byte(b)}) + "5")
		switch {
		case figure && (n != 105+10*(b-'0') || e != api.OK):
			t.Errorf("byte %d: %d, %v", b, n, e)
		case !figure && (n != 0 || e != api.ErrDigits):
			t.Errorf("byte %d: %d, %v", b, n, e)
		}
	}
}

// P1.1: what Text writes is read as the same number.
func TestReadText(t *testing.T) {
	for n := 0; n < 20000; n++ {
		for _, m := range []int{n, n * 99991, digits.Most - n} {
			if got, e := digits.Read(digits.Text(m)); got != m || e != api.OK {
				t.Fatalf("%d: %d, %v", m, got, e)
			}
		}
	}
}

// P1.2
func TestWord(t *testing.T) {
	for _, c := range []struct {
		x    uint32
		text string
	}{
		{0, "00000000"}, {1, "00000001"}, {9, "00000009"}, {10, "0000000a"}, {11, "0000000b"}, {15, "0000000f"}, {16, "00000010"},
		{0x01234567, "01234567"}, {0x89abcdef, "89abcdef"}, {0x52454d31, "52454d31"},
		{0x7fffffff, "7fffffff"}, {0x80000000, "80000000"}, {math.MaxUint32, "ffffffff"},
	} {
		for range 2 { // P2
			if got := digits.Word(c.x); got != c.text {
				t.Errorf("Word(%x): %q", c.x, got)
			}
			if got, e := digits.ReadWord(c.text); got != c.x || e != api.OK {
				t.Errorf("ReadWord(%q): %x, %v", c.text, got, e)
			}
		}
	}
	for i := range 32 {
		x := uint32(1) << i
		if got, e := digits.ReadWord(digits.Word(x)); got != x || e != api.OK {
			t.Errorf("%x: %x, %v", x, got, e)
		}
	}
}

// P1.2
func TestReadWordErrors(t *testing.T) {
	for _, s := range []string{
		"", "0", "b", "0000000", "000000000", "100000000", "fffffffff", "0000000A", "0000000G", "0000000g", "DEADBEEF",
		"0x000000", "0x00000000", " 0000000", "0000000 ", " 00000000", "00000000 ", "+0000000", "-0000001", "0000_000", "\xff0000000", "0000000\n", "００", "0000000\x00",
		"10000000000000000", "ffffffffffffffff", "1" + strings.Repeat("0", 16) + "00000001", // wrapped round these would be words again
		strings.Repeat("0", 100000), strings.Repeat("f", 100000),
	} {
		if x, e := digits.ReadWord(s); x != 0 || e != api.ErrWord {
			t.Errorf("ReadWord(%.40q): %x, %v", s, x, e)
		}
	}
}

// P1.2: of all bytes sixteen are figures, at each place.
func TestReadWordBytes(t *testing.T) {
	for place := range 8 {
		for b := range 256 {
			l := []byte("00000000")
			l[place] = byte(b)
			value := strings.IndexByte("0123456789abcdef", byte(b))
			x, e := digits.ReadWord(string(l))
			switch {
			case value >= 0 && (x != uint32(value)<<(28-4*place) || e != api.OK):
				t.Errorf("%q: %x, %v", l, x, e)
			case value < 0 && (x != 0 || e != api.ErrWord):
				t.Errorf("%q: %x, %v", l, x, e)
			}
		}
	}
}

// P1.3
func TestPieces(t *testing.T) {
	for _, c := range []struct {
		s    string
		want []piece
	}{
		{"", nil}, {" ", nil}, {"     ", nil},
		{"a", numbered(0, "a")}, {" a  bc", numbered(0, "a", "bc")}, {"a b c", numbered(0, "a", "b", "c")},
		{"  a   b  ", numbered(0, "a", "b")}, {"abc   ", numbered(0, "abc")},
		{"a\tb\nc #d", numbered(0, "a\tb\nc", "#d")}, {"\xff \x00", numbered(0, "\xff", "\x00")}, {"ä\u00a0ö ü", numbered(0, "ä\u00a0ö", "ü")},
	} {
		l := digits.Pieces(c.s)
		for range 2 { // gone through again
			if got := collect(l); !slices.Equal(got, c.want) {
				t.Errorf("Pieces(%q): %v", c.s, got)
			}
		}
	}
}

// P1.3
func TestLines(t *testing.T) {
	for _, c := range []struct {
		s    string
		want []piece
	}{
		{"", nil},
		{"\n", numbered(1, "")}, {"\n\n", numbered(1, "", "")}, {"\n\n\n", numbered(1, "", "", "")},
		{"a", numbered(1, "a")}, {"a\n", numbered(1, "a")}, {"a\nb", numbered(1, "a", "b")}, {"a\nb\n", numbered(1, "a", "b")}, {"a\n\n", numbered(1, "a", "")}, {"\na", numbered(1, "", "a")},
		{"#", numbered(1, "")}, {"#\n", numbered(1, "")}, {"a#b", numbered(1, "a")}, {"a#b\n", numbered(1, "a")}, {"a#b#c\nd", numbered(1, "a", "d")}, {"#a\n#b\nc", numbered(1, "", "", "c")}, {"a\n#", numbered(1, "a", "")},
		{"a b # c\n\n x", numbered(1, "a b ", "", " x")}, {" \n ", numbered(1, " ", " ")}, {"a\r\nb\r", numbered(1, "a\r", "b\r")}, {"\xff\n\x00", numbered(1, "\xff", "\x00")},
	} {
		l := digits.Lines(c.s)
		for range 2 {
			if got := collect(l); !slices.Equal(got, c.want) {
				t.Errorf("Lines(%q): %v", c.s, got)
			}
		}
	}
}

// Rule 8: left at any time and gone through again, also while it is gone through; none is nil.
func TestLeft(t *testing.T) {
	for _, c := range []struct {
		l    iter.Seq2[int, string]
		want []piece
	}{
		{digits.Pieces("a b c"), numbered(0, "a", "b", "c")},
		{digits.Lines("a\nb\nc\n"), numbered(1, "a", "b", "c")},
	} {
		for many := 1; many <= len(c.want); many++ {
			var got []piece
			for n, s := range c.l {
				got = append(got, piece{n, s})
				if inner := collect(c.l); !slices.Equal(inner, c.want) {
					t.Errorf("gone through meanwhile: %v", inner)
				}
				if len(got) == many {
					break
				}
			}
			if !slices.Equal(got, c.want[:many]) {
				t.Errorf("left behind %d: %v", many, got)
			}
		}
		if got := collect(c.l); !slices.Equal(got, c.want) {
			t.Errorf("gone through again: %v", got)
		}
	}
	if digits.Pieces("") == nil || digits.Lines("") == nil {
		t.Error("nil")
	}
}

// Rule 5: what is answered shares no memory with what was handed in.
func TestNewMemory(t *testing.T) {
	s := strings.Repeat("abc def", 3)
	from := uintptr(unsafe.Pointer(unsafe.StringData(s)))
	for _, l := range []iter.Seq2[int, string]{digits.Pieces(s), digits.Lines(s)} {
		for _, text := range l {
			if at := uintptr(unsafe.Pointer(unsafe.StringData(text))); at >= from && at < from+uintptr(len(s)) {
				t.Errorf("%q lies in the argument", text)
			}
		}
	}
}
