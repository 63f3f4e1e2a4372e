package tests

import (
	"math"
	"slices"
	"strings"
	"testing"
	"unsafe"

	"loop.example/g00124/impl"
)

// sharesBytes tells whether two texts lie, in part, in the same memory.
func sharesBytes(a, b string) bool {
	if a == "" || b == "" {
		return false
	}
	fromA := uintptr(unsafe.Pointer(unsafe.StringData(a)))
	fromB := uintptr(unsafe.Pointer(unsafe.StringData(b)))
	return fromA < fromB+uintptr(len(b)) && fromB < fromA+uintptr(len(a))
}

func TestWordConstants(t *testing.T) {
	got := []int{impl.MaxText, impl.MaxNumber, impl.MaxWords, impl.MaxParts}
	if !slices.Equal(got, []int{20000, 1000000000, 600, 10}) {
		t.Errorf("constants: %v", got)
	}
}

func TestVarText(t *testing.T) {
	for _, c := range []struct {
		n    int
		text string
		ok   bool
	}{
		{0, "\x00", true},
		{1, "\x01", true},
		{127, "\x7f", true},
		{128, "\x80\x01", true},
		{255, "\xff\x01", true},
		{256, "\x80\x02", true},
		{300, "\xac\x02", true},
		{16383, "\xff\x7f", true},
		{16384, "\x80\x80\x01", true},
		{2097151, "\xff\xff\x7f", true},
		{2097152, "\x80\x80\x80\x01", true},
		{268435455, "\xff\xff\xff\x7f", true},
		{268435456, "\x80\x80\x80\x80\x01", true},
		{impl.MaxNumber, "\x80\x94\xeb\xdc\x03", true},
		{impl.MaxNumber + 1, "", false},
		{-1, "", false},
		{-128, "", false},
		{math.MinInt, "", false},
		{math.MaxInt, "", false},
	} {
		text, ok := impl.VarText(c.n)
		if text != c.text || ok != c.ok {
			t.Errorf("VarText(%d): %q %v, want %q %v", c.n, text, ok, c.text, c.ok)
		}
	}
}

func TestReadVar(t *testing.T) {
	most := "\x80\x94\xeb\xdc\x03"
	for _, c := range []struct {
		text      string
		at        int
		n, behind int
		ok        bool
	}{
		{"\x00", 0, 0, 1, true},
		{"\x7f", 0, 127, 1, true},
		{"\x80\x01", 0, 128, 2, true},
		{"\x00\xac\x02", 1, 300, 3, true},
		{"\xac\x02\x80", 0, 300, 2, true},
		{"\xac\x02", 1, 2, 2, true},
		{"\x00\x00", 1, 0, 2, true},
		{"\x80\x80\x01", 0, 16384, 3, true},
		{"\x80\x80\x01", 1, 128, 3, true},
		{most, 0, impl.MaxNumber, 5, true},
		{"x" + most + "y", 1, impl.MaxNumber, 6, true},
		// Above MaxNumber, up to what would wrap round.
		{"\x81\x94\xeb\xdc\x03", 0, 0, 0, false},
		{"\x80\x80\x80\x80\x04", 0, 0, 0, false},
		{"\xff\xff\xff\xff\x7f", 0, 0, 0, false},
		{"\x80\x80\x80\x80\x80\x01", 0, 0, 0, false},
		{"\xff\xff\xff\xff\xff\xff\xff\xff\xff\x01", 0, 0, 0, false},
		{"\x81\x80\x80\x80\x80\x80\x80\x80\x80\x02", 0, 0, 0, false},
		{strings.Repeat("\x80", 1000) + "\x01", 0, 0, 0, false},
		// Longer forms.
		{"\x80\x00", 0, 0, 0, false},
		{"\x81\x00", 0, 0, 0, false},
		{"\xff\x00", 0, 0, 0, false},
		{"\xac\x82\x00", 0, 0, 0, false},
		{"\x80\x80\x80\x80\x00", 0, 0, 0, false},
		{"\x81\x80\x80\x80\x80\x00", 0, 0, 0, false},
		{"x\x80\x00", 1, 0, 0, false},
		// Cut short.
		{"\x80", 0, 0, 0, false},
		{"\xac", 0, 0, 0, false},
		{"\x80\x94\xeb\xdc", 0, 0, 0, false},
		{"\x00\xac\x82", 1, 0, 0, false},
		// No such place, or nothing there.
		{"", 0, 0, 0, false},
		{"\x05", 1, 0, 0, false},
		{"\x05", 2, 0, 0, false},
		{"\x05", -1, 0, 0, false},
		{"", 1, 0, 0, false},
		{"", -1, 0, 0, false},
		{"\x05", math.MaxInt, 0, 0, false},
		{"\x05", math.MinInt, 0, 0, false},
	} {
		n, behind, ok := impl.ReadVar(c.text, c.at)
		if n != c.n || behind != c.behind || ok != c.ok {
			t.Errorf("ReadVar(%q, %d): %d %d %v, want %d %d %v", c.text, c.at, n, behind, ok, c.n, c.behind, c.ok)
		}
	}
}

// A text of three bytes begins with a number when, and only when, one of its beginnings is the VarText of one.
func TestReadVarIsWhatVarTextWrites(t *testing.T) {
	written := map[string]int{}
	for n := range 1 << 21 {
		text, ok := impl.VarText(n)
		if !ok {
			t.Fatalf("VarText(%d) is false", n)
		}
		if other, there := written[text]; there {
			t.Fatalf("VarText of %d and of %d are the same", other, n)
		}
		written[text] = n
	}
	ends := []byte{0, 1, 2, 63, 126, 127, 128, 129, 254, 255}
	for a := range 256 {
		for b := range 256 {
			for _, c := range ends {
				text := string([]byte{byte(a), byte(b), c})
				wantN, wantBehind, want := 0, 0, false
				for length := 1; length <= 3 && !want; length++ {
					if n, there := written[text[:length]]; there {
						wantN, wantBehind, want = n, length, true
					}
				}
				n, behind, ok := impl.ReadVar(text, 0)
				if n != wantN || behind != wantBehind || ok != want {
					t.Fatalf("ReadVar(%q, 0): %d %d %v, want %d %d %v", text, n, behind, ok, wantN, wantBehind, want)
				}
			}
		}
	}
}

func numbersToTry() []int {
	list := []int{0, 1, impl.MaxNumber - 1, impl.MaxNumber}
	for power := 2; power < impl.MaxNumber; power *= 2 {
		list = append(list, power-1, power, power+1)
	}
	for n := 7; n < impl.MaxNumber; n += 1234577 {
		list = append(list, n)
	}
	return list
}

func TestNumbersComeBack(t *testing.T) {
	for _, n := range numbersToTry() {
		text, ok := impl.VarText(n)
		if !ok {
			t.Fatalf("VarText(%d) is false", n)
		}
		for _, ahead := range []string{"", "\xff", "ab"} {
			whole := ahead + text + "\x80"
			back, behind, ok := impl.ReadVar(whole, len(ahead))
			if back != n || behind != len(ahead)+len(text) || !ok {
				t.Fatalf("ReadVar(%q, %d): %d %d %v, want %d", whole, len(ahead), back, behind, ok, n)
			}
		}
		for cut := range len(text) {
			if _, _, ok := impl.ReadVar(text[:cut], 0); ok {
				t.Fatalf("ReadVar takes %q, %d cut short", text[:cut], n)
			}
		}
		if back, ok := impl.ReadDecimal(impl.Decimal(n)); back != n || !ok {
			t.Fatalf("ReadDecimal(Decimal(%d)): %d %v", n, back, ok)
		}
	}
}

func TestShortText(t *testing.T) {
	full := strings.Repeat("f", impl.MaxText)
	for _, c := range []struct {
		s, text string
		ok      bool
	}{
		{"", "\x00", true},
		{"ab", "\x02ab", true},
		{"\x00\xff", "\x02\x00\xff", true},
		{full[:127], "\x7f" + full[:127], true},
		{full[:128], "\x80\x01" + full[:128], true},
		{full, "\xa0\x9c\x01" + full, true},
		{full + "f", "", false},
		{full + full, "", false},
	} {
		text, ok := impl.ShortText(c.s)
		if text != c.text || ok != c.ok {
			t.Errorf("ShortText of %d bytes: %d bytes, %v", len(c.s), len(text), ok)
		}
		if sharesBytes(text, c.s) {
			t.Errorf("ShortText of %d bytes shares them", len(c.s))
		}
	}
}

func TestReadShort(t *testing.T) {
	full := strings.Repeat("f", impl.MaxText)
	for _, c := range []struct {
		text   string
		at     int
		s      string
		behind int
		ok     bool
	}{
		{"\x00", 0, "", 1, true},
		{"\x02ab", 0, "ab", 3, true},
		{"\x02abc", 0, "ab", 3, true},
		{"xx\x02ab\x01", 2, "ab", 5, true},
		{"x\x00", 1, "", 2, true},
		{"\x80\x01" + full[:128], 0, full[:128], 130, true},
		{"\xa0\x9c\x01" + full, 0, full, impl.MaxText + 3, true},
		{"\xa0\x9c\x01" + full + "f", 0, full, impl.MaxText + 3, true},
		// Longer than MaxText.
		{"\xa1\x9c\x01" + full + "f", 0, "", 0, false},
		// Cut short, in the text and in its length.
		{"\xa0\x9c\x01" + full[1:], 0, "", 0, false},
		{"\x02a", 0, "", 0, false},
		{"\x01", 0, "", 0, false},
		{"\x80", 0, "", 0, false},
		// A longer form of its length, and a length that no text has.
		{"\x82\x00ab", 0, "", 0, false},
		{"\x80\x00", 0, "", 0, false},
		{"\x80\x94\xeb\xdc\x03ab", 0, "", 0, false},
		{"\xff\xff\xff\xff\xff\xff\xff\xff\xff\x01ab", 0, "", 0, false},
		// No such place, or nothing there.
		{"", 0, "", 0, false},
		{"\x00", 1, "", 0, false},
		{"\x00", 2, "", 0, false},
		{"\x00", -1, "", 0, false},
		{"\x00", math.MaxInt, "", 0, false},
		{"\x00", math.MinInt, "", 0, false},
	} {
		s, behind, ok := impl.ReadShort(c.text, c.at)
		if s != c.s || behind != c.behind || ok != c.ok {
			t.Errorf("ReadShort(%.20q of %d bytes, %d): %d bytes, %d %v, want %d bytes, %d %v",
				c.text, len(c.text), c.at, len(s), behind, ok, len(c.s), c.behind, c.ok)
		}
		if sharesBytes(s, c.text) {
			t.Errorf("ReadShort(%.20q, %d) shares its argument's bytes", c.text, c.at)
		}
	}
}

// someText is made by a plain rule, so that each length has bytes of all kinds.
func someText(length int) string {
	out := make([]byte, length)
	for i := range out {
		out[i] = byte(i*i*31 + i*7 + length)
	}
	return string(out)
}

func TestTextsComeBack(t *testing.T) {
	for _, length := range []int{0, 1, 2, 3, 16, 126, 127, 128, 129, 255, 256, 16383, 16384, impl.MaxText - 1, impl.MaxText} {
		s := someText(length)
		short, ok := impl.ShortText(s)
		if !ok {
			t.Fatalf("ShortText of %d bytes is false", length)
		}
		whole := "\x81" + short + "\x80"
		if back, behind, ok := impl.ReadShort(whole, 1); back != s || behind != len(whole)-1 || !ok {
			t.Errorf("ReadShort of a text of %d bytes: %d bytes, %d %v", length, len(back), behind, ok)
		}
		if _, _, ok := impl.ReadShort(short[:len(short)-1], 0); ok {
			t.Errorf("ReadShort takes a text of %d bytes that is cut short", length)
		}
		hex, ok := impl.Hex(s)
		if !ok || len(hex) != 2*length {
			t.Fatalf("Hex of %d bytes: %d figures, %v", length, len(hex), ok)
		}
		if back, ok := impl.Unhex(hex); back != s || !ok {
			t.Errorf("Unhex of a text of %d bytes: %d bytes, %v", length, len(back), ok)
		}
	}
}

func TestHex(t *testing.T) {
	for _, c := range []struct {
		text, hex string
		ok        bool
	}{
		{"", "", true},
		{"\x00", "00", true},
		{"\x0f\xf0", "0ff0", true},
		{"\x12\xab\xcd\xef\xff", "12abcdefff", true},
		{"Az", "417a", true},
		{strings.Repeat("\x1f", impl.MaxText), strings.Repeat("1f", impl.MaxText), true},
		{strings.Repeat("\x1f", impl.MaxText+1), "", false},
	} {
		hex, ok := impl.Hex(c.text)
		if hex != c.hex || ok != c.ok {
			t.Errorf("Hex of %d bytes: %.20q %v, want %.20q %v", len(c.text), hex, ok, c.hex, c.ok)
		}
	}
}

func TestUnhex(t *testing.T) {
	for _, c := range []struct {
		hex, text string
		ok        bool
	}{
		{"", "", true},
		{"00", "\x00", true},
		{"0ff0", "\x0f\xf0", true},
		{"12abcdefff", "\x12\xab\xcd\xef\xff", true},
		{strings.Repeat("1f", impl.MaxText), strings.Repeat("\x1f", impl.MaxText), true},
		{strings.Repeat("1f", impl.MaxText+1), "", false},
		{strings.Repeat("1f", impl.MaxText) + "1", "", false},
		{"0", "", false},
		{"abc", "", false},
		{"AB", "", false},
		{"aB", "", false},
		{"0F", "", false},
		{"0g", "", false},
		{"g0", "", false},
		{"`0", "", false},
		{"/0", "", false},
		{"0:", "", false},
		{" 0", "", false},
		{"00 0", "", false},
		{"-1", "", false},
		{"0x", "", false},
		{"00\x00\x00", "", false},
		{"\xb1\xb2", "", false},
	} {
		text, ok := impl.Unhex(c.hex)
		if text != c.text || ok != c.ok {
			t.Errorf("Unhex(%.20q of %d bytes): %.20q %v, want %.20q %v", c.hex, len(c.hex), text, ok, c.text, c.ok)
		}
	}
}

// Of all pairs of bytes just those that Hex writes are read.
func TestUnhexIsWhatHexWrites(t *testing.T) {
	written := map[string]string{}
	for b := range 256 {
		text := string([]byte{byte(b)})
		hex, _ := impl.Hex(text)
		written[hex] = text
	}
	if len(written) != 256 {
		t.Fatalf("Hex writes %d texts for 256 bytes", len(written))
	}
	for a := range 256 {
		for b := range 256 {
			hex := string([]byte{byte(a), byte(b)})
			want, there := written[hex]
			if text, ok := impl.Unhex(hex); text != want || ok != there {
				t.Fatalf("Unhex(%q): %q %v, want %q %v", hex, text, ok, want, there)
			}
		}
	}
}

func TestDecimal(t *testing.T) {
	for _, c := range []struct {
		n    int
		text string
	}{
		{0, "0"}, {1, "1"}, {9, "9"}, {10, "10"}, {100, "100"}, {-1, "-1"}, {-5, "-5"}, {-10, "-10"},
		{impl.MaxNumber, "1000000000"}, {-impl.MaxNumber, "-1000000000"},
		{math.MaxInt, "9223372036854775807"}, {math.MaxInt - 1, "9223372036854775806"},
		{math.MinInt, "-9223372036854775808"}, {math.MinInt + 1, "-9223372036854775807"},
	} {
		if text := impl.Decimal(c.n); text != c.text {
			t.Errorf("Decimal(%d): %q, want %q", c.n, text, c.text)
		}
	}
}

func TestReadDecimal(t *testing.T) {
	for _, c := range []struct {
		text string
		n    int
		ok   bool
	}{
		{"0", 0, true},
		{"7", 7, true},
		{"10", 10, true},
		{"1234567890", 0, false},
		{"123456789", 123456789, true},
		{"999999999", 999999999, true},
		{"1000000000", impl.MaxNumber, true},
		{"1000000001", 0, false},
		{"9999999999", 0, false},
		{"10000000000", 0, false},
		{"18446744073709551616", 0, false},
		{"18446744073709551617", 0, false},
		{"9223372036854775808", 0, false},
		{strings.Repeat("9", 5000), 0, false},
		{"", 0, false},
		{"00", 0, false},
		{"01", 0, false},
		{"007", 0, false},
		{"0000000001", 0, false},
		{strings.Repeat("0", 100), 0, false},
		{"-0", 0, false},
		{"-1", 0, false},
		{"+0", 0, false},
		{"+1", 0, false},
		{"-", 0, false},
		{"--1", 0, false},
		{" 1", 0, false},
		{"1 ", 0, false},
		{"1\n", 0, false},
		{"1a", 0, false},
		{"a", 0, false},
		{"0x1", 0, false},
		{"1_0", 0, false},
		{"1.0", 0, false},
		{"1e3", 0, false},
		{"1:", 0, false},
		{"1/", 0, false},
		{"\x001", 0, false},
		{"\xb1", 0, false},
		{"\u0661", 0, false},
	} {
		n, ok := impl.ReadDecimal(c.text)
		if n != c.n || ok != c.ok {
			t.Errorf("ReadDecimal(%.30q): %d %v, want %d %v", c.text, n, ok, c.n, c.ok)
		}
	}
}

// Of all texts of up to two bytes just those that Decimal writes are read.
func TestReadDecimalIsWhatDecimalWrites(t *testing.T) {
	written := map[string]int{}
	for n := range 100 {
		written[impl.Decimal(n)] = n
	}
	check := func(text string) {
		want, there := written[text]
		if n, ok := impl.ReadDecimal(text); n != want || ok != there {
			t.Errorf("ReadDecimal(%q): %d %v, want %d %v", text, n, ok, want, there)
		}
	}
	for a := range 256 {
		check(string([]byte{byte(a)}))
		for b := range 256 {
			check(string([]byte{byte(a), byte(b)}))
		}
	}
}

func TestPartsOf(t *testing.T) {
	ten := "a b c d e f g h i j"
	for _, c := range []struct {
		line  string
		parts []string
		ok    bool
	}{
		{"", nil, true},
		{" ", nil, true},
		{strings.Repeat(" ", impl.MaxWords), nil, true},
		{strings.Repeat(" ", impl.MaxWords+1), nil, false},
		{"say", []string{"say"}, true},
		{" say  0 x ", []string{"say", "0", "x"}, true},
		{"a a a", []string{"a", "a", "a"}, true},
		{"  # !~ ", []string{"#", "!~"}, true},
		{ten, strings.Fields(ten), true},
		{"  " + ten + "  ", strings.Fields(ten), true},
		{ten + " k", nil, false},
		{strings.Repeat("x", impl.MaxWords), []string{strings.Repeat("x", impl.MaxWords)}, true},
		{strings.Repeat("x", impl.MaxWords+1), nil, false},
		{strings.Repeat("x", impl.MaxWords) + " ", nil, false},
		{" " + strings.Repeat("x", impl.MaxWords-1), []string{strings.Repeat("x", impl.MaxWords-1)}, true},
		{"a\tb", nil, false},
		{"a\n", nil, false},
		{"a\r", nil, false},
		{"\x00", nil, false},
		{"a \x1f", nil, false},
		{"\x7f", nil, false},
		{"a\x80", nil, false},
		{"\xff", nil, false},
		{"\u00e9", nil, false},
		{"\u00a0", nil, false},
	} {
		parts, ok := impl.PartsOf(c.line)
		if !slices.Equal(parts, c.parts) || ok != c.ok {
			t.Errorf("PartsOf(%.30q of %d bytes): %q %v, want %q %v", c.line, len(c.line), parts, ok, c.parts, c.ok)
		}
		for _, part := range parts {
			if sharesBytes(part, c.line) {
				t.Errorf("PartsOf(%.30q) shares its argument's bytes", c.line)
			}
		}
	}
}

func TestPartsOfTakesJustTheBytesFrom32To126(t *testing.T) {
	for b := range 256 {
		for _, line := range []string{string([]byte{byte(b)}), "a" + string([]byte{byte(b)}) + "b"} {
			if _, ok := impl.PartsOf(line); ok != (b >= 32 && b <= 126) {
				t.Errorf("PartsOf(%q): %v", line, ok)
			}
		}
	}
}

func TestPartsComeBack(t *testing.T) {
	words := []string{"a", "bc", "!", "~~~", "0", "-1", "say", "x", "#", "end"}
	for count := range len(words) + 1 {
		for _, between := range []string{" ", "  ", "     "} {
			for _, around := range []string{"", " ", "   "} {
				line := around + strings.Join(words[:count], between) + around
				parts, ok := impl.PartsOf(line)
				if !slices.Equal(parts, words[:count]) || !ok {
					t.Errorf("PartsOf(%q): %q %v", line, parts, ok)
				}
			}
		}
	}
}
