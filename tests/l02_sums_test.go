package tests

import (
	"strings"
	"testing"

	"loop.example/g00124/impl"
)

const allOnes = 4294967295

// plainSum goes bit by bit, as the document tells it.
func plainSum(sum uint32, text string) uint32 {
	for _, b := range []byte(text) {
		sum ^= uint32(b)
		for range 8 {
			odd := sum%2 == 1
			sum /= 2
			if odd {
				sum ^= 3558460437
			}
		}
	}
	return sum
}

func TestSumMore(t *testing.T) {
	for _, c := range []struct {
		sum  uint32
		text string
		want uint32
	}{
		{0, "", 0},
		{1, "", 1},
		{allOnes, "", allOnes},
		{0x80000000, "", 0x80000000},
		{0, "\x00", 0},
		{0, "\x01", 735957071},
		{0, "\x7f", 1430516790},
		{0, "\x80", 3558460437},
		{0, "\xff", 2170173475},
		{1, "\x00", 735957071},
		{1, "\x01", 0},
		{1, "\x7f", 2124293241},
		{1, "\x80", 4291042394},
		{1, "\xff", 2861033580},
		{allOnes, "\x00", 2175125468},
		{allOnes, "\x7f", 3571856362},
		{allOnes, "\x80", 1438387145},
		{allOnes, "\xff", 16777215},
		{0x80000000, "\x00", 8388608},
		{0, "\x00\x00\x00", 0},
		{0, "123456789", 2518010058},
		{1, "123456789", 4272499752},
		{allOnes, "123456789", 2026809993},
		{0xdeadbeef, "Bulkhouse", 3398769659},
	} {
		if got := impl.SumMore(c.sum, c.text); got != c.want {
			t.Errorf("SumMore(%d, %q): %d, want %d", c.sum, c.text, got, c.want)
		}
	}
}

func TestSumOf(t *testing.T) {
	for _, c := range []struct {
		text string
		want uint32
	}{
		{"", allOnes},
		{"\x00", 2175125468},
		{"\x7f", 3571856362},
		{"\x80", 1438387145},
		{"\xff", 16777215},
		{"\xff\xff\xff\xff", 0},
		{"\xff\xff\xff\xff\x00", 0},
		{"a", 2675860630},
		{"abc", 2815232641},
		{"123456789", 2026809993},
	} {
		if got := impl.SumOf(c.text); got != c.want {
			t.Errorf("SumOf(%q): %d, want %d", c.text, got, c.want)
		}
	}
}

func TestSumsAreSummedBitByBit(t *testing.T) {
	sums := []uint32{0, 1, 127, 128, 255, 256, 3558460437, 0x80000000, allOnes - 1, allOnes}
	for _, sum := range sums {
		for b := range 256 {
			text := string([]byte{byte(b)})
			if got, want := impl.SumMore(sum, text), plainSum(sum, text); got != want {
				t.Errorf("SumMore(%d, %q): %d, want %d", sum, text, got, want)
			}
		}
		for _, length := range []int{0, 2, 3, 4, 5, 100, impl.MaxText, impl.MaxText + 1, 3 * impl.MaxText} {
			text := someText(length)
			if got, want := impl.SumMore(sum, text), plainSum(sum, text); got != want {
				t.Errorf("SumMore(%d, %d bytes): %d, want %d", sum, length, got, want)
			}
		}
	}
	for _, text := range []string{"\u00e9", "\u20ac\u00df", "\xc3", "\xff\xfe\x00"} {
		if got, want := impl.SumOf(text), plainSum(allOnes, text); got != want {
			t.Errorf("SumOf(%q): %d, want %d", text, got, want)
		}
	}
}

func TestSumMoreGoesOnWhereSumOfStopped(t *testing.T) {
	for _, text := range []string{"", "\x00", "\x80", "abc", "\xff\xff\xff\xff\x00\x00", someText(300)} {
		whole := impl.SumOf(text)
		for cut := range len(text) + 1 {
			if got := impl.SumMore(impl.SumOf(text[:cut]), text[cut:]); got != whole {
				t.Errorf("%.20q cut at %d: %d, want %d", text, cut, got, whole)
			}
		}
		bytewise := impl.SumOf("")
		for at := range len(text) {
			bytewise = impl.SumMore(bytewise, text[at:at+1])
		}
		if bytewise != whole {
			t.Errorf("%.20q byte by byte: %d, want %d", text, bytewise, whole)
		}
	}
}

func TestSealed(t *testing.T) {
	for _, c := range []struct {
		text, seal string
	}{
		{"", "\xff\xff\xff\xff"},
		{"\x00", "\x81\xa5\xc7\xdc"},
		{"\x7f", "\xd4\xe6\x33\xea"},
		{"\x80", "\x55\xbc\x0b\xc9"},
		{"\xff", "\x00\xff\xff\xff"},
		{"\xff\xff\xff\xff", "\x00\x00\x00\x00"},
		{"abc", "\xa7\xcd\x0a\x81"},
	} {
		sealed, ok := impl.Sealed(c.text)
		if sealed != c.text+c.seal || !ok {
			t.Errorf("Sealed(%q): %q %v, want %q", c.text, sealed, ok, c.text+c.seal)
		}
		if sharesBytes(sealed, c.text) {
			t.Errorf("Sealed(%q) shares its argument's bytes", c.text)
		}
	}
	for _, length := range []int{impl.MaxText + 1, impl.MaxText + 5, 2 * impl.MaxText} {
		if sealed, ok := impl.Sealed(someText(length)); sealed != "" || ok {
			t.Errorf("Sealed of %d bytes: %d bytes, %v", length, len(sealed), ok)
		}
	}
}

// sealedByHand is there for texts that Sealed refuses, too.
func sealedByHand(text string) string {
	sum := plainSum(allOnes, text)
	return text + string([]byte{byte(sum >> 24), byte(sum >> 16), byte(sum >> 8), byte(sum)})
}

func TestSealedTextsComeBack(t *testing.T) {
	for _, length := range []int{0, 1, 2, 3, 4, 5, 127, 128, 255, 256, 1000, impl.MaxText - 1, impl.MaxText} {
		text := someText(length)
		sealed, ok := impl.Sealed(text)
		if sealed != sealedByHand(text) || !ok {
			t.Fatalf("Sealed of %d bytes: %d bytes, %v", length, len(sealed), ok)
		}
		back, ok := impl.Unsealed(sealed)
		if back != text || !ok {
			t.Errorf("Unsealed of a text of %d bytes: %d bytes, %v", length, len(back), ok)
		}
		if sharesBytes(back, sealed) {
			t.Errorf("Unsealed of a text of %d bytes shares its argument's bytes", length)
		}
	}
}

func mustNotUnseal(t *testing.T, why, text string) {
	t.Helper()
	if inner, ok := impl.Unsealed(text); inner != "" || ok {
		t.Errorf("%s: Unsealed(%.20q of %d bytes): %d bytes, %v", why, text, len(text), len(inner), ok)
	}
}

func TestUnsealed(t *testing.T) {
	for _, c := range []struct {
		sealed, text string
	}{
		{"\xff\xff\xff\xff", ""},
		{"\x00\x81\xa5\xc7\xdc", "\x00"},
		{"\xff\x00\xff\xff\xff", "\xff"},
		{"\xff\xff\xff\xff\x00\x00\x00\x00", "\xff\xff\xff\xff"},
		{"abc\xa7\xcd\x0a\x81", "abc"},
	} {
		if text, ok := impl.Unsealed(c.sealed); text != c.text || !ok {
			t.Errorf("Unsealed(%q): %q %v, want %q", c.sealed, text, ok, c.text)
		}
	}
	for _, text := range []string{
		"", "\xff", "\xff\xff", "\xff\xff\xff", "\x00", "\x00\x00\x00",
		"\x00\x00\x00\x00", "\xff\xff\xff\xfe", "\x7f\xff\xff\xff", "abcd",
		"\xff\xff\xff\xff\xff", "\x00\x00\x00\x00\x00", "\x00\xff\xff\xff\xff",
	} {
		mustNotUnseal(t, "no sealed text", text)
	}
	for _, length := range []int{impl.MaxText + 1, impl.MaxText + 5, 2 * impl.MaxText} {
		mustNotUnseal(t, "longer than MaxText", sealedByHand(someText(length)))
	}
	mustNotUnseal(t, "just MaxText bytes, without a sum", someText(impl.MaxText))
}

// turnByte gives text with the bits of turn, at one place, the other way round.
func turnByte(text string, at int, turn byte) string {
	out := []byte(text)
	out[at] ^= turn
	return string(out)
}

func TestOneTurnedByteIsTold(t *testing.T) {
	for _, text := range []string{"", "\x00", "\x7f", "\x80", "\xff", "abc", strings.Repeat("\x00", 40), strings.Repeat("\xff", 40), someText(200)} {
		sealed, _ := impl.Sealed(text)
		for at := range len(sealed) {
			for turn := 1; turn < 256; turn++ {
				mustNotUnseal(t, "one byte turned", turnByte(sealed, at, byte(turn)))
			}
		}
	}
	sealed, _ := impl.Sealed(someText(impl.MaxText))
	for _, at := range []int{0, 1, impl.MaxText / 2, impl.MaxText - 1, impl.MaxText, impl.MaxText + 1, impl.MaxText + 2, impl.MaxText + 3} {
		for turn := 1; turn < 256; turn *= 2 {
			mustNotUnseal(t, "one byte turned", turnByte(sealed, at, byte(turn)))
		}
		mustNotUnseal(t, "one byte turned", turnByte(sealed, at, 255))
	}
}

func TestTextsThatAreNotSealedAreTold(t *testing.T) {
	for _, text := range []string{"", "\x00", "a", "abc", "\xff\xff\xff", someText(200), someText(impl.MaxText - 1), someText(impl.MaxText)} {
		sealed, _ := impl.Sealed(text)
		mustNotUnseal(t, "cut by its last byte", sealed[:len(sealed)-1])
		mustNotUnseal(t, "cut by its first byte", sealed[1:])
		for b := range 256 {
			more := string([]byte{byte(b)})
			mustNotUnseal(t, "one byte more behind", sealed+more)
			mustNotUnseal(t, "one byte more ahead", more+sealed)
		}
		seal := sealed[len(text):]
		otherWay := string([]byte{seal[3], seal[2], seal[1], seal[0]})
		if otherWay != seal {
			mustNotUnseal(t, "its sum in the other order", text+otherWay)
		}
	}
}
