package hex

import (
	"bytes"
	"strings"
	"testing"

	"stillage/api"
)

// texts are bytes and their digits, written out: ordinary ones, and the edges of a nibble in both of its places.
var texts = []struct {
	b []byte
	s string
}{
	{nil, ""},
	{[]byte{}, ""},
	{[]byte{0}, "00"},
	{[]byte{1}, "01"},
	{[]byte{9}, "09"},
	{[]byte{10}, "0a"},
	{[]byte{15}, "0f"},
	{[]byte{16}, "10"},
	{[]byte{144}, "90"},
	{[]byte{159}, "9f"},
	{[]byte{160}, "a0"},
	{[]byte{171}, "ab"},
	{[]byte{240}, "f0"},
	{[]byte{255}, "ff"},
	{[]byte{0, 0}, "0000"},
	{[]byte{0, 171}, "00ab"},
	{[]byte{171, 0}, "ab00"},
	{[]byte{0, 1, 9, 10, 15, 16, 171, 255}, "0001090a0f10abff"},
	{[]byte{0x12, 0x34, 0x56, 0x78, 0x9a, 0xbc, 0xde, 0xf0}, "123456789abcdef0"},
	{[]byte{165, 90}, "a55a"},
	{[]byte("Hello, world"), "48656c6c6f2c20776f726c64"},
	{bytes.Repeat([]byte{254, 1}, 1000), strings.Repeat("fe01", 1000)},
}

// P3.1: two digits for each byte, the high nibble first.
func TestText(t *testing.T) {
	for _, c := range texts {
		if got := Text(c.b); got != c.s {
			t.Errorf("Text(%v) = %q, want %q", c.b, got, c.s)
		}
	}
}

// P3.1: every byte, alone and behind another one, by a rule that needs no table.
func TestTextOfEachByte(t *testing.T) {
	for i := range 256 {
		want := string([]byte{figure(i / 16), figure(i % 16)})
		if got := Text([]byte{byte(i)}); got != want {
			t.Errorf("Text of %d = %q, want %q", i, got, want)
		}
		if got := Text([]byte{7, byte(i), 200}); got != "07"+want+"c8" {
			t.Errorf("Text of 7, %d, 200 = %q", i, got)
		}
	}
}

// P3.1: the bytes whose Text is the string.
func TestRead(t *testing.T) {
	for _, c := range texts {
		checkBytes(t, c.s, c.b)
	}
}

// P3.1: an odd number of digits has no bytes.
func TestReadOdd(t *testing.T) {
	for _, s := range []string{"0", "9", "a", "f", "000", "00a", "abc", "12345", "ffffffffff0"} {
		checkForm(t, s)
	}
	for _, c := range texts {
		for size := 1; size < len(c.s); size += 2 {
			checkForm(t, c.s[:size])
		}
		checkForm(t, c.s+"0")
	}
}

// P3.1: an uppercase letter is no digit, in whichever place it stands.
func TestReadUppercase(t *testing.T) {
	for _, s := range []string{"AB", "0A", "A0", "F0", "0F", "aB", "Ab", "FF", "abcdeF", "0001090a0f10aBff"} {
		checkForm(t, s)
	}
	for _, c := range texts {
		if upper := strings.ToUpper(c.s); upper != c.s {
			checkForm(t, upper)
		}
	}
}

// P3.1: every byte that is not one of the sixteen digits, in each place of a string; those from 128 on are no valid UTF-8 there.
func TestReadOtherBytes(t *testing.T) {
	for i := range 256 {
		c := byte(i)
		if strings.IndexByte("0123456789abcdef", c) >= 0 {
			continue
		}
		for at := range 6 {
			b := []byte("07a9f1")
			b[at] = c
			checkForm(t, string(b))
		}
		checkForm(t, string([]byte{c}))
		checkForm(t, string([]byte{c, c}))
		checkForm(t, string([]byte{c, '0', '0'}))
	}
}

// P3.1: characters of more than one byte, also those that look like digits, whose last byte or whose low bits are a digit, and those whose bytes or characters are even or odd in number; and bytes that are no valid UTF-8.
func TestReadOtherCharacters(t *testing.T) {
	others := []string{
		"é", "ß", "²", "٠", "०", "０", "９", "ａ", "ｆ", "а", "€", "\u0130", "\u0161", "\u0330", "\u0430", "\U00010030", "\U0001f600", "\U0010ffff", "\u200b", "\ufeff", "\ufffd", "\u0000",
		"\x80", "\xbf", "\xc0", "\xc3", "\xff", "\xc0\xb0", "\xe2\x82", "\xf0\x9f\x98", "\xed\xa0\x80", "\xf4\x90\x80\x80", "\xc3\xc3",
	}
	for _, other := range others {
		for _, s := range []string{other, other + other, other + "0", other + "00", "0" + other, "00" + other, "000" + other, "ab" + other + "cd", "a" + other + "b", "a" + other + "bc"} {
			checkForm(t, s)
		}
	}
}

// P3.1: what else a number may be written with.
func TestReadOtherForms(t *testing.T) {
	for _, s := range []string{" ", "  ", " 0", "0 ", " 00", "00 ", " 00 ", "0x", "0x00", "0X00", "x0", "00h0", "+0", "-1", "0.", "00,00", "00 00", "0_0_", "00\n", "00\r\n", "\t0", "00\x00\x00", "0g", "g0", "ag", "/0", "0:", "`0", "0@"} {
		checkForm(t, s)
	}
}

// P3.2: Read answers the bytes of which Text made a string: all of up to two bytes, and longer ones.
func TestBytesComeBack(t *testing.T) {
	for i := range 256 {
		checkBytes(t, Text([]byte{byte(i)}), []byte{byte(i)})
		for j := range 256 {
			b := []byte{byte(i), byte(j)}
			checkBytes(t, Text(b), b)
		}
	}
	for size := range 300 {
		b := make([]byte, size)
		for i := range b {
			b[i] = byte(i*i*7 + size*13 + i)
		}
		checkBytes(t, Text(b), b)
	}
}

// P3.2: Text answers the string that Read accepted, so no bytes have two strings; and of all strings of two bytes, Read accepts one a byte.
func TestOneText(t *testing.T) {
	accepted := 0
	for i := range 256 {
		for j := range 256 {
			s := string([]byte{byte(i), byte(j)})
			b, err := Read(s)
			if err != api.OK {
				checkForm(t, s)
				continue
			}
			accepted++
			if got := Text(b); got != s {
				t.Errorf("Text of Read(%q) = %q", s, got)
			}
		}
	}
	if accepted != 256 {
		t.Errorf("Read accepts %d strings of two bytes", accepted)
	}
}

// R3: neither an argument, nor the room behind it, nor what an earlier call answered is changed.
func TestArgumentsStay(t *testing.T) {
	room := []byte{1, 171, 3, 4, 5, 6}
	was := bytes.Clone(room)
	short, long := Text(room[:2]), Text(room)
	if !bytes.Equal(room, was) {
		t.Errorf("the argument became %v", room)
	}
	room[0] = 9
	if short != "01ab" || long != "01ab03040506" {
		t.Errorf("answers became %q, %q", short, long)
	}
	first, _ := Read(long)
	second, _ := Read(long)
	first[1] = 99
	if !bytes.Equal(second, was) {
		t.Errorf("an answer became %v", second)
	}
	checkBytes(t, long, was)
}

// figure answers the digit of a nibble.
func figure(n int) byte {
	if n < 10 {
		return byte('0' + n)
	}
	return byte('a' + n - 10)
}

func checkBytes(t *testing.T, s string, want []byte) {
	t.Helper()
	if b, err := Read(s); err != api.OK || !bytes.Equal(b, want) {
		t.Errorf("Read(%q) = %v, %v, want %v", s, b, err, want)
	}
}

func checkForm(t *testing.T, s string) {
	t.Helper()
	if b, err := Read(s); err != api.ErrForm || len(b) != 0 {
		t.Errorf("Read(%q) = %v, %v, want no bytes and ErrForm", s, b, err)
	}
}
