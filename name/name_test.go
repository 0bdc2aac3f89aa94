package name

import (
	"math"
	"strconv"
	"strings"
	"testing"
)

// tagBytes and diskBytes are the bytes of names, written out.
const (
	firstTagBytes = "abcdefghijklmnopqrstuvwxyz0123456789"
	tagBytes      = firstTagBytes + "._-"
	diskBytes     = tagBytes + "ABCDEFGHIJKLMNOPQRSTUVWXYZ" + "!\"#$%&'()*+,:;<=>?@[\\]^`{|}~"
)

// noUTF8 are texts of bytes that are no UTF-8, or only a part of it.
var noUTF8 = []string{"\x80", "\xbf", "\xc0", "\xc3", "\xff", "\xc0\xaf", "\xc1\xa1", "\xe2\x82", "\xf0\x9f\x98", "\xed\xa0\x80", "\xf4\x90\x80\x80", "\xe1", "\xb0"}

// others are texts of characters of more than one byte: some look like letters or figures, some have such ones in their low bits.
var others = []string{"é", "ß", "ı", "ａ", "а", "α", "０", "٠", "०", "²", "①", "－", "．", "＿", "‐", "−", "\u0130", "\u0161", "\u0430", "\U00010061", "\U0001f600", "\u00a0", "\u200b", "\ufeff", "\ufffd"}

// files are names of files with their kinds and numbers, written out.
var files = []struct {
	kind, n int
	s       string
}{
	{1, 12, "seg-00000012"},
	{1, 1, "seg-00000001"},
	{1, 9, "seg-00000009"},
	{1, 10, "seg-00000010"},
	{1, 99, "seg-00000099"},
	{1, 100, "seg-00000100"},
	{1, 12345678, "seg-12345678"},
	{1, 9999999, "seg-09999999"},
	{1, 10000000, "seg-10000000"},
	{1, 99999998, "seg-99999998"},
	{1, 99999999, "seg-99999999"},
	{2, 1, "hint-00000001"},
	{2, 9, "hint-00000009"},
	{2, 10, "hint-00000010"},
	{2, 80706050, "hint-80706050"},
	{2, 99999999, "hint-99999999"},
	{3, 1, "point-00000001"},
	{3, 9, "point-00000009"},
	{3, 10, "point-00000010"},
	{3, 1020304, "point-01020304"},
	{3, 99999999, "point-99999999"},
}

var (
	wrongKinds   = []int{math.MinInt, math.MinInt32, -257, -3, -2, -1, 0, 4, 5, 6, 10, 255, 256, 257, 258, 259, 1<<32 + 1, math.MaxInt32, math.MaxInt}
	wrongNumbers = []int{math.MinInt, math.MinInt + 1, math.MinInt32, -100000000, -99999999, -12, -10, -9, -1, 0, 100000000, 100000001, 100000012, 999999999, 1<<32 + 1, math.MaxInt32, math.MaxInt - 1, math.MaxInt}
)

// P8.1: ordinary names of tags, and the edges of their size.
func TestTag(t *testing.T) {
	for _, s := range []string{"a", "0", "z", "9", "v1.0_x-y", "latest", "1.2.3", "0-", "a.", "a_", "a--", "a..b", "7__", "point.tmp", "seg-00000012", strings.Repeat("a", 31), strings.Repeat("a", 32), strings.Repeat("9", 32), "a" + strings.Repeat("-", 31)} {
		checkTag(t, s, true)
	}
	for _, s := range []string{"", ".", "_", "-", ".a", "_a", "-a", "..", "-0", "A", "Aa", "aA", "a b", " a", "a ", "a/b", "/a", "a/", "/", "a:b", "a+b", "a\n", "\x00", "a\x00", "é", "aé"} {
		checkTag(t, s, false)
	}
	for _, size := range []int{33, 34, 64, 255, 256, 257, 288, 512, 1 << 16} {
		checkTag(t, strings.Repeat("a", size), false)
	}
}

// P8.1: each byte as the name of a tag, as its first byte, within it and at its end.
func TestTagOfEachByte(t *testing.T) {
	for i := range 256 {
		s := string([]byte{byte(i)})
		first, within := strings.Contains(firstTagBytes, s), strings.Contains(tagBytes, s)
		checkTag(t, s, first)
		checkTag(t, s+"a", first)
		checkTag(t, s+strings.Repeat("0", 31), first)
		checkTag(t, "a"+s, within)
		checkTag(t, "a"+s+"0", within)
		for at := 1; at < 32; at++ {
			checkTag(t, strings.Repeat("b", at)+s+strings.Repeat("c", 31-at), within)
		}
		checkTag(t, s+s, first)
		checkTag(t, "0"+s+s+"z", within)
	}
}

// P8.1: ordinary names of files, and the edges of their size.
func TestDisk(t *testing.T) {
	for _, s := range []string{"A.B", "-", "a", "Z", "0", ".", "..", "_", "!", "~", "!~", "\\", "*?", "a:b", "point.tmp", "seg-00000012", "seg-1", "README", diskBytes[:32], diskBytes[len(diskBytes)-32:], strings.Repeat("~", 31), strings.Repeat("!", 32)} {
		checkDisk(t, s, true)
	}
	for _, s := range []string{"", " ", "a b", " a", "a ", "/", "a/b", "/a", "a/", "//", "\x00", "a\x00", "\x7f", "a\x7f", "a\n", "\ta", "\x80", "\xff", "é", "aé"} {
		checkDisk(t, s, false)
	}
	for _, size := range []int{33, 34, 64, 255, 256, 257, 288, 512, 1 << 16} {
		checkDisk(t, strings.Repeat("a", size), false)
		checkDisk(t, strings.Repeat("~", size), false)
	}
}

// P8.1: each byte as the name of a file, as its first byte, within it and at its end.
func TestDiskOfEachByte(t *testing.T) {
	for i := range 256 {
		s := string([]byte{byte(i)})
		want := strings.Contains(diskBytes, s)
		if byRule := i >= 33 && i <= 126 && i != 47; want != byRule {
			t.Fatalf("the test's own bytes: %d", i)
		}
		for _, text := range []string{s, s + "A", "A" + s, "A" + s + "-", s + s, "~" + s + s + "!"} {
			checkDisk(t, text, want)
		}
		for at := range 32 {
			checkDisk(t, strings.Repeat("!", at)+s+strings.Repeat("~", 31-at), want)
		}
	}
}

// P8.1: a name is bytes, so that characters of more than one byte, and bytes that are no characters, are in none; and such ones are counted one by one.
func TestOtherCharacters(t *testing.T) {
	for _, list := range [][]string{others, noUTF8} {
		for _, other := range list {
			for _, s := range []string{other, "a" + other, other + "a", "a" + other + "b", other + other, "0." + other, strings.Repeat("a", 31) + other, strings.Repeat(other, 32)} {
				checkTag(t, s, false)
				checkDisk(t, s, false)
			}
		}
	}
}

// P8.2: the kinds are the numbers that the chapter gives them, and the names are written as it says.
func TestFile(t *testing.T) {
	if Seg != 1 || Hint != 2 || Point != 3 || Temp != "point.tmp" {
		t.Errorf("the kinds are %d, %d, %d, and Temp is %q", Seg, Hint, Point, Temp)
	}
	for _, c := range files {
		if got := File(c.kind, c.n); got != c.s {
			t.Errorf("File(%d, %d) = %q, want %q", c.kind, c.n, got, c.s)
		}
	}
}

// P8.2: a kind or a number that there is not, alone and together, has no name.
func TestFileOfNone(t *testing.T) {
	rightNumbers := []int{1, 9, 10, 12, 99999999}
	for _, kind := range wrongKinds {
		for _, n := range rightNumbers {
			checkNoFile(t, kind, n)
		}
		for _, n := range wrongNumbers {
			checkNoFile(t, kind, n)
		}
	}
	for kind := 1; kind <= 3; kind++ {
		for _, n := range wrongNumbers {
			checkNoFile(t, kind, n)
		}
	}
}

// P8.2: the kind and the number of each name.
func TestNumber(t *testing.T) {
	for _, c := range files {
		checkNumber(t, c.s, c.kind, c.n)
	}
}

// P8.2: names that no file has, though they are like one's.
func TestNumberOfNone(t *testing.T) {
	for _, s := range []string{
		"", "-", "0", "1", "12", "00000012", "-00000012", "--00000012", Temp, "point", "point-", "point-tmp", "point-00000001.tmp", "point.00000001",
		"s", "seg", "seg00000012", "seg.00000012", "seg_00000012", "seg--00000012", "seg-seg-00000012", "segment-00000012", "SEG-00000012", "Seg-00000012", "seG-00000012", "eg-00000012", "xseg-00000012", "hin-00000012", "hints-00000012", "points-00000012", "hint-seg-00000012", "tag-00000012", "1-00000012",
		"seg-0x000012", "seg-0X000012", "seg-0b000011", "seg-0o000012", "seg-1e000001", "seg-0000001e", "seg-0000.012", "seg-00000.12", "seg-12.00000", "seg-1_000000", "seg-0_000012", "seg-0000_012", "seg-000,0012", "seg-0000001O", "seg-0000001l", "seg-0000000a", "seg-aaaaaaaa", "seg-ffffffff", "seg-NaN", "seg-00000NaN", "seg-00000Inf", "seg-0000Inf1",
		"seg-18446744073709551628", "seg-4294967308", "seg-9223372036854775807", "seg-9223372036854775808", "seg-" + strings.Repeat("9", 100), "seg-" + strings.Repeat("0", 1<<16) + "1",
	} {
		checkNumber(t, s, 0, 0)
	}
}

// P8.2: around each name: figures too many and too few, signs, blanks, other bytes, and all noughts.
func TestNumberAroundNames(t *testing.T) {
	for _, c := range files {
		start, number := c.s[:len(c.s)-8], c.s[len(c.s)-8:]
		for _, s := range []string{
			start + "0" + number, start + "1" + number, start + "00" + number, start + number + "0", start + number + "1", c.s + c.s,
			start, start + number[1:], start + number[:7], start + number[4:], start + number[7:], start + strconv.Itoa(c.n) + ".", start + strings.TrimLeft(number, "0") + "x",
			start + "+" + number, start + "-" + number, start + "+" + number[1:], start + "-" + number[1:], start + number[1:] + "+", start + number[1:] + "-", start + "+-" + number[2:],
			start + "−" + number, "+" + c.s, "-" + c.s, number, number + start, start + start + number,
			start + " " + number, start + " " + number[1:], start + number + " ", start + number[:7] + " ", " " + c.s, "\t" + c.s, c.s + "\n", start + number[1:] + "\n", c.s + "\x00", c.s + "\r\n", start + number[:4] + " " + number[4:], start + number[:4] + " " + number[5:],
			start + "00000000", start + "0", start + "0000000", start + "000000000", start + "-0000000", start + "+0000000",
			strings.ToUpper(c.s), "/" + c.s, "./" + c.s, "disk/" + c.s, c.s + "/", c.s + ".tmp", c.s + "x", "x" + c.s,
		} {
			checkNumber(t, s, 0, 0)
		}
		if c.n < 10000000 {
			checkNumber(t, start+strconv.Itoa(c.n), 0, 0)
		}
	}
}

// P8.2: figures of other scripts, and other characters and bytes, are in no name, in whichever place they stand.
func TestNumberOfOtherCharacters(t *testing.T) {
	for _, other := range []string{"٠٠٠٠٠٠١٢", "००००००१२", "００００００１２", "໐໐໐໐໐໐໑໒", "٠٠٠١", "０００００００１"} {
		for _, start := range []string{"seg-", "hint-", "point-"} {
			checkNumber(t, start+other, 0, 0)
		}
	}
	for _, list := range [][]string{others, noUTF8} {
		for _, other := range list {
			for at := range len("seg-00000012") + 1 {
				checkNumber(t, "seg-00000012"[:at]+other+"seg-00000012"[at:], 0, 0)
			}
			for at := range len("seg-00000012") {
				checkNumber(t, "seg-00000012"[:at]+other+"seg-00000012"[at+1:], 0, 0)
			}
		}
	}
}

// P8.2: each byte in each place of a name: only figures make another name, and they make that of their number.
func TestNumberOfEachByte(t *testing.T) {
	for _, name := range []string{"seg-00000012", "hint-90817263", "point-99999999"} {
		kind := strings.Index("shp", name[:1]) + 1
		start := len(name) - 8
		for at := range len(name) {
			for i := range 256 {
				b := []byte(name)
				b[at] = byte(i)
				wantKind, wantNumber := 0, 0
				if at < start && byte(i) == name[at] || at >= start && i >= '0' && i <= '9' {
					wantKind, wantNumber = kind, value(b[start:])
				}
				checkNumber(t, string(b), wantKind, wantNumber)
			}
		}
	}
}

// P8.2: of all texts of two bytes behind what names begin with, none is a name; behind six figures, those of two figures are, but for all noughts.
func TestNumberOfEachEnd(t *testing.T) {
	for i := range 256 * 256 {
		b := []byte{byte(i / 256), byte(i % 256)}
		for _, start := range []string{"", "seg-", "hint-", "point-"} {
			checkNumber(t, start+string(b), 0, 0)
		}
		wantKind, wantNumber := 0, 0
		if isFigure(b[0]) && isFigure(b[1]) && value(b) > 0 {
			wantKind, wantNumber = 2, value(b)
		}
		checkNumber(t, "hint-000000"+string(b), wantKind, wantNumber)
	}
}

// P8.3: Number inverts File, each name is a valid one, no two are the same, and none is Temp.
func TestNamesComeBack(t *testing.T) {
	type file struct{ kind, n int }
	owners := make(map[string]file)
	for kind := 1; kind <= 3; kind++ {
		for _, n := range numbers() {
			s := File(kind, n)
			checkNumber(t, s, kind, n)
			checkDisk(t, s, true)
			checkTag(t, s, true)
			if s == Temp {
				t.Errorf("File(%d, %d) = %q", kind, n, s)
			}
			if owner, there := owners[s]; there && owner != (file{kind, n}) {
				t.Errorf("%q is the name of %v and of %d, %d", s, owner, kind, n)
			}
			owners[s] = file{kind, n}
		}
	}
	checkDisk(t, Temp, true)
	checkNumber(t, Temp, 0, 0)
}

// P8.3: a file with a greater number has a greater name, so that no two of a kind have the same one.
func TestNamesAscend(t *testing.T) {
	for kind := 1; kind <= 3; kind++ {
		for _, n := range numbers() {
			if n < 99999999 && File(kind, n) >= File(kind, n+1) {
				t.Errorf("%q, but then %q", File(kind, n), File(kind, n+1))
			}
		}
	}
}

// P8.3: File inverts Number: whatever has a kind and a number is the name that File makes of them.
func TestNumbersComeBack(t *testing.T) {
	found := 0
	for _, start := range []string{"seg-", "hint-", "point-", "seg", "-", "point.", ""} {
		for _, middle := range []string{"", "0", "000000", "0000000", "00000000", "+000000", "999999", "9999999"} {
			for n := range 200 {
				s := start + middle + strconv.Itoa(n)
				kind, number := Number(s)
				if kind == 0 {
					checkNumber(t, s, 0, 0)
					continue
				}
				found++
				if File(kind, number) != s {
					t.Errorf("Number(%q) = %d, %d, but File of these is %q", s, kind, number, File(kind, number))
				}
			}
		}
	}
	// Three kinds, each with the two-digit numbers behind six figures, and the one-digit ones behind seven, without 0.
	if want := 3 * (90 + 90 + 9 + 10); found != want {
		t.Errorf("%d names of files, want %d", found, want)
	}
}

// numbers answers numbers of files: small ones, those around powers of 10 and 2, the greatest ones, and some in between.
func numbers() []int {
	var out []int
	for n := 1; n <= 2000; n++ {
		out = append(out, n, 100000000-n)
	}
	for _, base := range []int{2, 10} {
		for power := base; power < 100000000-10; power *= base {
			for n := max(power-10, 1); n <= power+10; n++ {
				out = append(out, n)
			}
		}
	}
	for n := 9973; n < 100000000; n += 9973 {
		out = append(out, n)
	}
	return out
}

// value answers the number that figures stand for.
func value(b []byte) int {
	n := 0
	for _, c := range b {
		n = n*10 + int(c-'0')
	}
	return n
}

func isFigure(c byte) bool { return c >= '0' && c <= '9' }

func checkTag(t *testing.T, s string, want bool) {
	t.Helper()
	if got := Tag(s); got != want {
		t.Errorf("Tag(%q) = %v", s, got)
	}
}

func checkDisk(t *testing.T, s string, want bool) {
	t.Helper()
	if got := Disk(s); got != want {
		t.Errorf("Disk(%q) = %v", s, got)
	}
}

func checkNoFile(t *testing.T, kind, n int) {
	t.Helper()
	if got := File(kind, n); got != "" {
		t.Errorf("File(%d, %d) = %q, want no name", kind, n, got)
	}
}

func checkNumber(t *testing.T, s string, wantKind, wantNumber int) {
	t.Helper()
	if kind, n := Number(s); kind != wantKind || n != wantNumber {
		t.Errorf("Number(%q) = %d, %d, want %d, %d", s, kind, n, wantKind, wantNumber)
	}
}
