package manifest

import (
	"bytes"
	"fmt"
	"math"
	"math/rand/v2"
	"slices"
	"strconv"
	"strings"
	"testing"

	"stillage/api"
)

const (
	alphaText = "sha256:" + alphaDigits
	betaText  = "sha256:" + betaDigits
)

// P17.1, P17.2: what the chapter's examples say.
func TestExamples(t *testing.T) {
	checkText(t, []api.Ref{blobOf(alpha, 1), manifestOf(beta, 0)}, "stillage 1\nblob "+alphaText+" 1\nmanifest "+betaText+"\n")
	checkNoText(t, api.ErrMany, rows(65)...)
	checkRead(t, "stillage 1\n")
	for _, s := range []string{"", "stillage 1", "stillage 1\n\n", "stillage 1\nblob " + alphaText + " 01\n", "stillage 1\nblob " + alphaText + " -1\n", "stillage 1\nblob " + alphaText + " 1000000000\n", "stillage 1\nblob " + alphaText + "\n"} {
		checkRefused(t, api.ErrForm, s)
	}
	checkRefused(t, api.ErrTwice, "stillage 1\nblob "+alphaText+" 1\nblob "+alphaText+" 2\n")
	many := head
	for _, r := range rows(65) {
		many += lineOf(r)
	}
	checkRefused(t, api.ErrMany, many)
}

// P17.1, P17.2: texts that are written out here, letter by letter.
func TestWritten(t *testing.T) {
	noughts := "sha256:" + strings.Repeat("0", 64)
	for _, c := range []struct {
		s string
		l []api.Ref
	}{
		{"stillage 1\n", nil},
		{"stillage 1\nblob " + noughts + " 0\n", []api.Ref{{}}},
		{"stillage 1\nmanifest " + noughts + "\n", []api.Ref{{Manifest: true}}},
		{"stillage 1\nblob " + alphaText + " 999999999\n", []api.Ref{blobOf(alpha, 999999999)}},
		{"stillage 1\nmanifest " + betaText + "\nmanifest " + noughts + "\nmanifest " + alphaText + "\n", []api.Ref{manifestOf(beta, 0), manifestOf(api.Digest{}, 0), manifestOf(alpha, 0)}},
		{"stillage 1\nblob " + betaText + " 10\nmanifest " + alphaText + "\nblob " + noughts + " 409\n", []api.Ref{blobOf(beta, 10), manifestOf(alpha, 0), blobOf(api.Digest{}, 409)}},
	} {
		checkText(t, c.l, c.s)
	}
}

// P17.1, P17.3: lists of all sorts; those that are nil and empty have the same text.
func TestLists(t *testing.T) {
	for _, l := range lists() {
		want := head
		for _, r := range l {
			want += lineOf(r)
		}
		checkText(t, l, want)
	}
	checkText(t, nil, head)
	checkText(t, []api.Ref{}, head)
}

// P17.1: up to MaxRefs references of each sort are listed, more of them are ErrMany.
func TestCounts(t *testing.T) {
	if api.MaxRefs != most {
		t.Fatalf("MaxRefs is %d", api.MaxRefs)
	}
	sorts := []func(i int) api.Ref{
		func(i int) api.Ref { return blobOf(digestAt(i), i) },
		func(i int) api.Ref { return manifestOf(digestAt(i), 0) },
		func(i int) api.Ref { return rows(i + 1)[i] },
	}
	for _, sort := range sorts {
		var l []api.Ref
		want := head
		for i := range 200 {
			if i <= most {
				checkText(t, l, want)
			} else {
				checkNoText(t, api.ErrMany, l...)
				checkRefused(t, api.ErrMany, want)
			}
			l = append(l, sort(i))
			want += lineOf(sort(i))
		}
	}
	for _, size := range []int{1 << 10, 1<<16 - 1, 1 << 16, 1<<16 + 64} {
		checkNoText(t, api.ErrMany, slices.Repeat(rows(size/64), 64)...)
	}
}

// P17.1: the sizes that blobs may have, in a first reference, a middle one and the last; the others are ErrRange.
func TestSizes(t *testing.T) {
	for _, count := range []int{1, 2, 3, 5, 64} {
		for _, at := range []int{0, count / 2, count - 1} {
			l := rows(count)
			for _, size := range blobSizes {
				l[at] = blobOf(alpha, size)
				want := head
				for i, r := range l {
					if i == at {
						want += "blob " + alphaText + " " + strconv.Itoa(size) + "\n"
					} else {
						want += lineOf(r)
					}
				}
				checkText(t, l, want)
			}
			for _, size := range noSizes {
				checkNoText(t, api.ErrRange, put(l, at, blobOf(alpha, size))...)
				checkNoText(t, api.ErrRange, put(l, at, blobOf(api.Digest{}, size))...)
			}
		}
	}
}

// P17.1: the Size of a reference to a manifest changes neither the text nor the error.
func TestSizesOfManifests(t *testing.T) {
	for _, size := range slices.Concat(noSizes, blobSizes) {
		checkText(t, []api.Ref{manifestOf(alpha, size)}, head+"manifest "+alphaText+"\n")
		for _, l := range lists() {
			other := slices.Clone(l)
			for i := range other {
				if other[i].Manifest {
					other[i].Size = size
				}
			}
			want, _ := textOf(l)
			checkText(t, other, want)
			if len(l) == most {
				checkNoText(t, api.ErrMany, append(slices.Clone(other), manifestOf(beta, size))...)
				continue
			}
			checkText(t, append(slices.Clone(other), manifestOf(digestAt(999), size)), want+lineOf(manifestOf(digestAt(999), 0)))
			for _, r := range l {
				checkNoText(t, api.ErrTwice, append(slices.Clone(other), manifestOf(r.Digest, size))...)
			}
			if len(l)+2 <= most {
				checkNoText(t, api.ErrRange, append(slices.Clone(other), manifestOf(digestAt(999), size), blobOf(digestAt(999), -1))...)
			}
		}
	}
}

// pairs are two references to the same digest d, each in the ways that it can be referred to.
func pairs(d api.Digest) [][2]api.Ref {
	return [][2]api.Ref{
		{blobOf(d, 5), blobOf(d, 5)}, {blobOf(d, 0), blobOf(d, 0)}, {blobOf(d, 5), blobOf(d, 6)}, {blobOf(d, 0), blobOf(d, greatest)},
		{manifestOf(d, 0), manifestOf(d, 0)},
		{blobOf(d, 5), manifestOf(d, 0)}, {blobOf(d, 0), manifestOf(d, 0)},
		{manifestOf(d, 0), blobOf(d, 5)}, {manifestOf(d, 0), blobOf(d, 0)},
	}
}

// P17.1, P17.2: the same digest twice, at any two places.
func TestTwice(t *testing.T) {
	for _, count := range []int{2, 3, 4, 7, 64} {
		for first := range count - 1 {
			for second := first + 1; second < count; second++ {
				if count == 64 && (first%9 != 0 || second%3 != 0) {
					continue
				}
				for _, d := range []api.Digest{alpha, {}} {
					for _, pair := range pairs(d) {
						l := put(put(rows(count), first, pair[0]), second, pair[1])
						checkNoText(t, api.ErrTwice, l...)
						s := head
						for _, r := range l {
							s += lineOf(r)
						}
						checkRefused(t, api.ErrTwice, s)
					}
				}
			}
		}
	}
}

// P17.1, P17.2: digests that differ in one bit, or in the order of their bytes, are not the same.
func TestNearlyTwice(t *testing.T) {
	for at := range alpha {
		for bit := range 8 {
			other := alpha
			other[at] ^= 1 << bit
			for _, pair := range pairs(other) {
				for _, r := range []api.Ref{blobOf(alpha, 5), manifestOf(alpha, 0)} {
					checkText(t, []api.Ref{pair[0], r}, head+lineOf(pair[0])+lineOf(r))
					checkText(t, []api.Ref{r, pair[1]}, head+lineOf(r)+lineOf(pair[1]))
				}
			}
		}
	}
	turned := alpha
	slices.Reverse(turned[:])
	checkText(t, []api.Ref{blobOf(alpha, 1), blobOf(turned, 1)}, head+lineOf(blobOf(alpha, 1))+lineOf(blobOf(turned, 1)))
}

// P17.1: of two errors that of the first reference counts, and a size ahead of a digest; whatever is wrong, too many references count ahead of it.
func TestFirstErrorOfText(t *testing.T) {
	for _, size := range noSizes {
		low := blobOf(digestAt(900), size)
		for _, pair := range pairs(alpha) {
			checkNoText(t, api.ErrRange, low, pair[0], pair[1])
			checkNoText(t, api.ErrRange, pair[0], low, pair[1])
			checkNoText(t, api.ErrTwice, pair[0], pair[1], low)
			checkNoText(t, api.ErrTwice, manifestOf(beta, 0), pair[0], blobOf(digestAt(1), 3), pair[1], low)
			checkNoText(t, api.ErrRange, manifestOf(beta, 0), pair[0], blobOf(digestAt(1), 3), low, pair[1])
			// Both in one reference.
			checkNoText(t, api.ErrRange, pair[0], blobOf(alpha, size))
			checkNoText(t, api.ErrRange, pair[0], blobOf(beta, 1), blobOf(alpha, size), blobOf(beta, 1))
			checkNoText(t, api.ErrRange, blobOf(alpha, size), pair[1])
			checkNoText(t, api.ErrTwice, pair[0], pair[1], blobOf(alpha, size))
			// A manifest has no size that could be wrong.
			checkNoText(t, api.ErrTwice, pair[0], manifestOf(alpha, size))
			checkNoText(t, api.ErrTwice, pair[0], manifestOf(alpha, size), low)
			for _, count := range []int{65, 66, 100} {
				for _, at := range []int{0, 31, 62, count - 2} {
					l := rows(count)
					checkNoText(t, api.ErrMany, put(l, at, low)...)
					checkNoText(t, api.ErrMany, put(l, count-1, low)...)
					checkNoText(t, api.ErrMany, put(put(l, at, pair[0]), at+1, pair[1])...)
					checkNoText(t, api.ErrMany, put(put(l, at, pair[0]), count-1, pair[1])...)
					checkNoText(t, api.ErrMany, put(put(l, at, pair[0]), at+1, blobOf(alpha, size))...)
				}
			}
		}
	}
	checkNoText(t, api.ErrMany, make([]api.Ref, 65)...)
	checkNoText(t, api.ErrMany, slices.Repeat([]api.Ref{blobOf(alpha, -1)}, 65)...)
	checkNoText(t, api.ErrRange, slices.Repeat([]api.Ref{blobOf(alpha, -1)}, 64)...)
	checkNoText(t, api.ErrTwice, make([]api.Ref, 64)...)
}

// P17.1, P17.3: all rows of up to five references of a few sorts; each right one, and no other list of references, has its own text.
func TestRowsOfReferences(t *testing.T) {
	few := []api.Ref{blobOf(alpha, 0), blobOf(alpha, 1), blobOf(alpha, -1), manifestOf(alpha, 0), manifestOf(alpha, -1), blobOf(beta, greatest), blobOf(beta, greatest+1), manifestOf(beta, 7), blobOf(api.Digest{}, 12)}
	texts := map[string]string{}
	count := map[api.Errno]int{}
	each(len(few), 5, func(row []int) {
		var l []api.Ref
		for _, i := range row {
			l = append(l, few[i])
		}
		got, err := texted(t, l)
		count[err]++
		if err != api.OK {
			return
		}
		of := told(zeroed(l))
		if other, found := texts[string(got)]; found && other != of {
			t.Errorf("%s has the text of %s", of, other)
		}
		texts[string(got)] = of
		if again, err := Read(got); err != api.OK || !slices.Equal(again, zeroed(l)) {
			t.Errorf("Read of the text of %s: %s, %v", of, told(again), err)
		}
	})
	for _, err := range []api.Errno{api.OK, api.ErrRange, api.ErrTwice} {
		if count[err] < 50 {
			t.Errorf("%v came up %d times only", err, count[err])
		}
	}
}

// each calls do with each row of up to size numbers below n.
func each(n, size int, do func(row []int)) {
	var row []int
	var grow func()
	grow = func() {
		do(row)
		if len(row) == size {
			return
		}
		for i := range n {
			row = append(row, i)
			grow()
			row = row[:len(row)-1]
		}
	}
	grow()
}

// P17.3: two lists that differ in anything but the Size of a reference to a manifest have different texts.
func TestTextsDiffer(t *testing.T) {
	all := lists()
	for _, l := range lists() {
		for i, r := range l {
			all = append(all, l[:i], slices.Delete(slices.Clone(l), i, i+1))
			other := r
			other.Manifest = !r.Manifest
			all = append(all, put(l, i, other))
			other = r
			other.Size = (r.Size + 1) % greatest
			all = append(all, put(l, i, other))
			for _, at := range []int{0, 15, 31} {
				other = r
				other.Digest[at] ^= 0x10
				all = append(all, put(l, i, other))
			}
			if i > 0 {
				all = append(all, put(put(l, i, l[i-1]), i-1, r))
			}
		}
	}
	texts := map[string][]api.Ref{}
	for _, l := range all {
		got, err := texted(t, l)
		if err == api.ErrTwice {
			continue
		}
		if err != api.OK {
			t.Errorf("Text(%s): %v", told(l), err)
		}
		if other, found := texts[string(got)]; found && !slices.Equal(zeroed(l), zeroed(other)) {
			t.Errorf("%s has the text of %s", told(l), told(other))
		}
		texts[string(got)] = l
	}
	if len(texts) < 1000 {
		t.Errorf("%d texts only", len(texts))
	}
}

// P17.2: no bytes, line feeds alone, and first lines that are not the right one.
func TestFirstLine(t *testing.T) {
	checkRead(t, head)
	more := lineOf(blobOf(alpha, 1))
	for _, first := range []string{
		"", "\n", "\n\n", " ", " \n", "stillage 1", "stillage", "stillage\n", "stillage \n", "1\n", "stillage1\n",
		"stillage 0\n", "stillage 2\n", "stillage 3\n", "stillage 01\n", "stillage 10\n", "stillage 11\n", "stillage 12\n", "stillage +1\n", "stillage -1\n", "stillage 1.0\n", "stillage one\n",
		"stillage  1\n", "stillage 1 \n", " stillage 1\n", "stillage\t1\n", "stillage 1\t\n", "stillage 1 1\n",
		"Stillage 1\n", "STILLAGE 1\n", "stillagE 1\n", "stillagf 1\n", "ttillage 1\n", "tillage 1\n", "stilage 1\n", "stilllage 1\n", "manifest 1\n",
		"stillage 1\r\n", "stillage 1\r", "\rstillage 1\n", "stillage\r1\n", "\nstillage 1\n", "\n\nstillage 1\n", "\r\nstillage 1\n",
		"\x00stillage 1\n", "stillage 1\x00\n", "stillage 1\x00", "\xef\xbb\xbfstillage 1\n", "xstillage 1\n", "stillage 1x\n", "1stillage 1\n",
		more, "blob\n", "stillage 1" + more,
	} {
		checkRefused(t, api.ErrForm, first)
		checkRefused(t, api.ErrForm, first+more)
		checkRefused(t, api.ErrForm, first+more+more)
		if first != "" {
			checkRefused(t, api.ErrForm, first+head)
			checkRefused(t, api.ErrForm, first+head+more)
		}
	}
	if got, err := Read(nil); len(got) != 0 || err != api.ErrForm {
		t.Errorf("Read(nil): %s, %v", told(got), err)
	}
	// A second one is no reference.
	checkWrongLine(t, "stillage 1")
}

// P17.2: each byte of the first line replaced by each other one, left out, and with each one ahead of it and behind it.
func TestBytesOfFirstLine(t *testing.T) {
	for at := range head {
		checkRefused(t, api.ErrForm, head[:at]+head[at+1:])
		for value := range 256 {
			c := string([]byte{byte(value)})
			if c != head[at:at+1] {
				checkRefused(t, api.ErrForm, head[:at]+c+head[at+1:])
			}
			checkRefused(t, api.ErrForm, head[:at]+c+head[at:])
			checkRefused(t, api.ErrForm, head+c)
		}
	}
}

// P17.2: of a manifest that is cut at any byte, only whole lines from the first one on are a manifest.
func TestCut(t *testing.T) {
	for _, l := range lists() {
		s, _ := textOf(l)
		for size := range len(s) {
			// Of long ones the beginning, the end and what is around each line feed are enough.
			if size > 300 && size < len(s)-300 && !strings.Contains(s[size-2:size+2], "\n") {
				continue
			}
			if size > 0 && s[size-1] == '\n' {
				checkRead(t, s[:size], l[:strings.Count(s[:size], "\n")-1]...)
			} else {
				checkRefused(t, api.ErrForm, s[:size])
			}
		}
	}
}

// P17.2: an empty line is none of a manifest, wherever it is.
func TestEmptyLines(t *testing.T) {
	checkWrongLine(t, "")
	for _, l := range lists() {
		s, _ := textOf(l)
		for at := 0; at >= 0; {
			checkRefused(t, api.ErrForm, s[:at]+"\n"+s[at:])
			checkRefused(t, api.ErrForm, s[:at]+"\n\n"+s[at:])
			checkRefused(t, api.ErrForm, s[:at]+"\r\n"+s[at:])
			next := strings.IndexByte(s[at:], '\n')
			if next < 0 {
				break
			}
			at += next + 1
		}
		checkRefused(t, api.ErrForm, s+"\n")
		checkRefused(t, api.ErrForm, s+"\n\n")
	}
}

// P17.2: how sizes are written, and how they are not.
func TestWrittenSizes(t *testing.T) {
	blob := "blob " + alphaText
	for _, size := range blobSizes {
		checkRead(t, head+blob+" "+strconv.Itoa(size)+"\n", blobOf(alpha, size))
	}
	for size := range 3000 {
		figures := strconv.Itoa(size)
		checkRead(t, head+blob+" "+figures+"\n", blobOf(alpha, size))
		for _, ahead := range []string{"0", "+", "-", " ", "00"} {
			checkRefused(t, api.ErrForm, head+blob+" "+ahead+figures+"\n")
		}
	}
	for figures := 1; figures < 30; figures++ {
		for first := byte('0'); first <= '9'; first++ {
			for _, rest := range []string{"0", "9", "5"} {
				held(t, head+blob+" "+string(first)+strings.Repeat(rest, figures-1)+"\n")
			}
		}
	}
	checkWrongLine(t, blob)
	checkWrongLine(t, blob+"1")
	for _, size := range []string{
		"", " ", "  ", "00", "000", "01", "001", "09", "010", "0999999999", "000000000", "0000000001", "+", "-", "+0", "-0", "+1", "-1", "--1", "+-1", "-999999999", "-1000000000",
		" 0", " 1", "  1", "0 ", "1 ", "1  ", "1 1", "1 0", "1\t", "\t1", "1\r", "\r1", "1\x00", "\x001", "1,", "1.", "1.0", ".1", "0.", "1e3", "1E3", "0x1", "0X1", "0b1", "0o1", "1_0", "1_000", "_1", "1_", "1,000",
		"1000000000", "1000000001", "1999999999", "2147483647", "2147483648", "4294967295", "4294967296", "4294967297", "9999999999", "10000000000", "9223372036854775807", "9223372036854775808", "18446744073709551615", "18446744073709551616", "18446744073709551617", "1" + strings.Repeat("0", 100), strings.Repeat("9", 100), strings.Repeat("1", 5000), strings.Repeat("0", 5000),
		"/", ":", "a", "A", "f", "/1", "1/", ":1", "1:", "a1", "1a", "1a1", "1/1", "1:1", "99999999a", "a99999999", "9999a9999", "99999999:", "/99999999", "nan", "inf", "one", "½", "１", "٣", "1٣", "\xff", "1\xff", "\x80", "1\x80",
	} {
		checkWrongLine(t, blob+" "+size)
	}
}

// P17.2: a manifest is referred to by its digest alone.
func TestWrittenManifests(t *testing.T) {
	checkRead(t, head+"manifest "+alphaText+"\n", manifestOf(alpha, 0))
	for _, behind := range []string{" ", "  ", " 0", " 1", " 10", " 999999999", " 01", " -1", " x", "\t", "\r", "\x00", "0", "00", " " + betaText, "\xff"} {
		checkWrongLine(t, "manifest "+alphaText+behind)
	}
}

// P17.2: lines that begin with no word of the two, or with something ahead of it or behind it.
func TestWords(t *testing.T) {
	for _, word := range []string{
		"", "Blob", "BLOB", "bloB", "bLob", "blo", "lob", "b", "blobs", "blobb", "bblob", "blob1", "Manifest", "MANIFEST", "manifesT", "manifes", "anifest", "manifests", "mmanifest", "m", "manifest1", "tag", "untag", "delete", "commit", "header", "footer", "stillage", "image", "config", "1", "2", "blob blob", "blob manifest", "manifest blob", "manifest manifest", "blobmanifest", "manifestblob",
		"\x00blob", "blob\x00", "\x00manifest", "manifest\x00", "\xffblob", "blob\xff", "\rblob", "blob\r", "#", "//", "-",
	} {
		for _, rest := range []string{alphaText, alphaText + " 1", alphaText + " 0", ""} {
			checkWrongLine(t, word+" "+rest)
			checkWrongLine(t, word+rest)
		}
		checkWrongLine(t, word)
	}
	for _, word := range []string{"blob", "manifest"} {
		for _, rest := range []string{alphaText, alphaText + " 1", alphaText + " 0"} {
			for _, line := range []string{" " + word + " " + rest, "  " + word + " " + rest, "\t" + word + " " + rest, word + "  " + rest, word + "   " + rest, word + "\t" + rest, word + rest, word + "\n" + rest, word + " \n" + rest} {
				checkWrongLine(t, line)
			}
		}
		for _, rest := range []string{"", " ", "  ", " 1", "  1", " 0", " \t", "\r"} {
			checkWrongLine(t, word+rest)
		}
	}
	checkWrongLine(t, alphaText)
	checkWrongLine(t, alphaText+" 1")
	checkWrongLine(t, " "+alphaText+" 1")
	checkWrongLine(t, "blob "+alphaText+" 1blob "+betaText+" 1")
	checkWrongLine(t, "blob "+alphaText+" 1 blob "+betaText+" 1")
	checkWrongLine(t, "manifest "+alphaText+"manifest "+betaText)
	checkWrongLine(t, "manifest "+alphaText+" manifest "+betaText)
	checkWrongLine(t, "blob 1 "+alphaText)
}

// P17.2: digests that have not their text.
func TestWrittenDigests(t *testing.T) {
	wrong := []string{
		"", "sha256:", "sha256", alphaDigits, ":" + alphaDigits, "sha256" + alphaDigits, "sha256 " + alphaDigits, "sha256: " + alphaDigits, "sha256::" + alphaDigits, "ha256:" + alphaDigits, "SHA256:" + alphaDigits, "Sha256:" + alphaDigits, "sha255:" + alphaDigits, "sha512:" + alphaDigits, "sha1:" + alphaDigits[:40], "md5:" + alphaDigits[:32], "sha256:sha256:" + alphaDigits, "sha512:" + alphaDigits + betaDigits, "0x" + alphaDigits, "sha256:0x" + alphaDigits[2:],
		alphaText[:len(alphaText)-1], alphaText[:len(alphaText)-2], alphaText + "0", alphaText + "00", alphaText + "f", alphaText + betaDigits, "sha256:" + alphaDigits[1:], "sha256:" + alphaDigits[2:], "sha256:0" + alphaDigits, "sha256:00" + alphaDigits,
		"sha256:" + strings.ToUpper(alphaDigits), "sha256:" + strings.Replace(alphaDigits, "a", "A", 1), "sha256:" + alphaDigits[:63] + "F", strings.ToUpper(alphaText),
		" " + alphaText, alphaText + " ", "sha256:" + alphaDigits[:32] + " " + alphaDigits[32:], "sha256:" + alphaDigits[:32] + " " + alphaDigits[33:], "sha256:" + strings.Repeat(" ", 64), "sha256:" + strings.Repeat("g", 64), "sha256:" + strings.Repeat("-", 64),
	}
	for _, c := range "gGzZ /:`@.-_é\u0660" {
		wrong = append(wrong, "sha256:"+string(c)+alphaDigits[1:], "sha256:"+alphaDigits[:30]+string(c)+alphaDigits[31:], "sha256:"+alphaDigits[:63]+string(c), "sha256:"+string(c)+alphaDigits[len(string(c)):])
	}
	for _, text := range wrong {
		checkWrongLine(t, "blob "+text)
		checkWrongLine(t, "manifest "+text)
		checkWrongLine(t, "blob "+text+" 1")
		checkWrongLine(t, "manifest "+text+" 1")
		checkWrongLine(t, "blob "+text+" ")
	}
}

// P17.2: each byte of a line replaced by each other one, left out, and with each one ahead of it; what is right then is told by the words of the chapter.
func TestBytesOfLines(t *testing.T) {
	count := map[api.Errno]int{}
	for _, l := range [][]api.Ref{{blobOf(alpha, 105), manifestOf(beta, 0)}, {manifestOf(beta, 0), blobOf(alpha, 105)}} {
		s := head + lineOf(l[0]) + lineOf(l[1])
		for at := len(head); at < len(s); at++ {
			held(t, s[:at]+s[at+1:])
			for value := range 256 {
				c := string([]byte{byte(value)})
				_, err := held(t, s[:at]+c+s[at+1:])
				count[err]++
				_, err = held(t, s[:at]+c+s[at:])
				count[err]++
			}
		}
		for value := range 256 {
			checkRefused(t, api.ErrForm, s+string([]byte{byte(value)}))
		}
	}
	if count[api.OK] < 1000 || count[api.ErrForm] < 100000 {
		t.Errorf("%v", count)
	}
}

// P17.2: bytes that are no letters and no figures, in each part of a line.
func TestOddBytes(t *testing.T) {
	for _, parts := range [][]string{{"blob", " ", "sha256:", alphaDigits, " ", "1057"}, {"manifest", " ", "sha256:", betaDigits}} {
		for i, part := range parts {
			ahead, behind := strings.Join(parts[:i], ""), strings.Join(parts[i+1:], "")
			for _, odd := range []string{"\x00", "\r", "\x7f", "\x80", "\xff", "\r\n", "\n\r", "\t", "\v", "\u00a0", "\u2028"} {
				for at := range len(part) + 1 {
					checkWrongLine(t, ahead+part[:at]+odd+part[at:]+behind)
					if at < len(part) {
						checkWrongLine(t, ahead+part[:at]+odd+part[at+1:]+behind)
					}
				}
			}
		}
	}
}

// P17.2: MaxRefs references and one line more, which is ErrForm unless it is a reference, and ErrMany then, whatever its digest.
func TestOneMore(t *testing.T) {
	for _, l := range lists() {
		if len(l) != most {
			continue
		}
		s, _ := textOf(l)
		checkRead(t, s, l...)
		checkRefused(t, api.ErrForm, s[:len(s)-1])
		more := []api.Ref{blobOf(alpha, 0), blobOf(alpha, greatest), manifestOf(alpha, 0), blobOf(l[0].Digest, 1), manifestOf(l[0].Digest, 0), blobOf(l[63].Digest, 1), manifestOf(l[63].Digest, 0), l[0], l[31], l[63]}
		for _, r := range more {
			one := lineOf(r)
			checkRefused(t, api.ErrMany, s+one)
			checkRefused(t, api.ErrForm, s+strings.TrimSuffix(one, "\n"))
			checkRefused(t, api.ErrForm, s+"\n"+one)
			for _, behind := range []string{"\n", "x\n", "x", one, one + one, "blob " + betaText + " 01\n", lineOf(manifestOf(beta, 0)), strings.TrimSuffix(one, "\n")} {
				checkRefused(t, api.ErrMany, s+one+behind)
			}
		}
		for _, wrong := range []string{"", " ", "x", "stillage 1", "blob", "blob " + alphaText, "blob " + alphaText + " 01", "blob " + alphaText + " 1000000000", "manifest " + alphaText + " 1", "manifest " + alphaText + "0", lineOf(l[0])[1:70]} {
			if wrong != "" {
				checkRefused(t, api.ErrForm, s+wrong)
			}
			checkRefused(t, api.ErrForm, s+wrong+"\n")
			checkRefused(t, api.ErrForm, s+wrong+"\n"+lineOf(l[0]))
		}
		// A digest that is there twice among the first ones counts ahead.
		twice, _ := textOf(l[:63])
		checkRefused(t, api.ErrTwice, twice+lineOf(l[0])+lineOf(blobOf(alpha, 1)))
		checkRefused(t, api.ErrTwice, twice+lineOf(l[62])+"x")
	}
}

// P17.2: a line feed that is missing counts where the last line is reached, and only there.
func TestMissingLineFeed(t *testing.T) {
	one, two, again := lineOf(blobOf(alpha, 1)), lineOf(manifestOf(beta, 0)), lineOf(manifestOf(alpha, 0))
	full, _ := textOf(rows(64))
	for _, last := range []string{one, two, again, lineOf(rows(1)[0])} {
		open := strings.TrimSuffix(last, "\n")
		checkRefused(t, api.ErrForm, open)
		checkRefused(t, api.ErrForm, head+open)
		checkRefused(t, api.ErrForm, head+one+open)
		checkRefused(t, api.ErrForm, head+two+one+open)
		checkRefused(t, api.ErrForm, full+open)
		checkRefused(t, api.ErrTwice, head+one+again+open)
		checkRefused(t, api.ErrTwice, head+one+two+again+open)
		checkRefused(t, api.ErrMany, full+one+open)
		checkRefused(t, api.ErrMany, full+one+again+open)
		checkRefused(t, api.ErrForm, head+"x\n"+open)
		checkRefused(t, api.ErrForm, head+one+"\n"+open)
		// Two lines with no line feed between them are one, and nothing behind it counts.
		checkRefused(t, api.ErrForm, head+open+one+again+again)
		checkRefused(t, api.ErrForm, head+open+"x\n")
		checkRefused(t, api.ErrForm, strings.TrimSuffix(head, "\n")+last)
	}
	checkRefused(t, api.ErrForm, strings.TrimSuffix(full, "\n"))
}

// P17.2: of two lines that are wrong the first one counts, and of two errors in one line the form, then the number of references.
func TestFirstErrorOfRead(t *testing.T) {
	one, two := lineOf(blobOf(alpha, 1)), lineOf(manifestOf(beta, 0))
	forms := []string{"\n", "x\n", "blob\n", "blob " + alphaText + "\n", "blob " + alphaText + " 01\n", "blob " + alphaText + " 1000000000\n", "manifest " + betaText + " 1\n", "manifest " + betaText + "0\n"}
	doubles := []string{one, two, lineOf(blobOf(alpha, 2)), lineOf(manifestOf(alpha, 0)), lineOf(blobOf(beta, 0))}
	for _, wrong := range forms {
		for _, double := range doubles {
			checkRefused(t, api.ErrForm, head+one+two+wrong+double)
			checkRefused(t, api.ErrTwice, head+one+two+double+wrong)
			checkRefused(t, api.ErrTwice, head+one+two+double+double)
			checkRefused(t, api.ErrForm, head+wrong+one+two+double)
			for _, more := range []int{61, 62, 63, 64, 65, 70} {
				tail, _ := textOf(rows(min(more, 64)))
				tail = strings.TrimPrefix(tail, head)
				for i := 64; i < more; i++ {
					tail += lineOf(blobOf(digestAt(i), i))
				}
				checkRefused(t, api.ErrTwice, head+one+two+double+tail)
				checkRefused(t, api.ErrForm, head+one+two+wrong+tail)
				atEnd, form := api.ErrMany, api.ErrMany
				if more <= 62 {
					form = api.ErrForm
				}
				if more <= 61 {
					atEnd = api.ErrTwice
				}
				checkRefused(t, atEnd, head+one+two+tail+double)
				checkRefused(t, form, head+one+two+tail+wrong)
			}
		}
	}
}

// P17.2: all rows of up to four lines of a few sorts, with and without their last line feed.
func TestRowsOfLines(t *testing.T) {
	few := []string{"stillage 1", "", "x", lineOf(blobOf(alpha, 0)), lineOf(blobOf(alpha, 1)), lineOf(manifestOf(alpha, 0)), lineOf(blobOf(beta, greatest)), lineOf(manifestOf(beta, 0)), lineOf(manifestOf(digestAt(5), 0)), "blob " + alphaText, "blob " + betaText + " 01", "manifest " + betaText + " 1"}
	count := map[api.Errno]int{}
	each(len(few), 4, func(row []int) {
		var s strings.Builder
		for _, i := range row {
			s.WriteString(strings.TrimSuffix(few[i], "\n") + "\n")
		}
		for _, ahead := range []string{head, ""} {
			_, err := held(t, ahead+s.String())
			count[err]++
			if len(row) > 0 {
				held(t, strings.TrimSuffix(ahead+s.String(), "\n"))
			}
		}
	})
	for _, err := range []api.Errno{api.OK, api.ErrForm, api.ErrTwice} {
		if count[err] < 100 {
			t.Errorf("%v came up %d times only", err, count[err])
		}
	}
}

// anyDigest answers one of few digests, or one of many.
func anyDigest(r *rand.Rand) api.Digest {
	if r.IntN(60) == 0 {
		return digestAt(r.IntN(3))
	}
	var out api.Digest
	for i := range out {
		out[i] = byte(r.Uint32())
	}
	return out
}

// anyRef answers a reference, seldom one whose size is out of range.
func anyRef(r *rand.Rand) api.Ref {
	out := api.Ref{Manifest: r.IntN(3) == 0, Digest: anyDigest(r), Size: r.IntN(1+1<<r.IntN(30)) % (greatest + 1)}
	switch {
	case out.Manifest:
		out.Size = int(r.Uint64()) * r.IntN(2)
	case r.IntN(100) == 0:
		out.Size = noSizes[r.IntN(len(noSizes))]
	}
	return out
}

// anyCount answers up to 70, mostly little.
func anyCount(r *rand.Rand) int {
	if r.IntN(20) == 0 {
		return 63 + r.IntN(8)
	}
	return r.IntN(1 + r.IntN(71))
}

// anyList answers any references, seldom more than MaxRefs.
func anyList(r *rand.Rand) []api.Ref {
	var out []api.Ref
	for range anyCount(r) {
		out = append(out, anyRef(r))
	}
	return out
}

// P17.1, P17.3: samples of lists, held against the words of the chapter.
func TestSamplesOfLists(t *testing.T) {
	r := rand.New(rand.NewPCG(17, 1))
	count := map[api.Errno]int{}
	for range 10000 {
		l := anyList(r)
		got, err := texted(t, l)
		count[err]++
		if err == api.OK {
			checkText(t, l, string(got))
		}
	}
	for _, err := range []api.Errno{api.OK, api.ErrMany, api.ErrRange, api.ErrTwice} {
		if count[err] < 100 {
			t.Errorf("%v came up %d times only", err, count[err])
		}
	}
}

// nearly answers a manifest in which sometimes something is wrong.
func nearly(r *rand.Rand) string {
	s := head
	for range anyCount(r) {
		one := anyRef(r)
		if one.Size < 0 || one.Size > greatest {
			one.Size = 0
		}
		s += lineOf(one)
	}
	at := r.IntN(len(s) + 1)
	switch r.IntN(12) {
	case 0:
		s = s[:at]
	case 1:
		s = s[at:]
	case 2:
		s = s[:at] + string([]byte{byte(r.Uint32())}) + s[at:]
	case 3:
		s = s[:at] + s[min(at+1, len(s)):]
	case 4:
		s = s[:at] + strconv.Itoa(r.IntN(100)) + s[at:]
	case 5:
		s = s[:at] + "\n" + s[at:]
	}
	return s
}

// P17.2, P17.3: samples of bytes that are nearly a manifest, held against the words of the chapter.
func TestSamplesOfTexts(t *testing.T) {
	r := rand.New(rand.NewPCG(17, 2))
	count := map[api.Errno]int{}
	for range 10000 {
		_, err := held(t, nearly(r))
		count[err]++
	}
	for _, err := range []api.Errno{api.OK, api.ErrForm, api.ErrMany, api.ErrTwice} {
		if count[err] < 100 {
			t.Errorf("%v came up %d times only", err, count[err])
		}
	}
}

// R1: bytes that are no manifest, and long ones.
func TestNoManifests(t *testing.T) {
	for size := range 300 {
		for value := range 256 {
			checkRefused(t, api.ErrForm, strings.Repeat(string([]byte{byte(value)}), size))
		}
	}
	const long = 1 << 20
	one := lineOf(blobOf(alpha, 1))
	for _, s := range []string{strings.Repeat("x", long), strings.Repeat("\n", long), strings.Repeat(" ", long), strings.Repeat("blob ", long/5), strings.Repeat("manifest ", long/9), strings.Repeat("9", long), strings.Repeat("\x00", long), alphaText + strings.Repeat("0", long), "blob " + alphaText + " " + strings.Repeat("1", long), strings.Repeat(head, long/len(head))} {
		checkRefused(t, api.ErrForm, s)
		checkRefused(t, api.ErrForm, s+"\n")
		checkRefused(t, api.ErrForm, head+s)
		checkRefused(t, api.ErrForm, head+s+"\n")
		checkRefused(t, api.ErrForm, head+one+s)
		checkRefused(t, api.ErrForm, head+"blob "+s+" 1\n"+one)
	}
	checkRefused(t, api.ErrTwice, head+strings.Repeat(one, long/len(one)))
	var many strings.Builder
	many.WriteString(head)
	for i := range 1 << 13 {
		many.WriteString(lineOf(blobOf(digestAt(i), i)))
	}
	checkRefused(t, api.ErrMany, many.String())
}

// R1: lists of any references.
func TestAnyReferences(t *testing.T) {
	for _, size := range []int{0, -1, 1, math.MinInt, math.MaxInt, greatest, greatest + 1} {
		for _, manifest := range []bool{false, true} {
			for _, count := range []int{1, 2, 63, 64, 65, 5000} {
				texted(t, slices.Repeat([]api.Ref{{Manifest: manifest, Size: size}}, count))
			}
		}
	}
}

// R3: an answer is of its own: what is done to the argument behind the call does not change it, nor what is done to another answer.
func TestAnswersAreNew(t *testing.T) {
	for _, l := range lists() {
		want, _ := textOf(l)
		given := slices.Clone(l)
		one, _ := Text(given)
		two, _ := Text(given)
		clear(given)
		spoil(two)
		if string(one) != want {
			t.Errorf("Text(%s): %s", told(l), brief(string(one)))
		}
		if three, _ := Text(l); string(three) != want {
			t.Errorf("Text(%s): %s", told(l), brief(string(three)))
		}
		b := []byte(want)
		first, _ := Read(b)
		second, _ := Read(b)
		spoil(b)
		clear(second[:cap(second)])
		if !slices.Equal(first, l) {
			t.Errorf("Read(%s): %s", brief(want), told(first))
		}
	}
}

// spoil changes each byte of b, and of the memory behind it that belongs to it.
func spoil(b []byte) {
	b = b[:cap(b)]
	for i := range b {
		b[i] ^= 0x5a
	}
}

// R4: the answers do not hang on earlier calls.
func TestAnswersDoNotHangOnEarlierOnes(t *testing.T) {
	for _, l := range lists() {
		for _, k := range lists() {
			one, _ := textOf(l)
			two, _ := textOf(k)
			checkText(t, l, one)
			checkText(t, k, two)
			checkRefused(t, api.ErrForm, one+"x\n")
			checkNoText(t, api.ErrMany, slices.Concat(l, k, rows(65))...)
			checkRead(t, one, l...)
			if len(k) > 0 && len(k) < most {
				checkRefused(t, api.ErrTwice, two+lineOf(k[0]))
				checkNoText(t, api.ErrRange, append(slices.Clone(k), blobOf(k[0].Digest, -1))...)
			}
			checkRead(t, two, k...)
		}
	}
}

// P17.2: the lines of a text come one by one, and as many of them as are asked for.
func TestLines(t *testing.T) {
	for _, c := range []struct {
		s    string
		want []string
	}{
		{"", nil}, {"\n", []string{"+"}}, {"a", []string{"a-"}}, {"a\n", []string{"a+"}}, {"a\n\nb\n", []string{"a+", "+", "b+"}}, {"a\n\n", []string{"a+", "+"}}, {"\na\nb", []string{"+", "a+", "b-"}},
	} {
		all := lines(c.s)
		// A second time the same lines come.
		for range 2 {
			for size := range len(c.want) + 1 {
				var got []string
				if size > 0 {
					for s, ended := range all {
						got = append(got, s+map[bool]string{true: "+", false: "-"}[ended])
						if len(got) == size {
							break
						}
					}
				}
				if !slices.Equal(got, c.want[:size]) {
					t.Errorf("lines(%q): %q, want %q", c.s, got, c.want[:size])
				}
			}
		}
	}
}

// P17.1: the first line and the texts of digests are what the document says, whatever else the tests take them for.
func TestParts(t *testing.T) {
	got, _ := texted(t, []api.Ref{blobOf(alpha, 12), manifestOf(beta, 12)})
	want := [][]byte{[]byte("stillage 1"), []byte("blob " + alphaText + " 12"), []byte("manifest " + betaText), nil}
	if parts := bytes.Split(got, []byte{10}); !slices.EqualFunc(parts, want, bytes.Equal) {
		t.Errorf("%q", parts)
	}
	if fmt.Sprintf("%x", alpha[:]) != alphaDigits || fmt.Sprintf("%x", beta[:]) != betaDigits {
		t.Errorf("%x, %x", alpha[:], beta[:])
	}
}
