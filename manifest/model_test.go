package manifest

import (
	"bytes"
	"encoding/hex"
	"fmt"
	"math"
	"regexp"
	"slices"
	"strconv"
	"strings"
	"testing"

	"stillage/api"
)

const (
	head     = "stillage 1\n"
	most     = 64        // of references
	greatest = 999999999 // of sizes
)

// alphaDigits and betaDigits are the digits of the digests alpha and beta.
const (
	alphaDigits = "0123456789abcdeffedcba9876543210a0b1c2d3e4f5061728394a5b6c7d8e9f"
	betaDigits  = "ffeeddccbbaa99887766554433221100f0e1d2c3b4a5968778695a4b3c2d1e0f"
)

var (
	alpha = api.Digest{0x01, 0x23, 0x45, 0x67, 0x89, 0xab, 0xcd, 0xef, 0xfe, 0xdc, 0xba, 0x98, 0x76, 0x54, 0x32, 0x10, 0xa0, 0xb1, 0xc2, 0xd3, 0xe4, 0xf5, 0x06, 0x17, 0x28, 0x39, 0x4a, 0x5b, 0x6c, 0x7d, 0x8e, 0x9f}
	beta  = api.Digest{0xff, 0xee, 0xdd, 0xcc, 0xbb, 0xaa, 0x99, 0x88, 0x77, 0x66, 0x55, 0x44, 0x33, 0x22, 0x11, 0x00, 0xf0, 0xe1, 0xd2, 0xc3, 0xb4, 0xa5, 0x96, 0x87, 0x78, 0x69, 0x5a, 0x4b, 0x3c, 0x2d, 0x1e, 0x0f}
)

// digestAt answers a digest, another one for each i up to 65535, of which no two differ in their first bytes.
func digestAt(i int) api.Digest {
	return api.Digest{7, 30: byte(i >> 8), 31: byte(i)}
}

func blobOf(d api.Digest, size int) api.Ref { return api.Ref{Digest: d, Size: size} }

func manifestOf(d api.Digest, size int) api.Ref {
	return api.Ref{Manifest: true, Digest: d, Size: size}
}

// rows answers size references of all sorts, with as many digests.
func rows(size int) []api.Ref {
	var out []api.Ref
	for i := range size {
		if i%3 == 1 {
			out = append(out, manifestOf(digestAt(i), 0))
		} else {
			out = append(out, blobOf(digestAt(i), i*i*i))
		}
	}
	return out
}

// put answers l with r in place of that at index i.
func put(l []api.Ref, i int, r api.Ref) []api.Ref {
	out := slices.Clone(l)
	out[i] = r
	return out
}

// lists answers right lists of references of all sorts; no Size of a reference to a manifest is other than 0.
func lists() [][]api.Ref {
	out := [][]api.Ref{
		nil,
		{blobOf(alpha, 1)},
		{manifestOf(alpha, 0)},
		{blobOf(api.Digest{}, 0)},
		{manifestOf(api.Digest{}, 0)},
		{blobOf(alpha, greatest), manifestOf(beta, 0)},
		{manifestOf(beta, 0), blobOf(alpha, 10)},
		{manifestOf(beta, 0), manifestOf(alpha, 0), manifestOf(digestAt(1), 0)},
		{blobOf(beta, 0), blobOf(alpha, 0), blobOf(digestAt(1), 0)},
		{blobOf(beta, 99), manifestOf(digestAt(3), 0), blobOf(alpha, 100)},
	}
	for _, size := range []int{4, 5, 9, 10, 62, 63, 64} {
		out = append(out, rows(size))
	}
	var blobs, manifests []api.Ref
	for i := range most {
		blobs = append(blobs, blobOf(digestAt(i), greatest-i))
		manifests = append(manifests, manifestOf(digestAt(i), 0))
	}
	return append(out, blobs, manifests)
}

// lineOf answers what the chapter says of the line of a reference.
func lineOf(r api.Ref) string {
	if r.Manifest {
		return fmt.Sprintf("manifest sha256:%x\n", r.Digest[:])
	}
	return fmt.Sprintf("blob sha256:%x %d\n", r.Digest[:], r.Size)
}

// textOf answers what the chapter says of Text, one rule after the other.
func textOf(l []api.Ref) (string, api.Errno) {
	if len(l) > most {
		return "", api.ErrMany
	}
	out := head
	seen := map[api.Digest]bool{}
	for _, r := range l {
		if !r.Manifest && (r.Size < 0 || r.Size > greatest) {
			return "", api.ErrRange
		}
		if seen[r.Digest] {
			return "", api.ErrTwice
		}
		seen[r.Digest] = true
		out += lineOf(r)
	}
	return out, api.OK
}

// form is the form of all lines but the first.
var form = regexp.MustCompile(`\A(?:blob sha256:([0-9a-f]{64}) (0|[1-9][0-9]{0,8})|manifest sha256:([0-9a-f]{64}))\n\z`)

// readOf answers what the chapter says of Read, one rule after the other.
func readOf(b []byte) ([]api.Ref, api.Errno) {
	if len(b) == 0 {
		return nil, api.ErrForm
	}
	all := strings.SplitAfter(string(b), "\n")
	if all[len(all)-1] == "" {
		all = all[:len(all)-1]
	}
	if all[0] != head {
		return nil, api.ErrForm
	}
	var out []api.Ref
	seen := map[api.Digest]bool{}
	for _, s := range all[1:] {
		m := form.FindStringSubmatch(s)
		if m == nil {
			return nil, api.ErrForm
		}
		if len(out) == most {
			return nil, api.ErrMany
		}
		r := api.Ref{Manifest: m[1] == ""}
		r.Size, _ = strconv.Atoi(m[2])
		hex.Decode(r.Digest[:], []byte(m[1]+m[3]))
		if seen[r.Digest] {
			return nil, api.ErrTwice
		}
		seen[r.Digest] = true
		out = append(out, r)
	}
	return out, api.OK
}

// brief answers as much of a text as a message needs.
func brief(s string) string {
	if len(s) > 300 {
		return fmt.Sprintf("%q.. (%d bytes)", s[:300], len(s))
	}
	return strconv.Quote(s)
}

// told answers a list of references in brief.
func told(l []api.Ref) string {
	var out strings.Builder
	for i, r := range l {
		if i == 5 {
			fmt.Fprintf(&out, "and so on, %d references", len(l))
			break
		}
		fmt.Fprintf(&out, "%t %x %d; ", r.Manifest, r.Digest[:], r.Size)
	}
	return out.String()
}

// texted answers what Text does, held against the words of the chapter, and sees that l and the memory behind it stay as they were, and that beside an error stand no bytes.
func texted(t *testing.T, l []api.Ref) ([]byte, api.Errno) {
	t.Helper()
	behind := []api.Ref{manifestOf(alpha, 5), blobOf(beta, 6)}
	room := slices.Concat(l, behind)
	got, err := Text(room[:len(l)])
	want, wantErr := textOf(l)
	if string(got) != want || err != wantErr {
		t.Errorf("Text(%s): %s, %v, want %s, %v", told(l), brief(string(got)), err, brief(want), wantErr)
	}
	if err != api.OK && len(got) != 0 {
		t.Errorf("Text(%s): %d bytes beside %v", told(l), len(got), err)
	}
	if !slices.Equal(room[:len(l)], l) || !slices.Equal(room[len(l):], behind) {
		t.Errorf("Text(%s) changed the references, or what is behind them", told(l))
	}
	return got, err
}

// held answers what Read does, held against the words of the chapter, and sees that b and the memory behind it stay as they were, that beside an error stand no references, and that Text makes the very bytes of what was read.
func held(t *testing.T, s string) ([]api.Ref, api.Errno) {
	t.Helper()
	behind := []byte("\nmore\n")
	room := slices.Concat([]byte(s), behind)
	got, err := Read(room[:len(s)])
	want, wantErr := readOf([]byte(s))
	if !slices.Equal(got, want) || err != wantErr {
		t.Errorf("Read(%s): %s, %v, want %s, %v", brief(s), told(got), err, told(want), wantErr)
	}
	if err != api.OK && len(got) != 0 {
		t.Errorf("Read(%s): %d references beside %v", brief(s), len(got), err)
	}
	if string(room[:len(s)]) != s || !bytes.Equal(room[len(s):], behind) {
		t.Errorf("Read(%s) changed the bytes, or what is behind them", brief(s))
	}
	if err == api.OK {
		if again, err := Text(got); err != api.OK || string(again) != s {
			t.Errorf("Text of what Read(%s) answered: %s, %v", brief(s), brief(string(again)), err)
		}
	}
	return got, err
}

// zeroed answers l as Read answers it, with Size 0 for each manifest.
func zeroed(l []api.Ref) []api.Ref {
	out := slices.Clone(l)
	for i := range out {
		if out[i].Manifest {
			out[i].Size = 0
		}
	}
	return out
}

// checkText sees that Text makes the text that is wanted of l, and that Read answers l again.
func checkText(t *testing.T, l []api.Ref, want string) {
	t.Helper()
	got, err := texted(t, l)
	if string(got) != want || err != api.OK {
		t.Errorf("Text(%s): %s, %v, want %s", told(l), brief(string(got)), err, brief(want))
	}
	checkRead(t, want, zeroed(l)...)
}

// checkNoText sees that Text answers an error for l.
func checkNoText(t *testing.T, want api.Errno, l ...api.Ref) {
	t.Helper()
	if got, err := texted(t, l); len(got) != 0 || err != want {
		t.Errorf("Text(%s): %s, %v, want %v", told(l), brief(string(got)), err, want)
	}
}

// checkRead sees that Read answers the references that are wanted.
func checkRead(t *testing.T, s string, want ...api.Ref) {
	t.Helper()
	if got, err := held(t, s); !slices.Equal(got, want) || err != api.OK {
		t.Errorf("Read(%s): %s, %v, want %s", brief(s), told(got), err, told(want))
	}
}

// checkRefused sees that Read answers an error.
func checkRefused(t *testing.T, want api.Errno, s string) {
	t.Helper()
	if got, err := held(t, s); len(got) != 0 || err != want {
		t.Errorf("Read(%s): %s, %v, want %v", brief(s), told(got), err, want)
	}
}

// checkWrongLine sees that a line, which is told without its line feed, has no right form, wherever it stands in a manifest and whatever follows it.
func checkWrongLine(t *testing.T, wrong string) {
	t.Helper()
	one, two := lineOf(blobOf(digestAt(1), 5)), lineOf(manifestOf(digestAt(2), 0))
	for _, ahead := range []string{"", one, one + two} {
		if wrong != "" {
			checkRefused(t, api.ErrForm, head+ahead+wrong)
		}
		for _, behind := range []string{"", lineOf(blobOf(digestAt(3), 0)), lineOf(manifestOf(digestAt(4), 0)), lineOf(blobOf(digestAt(1), 7)), "\n", "x"} {
			checkRefused(t, api.ErrForm, head+ahead+wrong+"\n"+behind)
		}
	}
}

// blobSizes and noSizes are sizes that a blob may have, and such as it may not have.
var (
	blobSizes = []int{0, 1, 2, 9, 10, 11, 99, 100, 101, 255, 256, 65536, 99999999, 100000000, 123456789, 987654321, greatest - 1, greatest}
	noSizes   = []int{math.MinInt, math.MinInt + 1, -1 << 32, -1<<32 + 1, math.MinInt32, -greatest - 1, -greatest, -100, -10, -2, -1, greatest + 1, greatest + 2, math.MaxInt32, 1 << 31, 1<<32 - 1, 1 << 32, 1<<32 + 1, 9999999999, math.MaxInt - 1, math.MaxInt}
)
