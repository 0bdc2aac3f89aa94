package digest

import (
	"bytes"
	"crypto/sha256"
	"slices"
	"strings"
	"testing"

	"stillage/api"
)

// contents are bytes and the text forms of their digests, written out: those of no bytes, and published ones of SHA-256.
var contents = []struct {
	b []byte
	s string
}{
	{nil, "sha256:e3b0c44298fc1c149afbf4c8996fb92427ae41e4649b934ca495991b7852b855"},
	{[]byte{}, "sha256:e3b0c44298fc1c149afbf4c8996fb92427ae41e4649b934ca495991b7852b855"},
	{[]byte("a"), "sha256:ca978112ca1bbdcafac231b39a23dc4da786eff8147c4e72b9807785afee48bb"},
	{[]byte("abc"), "sha256:ba7816bf8f01cfea414140de5dae2223b00361a396177a9cb410ff61f20015ad"},
	{[]byte("abcdbcdecdefdefgefghfghighijhijkijkljklmklmnlmnomnopnopq"), "sha256:248d6a61d20638b8e5c026930c3e6039a33ce45964ff2167f6ecedd419db06c1"},
	{bytes.Repeat([]byte{'a'}, 1000000), "sha256:cdc76e5c9914fb9281a1c7e284d73e67f1809a48a497200e046d39ccc7112cd0"},
}

// P6.1: the digest of bytes is their SHA-256 digest.
func TestOf(t *testing.T) {
	for _, c := range contents {
		if got := Text(Of(c.b)); got != c.s {
			t.Errorf("the digest of %d bytes is %s, want %s", len(c.b), got, c.s)
		}
	}
	for size := range 300 {
		b := bytes.Repeat([]byte{byte(size), 7}, size)[:size]
		if got := Of(b); got != sha256.Sum256(b) {
			t.Errorf("the digest of %d bytes is %x", size, got)
		}
	}
}

// P6.1: the first byte in which two digests differ decides, whichever it is and whatever stands behind it; bytes are numbers without a sign.
func TestCmp(t *testing.T) {
	checkLess(t, api.Digest{0, 255}, api.Digest{1, 0})
	for at := range len(api.Digest{}) {
		for _, c := range []struct{ less, greater byte }{{0, 1}, {0, 128}, {0, 255}, {1, 255}, {127, 128}, {254, 255}, {15, 16}, {9, 97}} {
			var a, b api.Digest
			a[at], b[at] = c.less, c.greater
			checkLess(t, a, b)
			// What is the same ahead of it, and what is the other way round behind it, changes nothing.
			for i := range a {
				if i < at {
					a[i], b[i] = 200, 200
				} else if i > at {
					a[i], b[i] = 255, 0
				}
			}
			checkLess(t, a, b)
		}
	}
}

// P6.1: digests that differ in their first byte alone, in their last byte alone, and not at all.
func TestCmpOfEdges(t *testing.T) {
	d := Of([]byte("abc"))
	first, last := d, d
	first[0]++
	last[31]++
	checkLess(t, d, first)
	checkLess(t, d, last)
	checkLess(t, last, first)
	full := filled(255)
	for _, d := range []api.Digest{{}, d, first, last, full} {
		if got := Cmp(d, d); got != 0 {
			t.Errorf("Cmp of %x with itself = %d", d, got)
		}
	}
	checkLess(t, api.Digest{}, full)
	checkLess(t, api.Digest{}, api.Digest{31: 1})
	checkLess(t, api.Digest{31: 255}, api.Digest{30: 1})
}

// P6.2: sha256: and two lowercase digits for each byte.
func TestText(t *testing.T) {
	for _, c := range []struct {
		d api.Digest
		s string
	}{
		{api.Digest{}, "sha256:" + strings.Repeat("0", 64)},
		{filled(255), "sha256:" + strings.Repeat("f", 64)},
		{filled(171), "sha256:" + strings.Repeat("ab", 32)},
		{api.Digest{0: 0x1a}, "sha256:1a" + strings.Repeat("0", 62)},
		{api.Digest{31: 0x1a}, "sha256:" + strings.Repeat("0", 62) + "1a"},
		{counted(), "sha256:000102030405060708090a0b0c0d0e0f101112131415161718191a1b1c1d1e1f"},
	} {
		if got := Text(c.d); got != c.s {
			t.Errorf("Text of %x = %s, want %s", c.d, got, c.s)
		}
		checkDigest(t, c.s, c.d)
	}
}

// P6.2: Read answers the digest whose Text is the string.
func TestRead(t *testing.T) {
	for _, c := range contents {
		checkDigest(t, c.s, sha256.Sum256(c.b))
	}
}

// P6.2: a text that is empty, that ends too early wherever it ends, or that goes on.
func TestReadOtherLengths(t *testing.T) {
	for _, s := range []string{Text(counted()), contents[0].s, Text(api.Digest{})} {
		for size := range len(s) {
			checkForm(t, s[:size])
		}
		for _, more := range []string{"0", "00", "a", "ab", "000", " ", "\n", "\x00", "sha256:", s, s[7:], strings.Repeat("0", 62), strings.Repeat("00", 1000)} {
			checkForm(t, s+more)
		}
		for at := range s {
			checkForm(t, s[:at]+s[at+1:])
			checkForm(t, s[:at]+"0"+s[at:])
			checkForm(t, s[:at]+"00"+s[at:])
		}
		for size := 1; size < len(s); size++ {
			checkForm(t, s[size:])
		}
	}
}

// P6.2: a text with another first part, the digits being those of a digest.
func TestReadOtherPrefixes(t *testing.T) {
	digits := contents[3].s[7:]
	for _, s := range []string{"", "sha256", ":", " sha256:", "sha256: ", "sha256::", "sha257:", "sha255:", "sha512:", "sha1:", "md5:", "SHA256:", "Sha256:", "sha25:", "sha256;", "sha256-", "sha-256:", "ha256:", "xsha256:", "sha256:sha256:", "0sha256:", "0000000", "\x00ha256:", "sha256\x00", "ſha256:"} {
		checkForm(t, s+digits)
	}
	s := contents[3].s
	for at := range 7 {
		for i := range 256 {
			if byte(i) != s[at] {
				checkForm(t, s[:at]+string([]byte{byte(i)})+s[at+1:])
			}
		}
	}
}

// P6.2: an uppercase letter or another character that is no digit, in every place of the digits.
func TestReadOtherCharacters(t *testing.T) {
	s := contents[3].s
	for at := 7; at < len(s); at++ {
		for i := range 256 {
			if strings.IndexByte("0123456789abcdef", byte(i)) < 0 {
				checkForm(t, s[:at]+string([]byte{byte(i)})+s[at+1:])
			}
		}
	}
	checkForm(t, strings.ToUpper(s))
	checkForm(t, "sha256:"+strings.ToUpper(s[7:]))
	// Characters of two and of four bytes, with which the number of bytes, or that of characters, is right.
	checkForm(t, s[:69]+"é")
	checkForm(t, s[:70]+"é")
	checkForm(t, s[:67]+"\U0001f600")
	checkForm(t, s[:70]+"０")
}

// P6.3: the digests in ascending order, each once.
func TestRow(t *testing.T) {
	zero, low, mid, high, full := api.Digest{}, api.Digest{31: 1}, api.Digest{0: 0, 1: 255}, api.Digest{0: 1}, filled(255)
	for _, c := range []struct{ l, want []api.Digest }{
		{nil, nil},
		{[]api.Digest{}, nil},
		{[]api.Digest{high}, []api.Digest{high}},
		{[]api.Digest{zero}, []api.Digest{zero}},
		{[]api.Digest{high, high}, []api.Digest{high}},
		{[]api.Digest{zero, zero, zero}, []api.Digest{zero}},
		{[]api.Digest{full, full, full, full, full}, []api.Digest{full}},
		{[]api.Digest{low, high}, []api.Digest{low, high}},
		{[]api.Digest{high, low}, []api.Digest{low, high}},
		{[]api.Digest{high, full, mid, high}, []api.Digest{mid, high, full}},
		{[]api.Digest{zero, low, mid, high, full}, []api.Digest{zero, low, mid, high, full}},
		{[]api.Digest{full, high, mid, low, zero}, []api.Digest{zero, low, mid, high, full}},
		{[]api.Digest{mid, zero, mid, full, zero, low, full, high, mid}, []api.Digest{zero, low, mid, high, full}},
		{[]api.Digest{zero, full, zero, full}, []api.Digest{zero, full}},
	} {
		if got := Row(c.l); !slices.Equal(got, c.want) {
			t.Errorf("Row of %x = %x, want %x", c.l, got, c.want)
		}
	}
}

// P6.3: every order of digests, some of them more than once, has the same row.
func TestRowOfEachOrder(t *testing.T) {
	base := []api.Digest{{31: 1}, {31: 2}, {30: 1}, {0: 1}}
	for n := range 4 * 4 * 4 * 4 * 4 {
		var l []api.Digest
		var used [4]bool
		for left, rest := 5, n; left > 0; left, rest = left-1, rest/4 {
			l = append(l, base[rest%4])
			used[rest%4] = true
		}
		var want []api.Digest
		for i, d := range base {
			if used[i] {
				want = append(want, d)
			}
		}
		if got := Row(l); !slices.Equal(got, want) {
			t.Errorf("Row of %x = %x, want %x", l, got, want)
		}
	}
}

// P6.3: long slices, with and without digests that are in them twice, against a set of the digests.
func TestRowOfMany(t *testing.T) {
	for _, size := range []int{2, 11, 12, 13, 50, 1000, 5000} {
		for _, kinds := range []int{1, 2, size/2 + 1, size} {
			var l []api.Digest
			set := map[api.Digest]bool{}
			for i := range size {
				// The digests of numbers are in no order.
				n := i * 7 % kinds
				d := Of([]byte{byte(n), byte(n >> 8)})
				l = append(l, d)
				set[d] = true
			}
			got := Row(l)
			if len(got) != len(set) {
				t.Fatalf("%d digests in the row of %d, want %d", len(got), size, len(set))
			}
			for i, d := range got {
				if !set[d] || i > 0 && bytes.Compare(got[i-1][:], d[:]) >= 0 {
					t.Fatalf("the row of %d has %x at %d", size, d, i)
				}
			}
		}
	}
}

// P6.3: Has finds each digest of a row, in whichever place, and none that is not in it: below the first, between two, above the last, and next to one of them.
func TestHas(t *testing.T) {
	for size := range 40 {
		var l []api.Digest
		for i := range size {
			l = append(l, api.Digest{0: byte(i / 3), 31: byte(2*(i%3) + 1)})
		}
		for i, d := range l {
			if !Has(l, d) {
				t.Errorf("not found at %d of %d", i, size)
			}
			below, above := d, d
			below[31]--
			above[31]++
			if Has(l, below) || Has(l, above) {
				t.Errorf("found beside %d of %d", i, size)
			}
			for _, at := range []int{1, 15, 30} {
				other := d
				other[at] = 1
				if Has(l, other) {
					t.Errorf("found with another byte %d at %d of %d", at, i, size)
				}
			}
		}
		if Has(l, api.Digest{}) || Has(l, filled(255)) {
			t.Errorf("found outside of %d", size)
		}
	}
}

// P6.3: the edges of Has: no row, a row of one, the zero digest and the greatest one.
func TestHasOfEdges(t *testing.T) {
	zero, one, full := api.Digest{}, api.Digest{31: 1}, filled(255)
	for _, d := range []api.Digest{zero, one, full} {
		if Has(nil, d) || Has([]api.Digest{}, d) {
			t.Errorf("%x found in no row", d)
		}
		if !Has([]api.Digest{d}, d) {
			t.Errorf("%x not found in a row of itself", d)
		}
	}
	if Has([]api.Digest{one}, zero) || Has([]api.Digest{one}, full) || Has([]api.Digest{zero}, one) || Has([]api.Digest{full}, one) {
		t.Error("found in a row of another one")
	}
	row := Row([]api.Digest{one, full, zero, one})
	if !Has(row, zero) || !Has(row, one) || !Has(row, full) || Has(row, api.Digest{31: 2}) {
		t.Error("the row of three")
	}
}

// R1: Has ends whatever slice it is given.
func TestHasOfNoRow(t *testing.T) {
	a, b := api.Digest{31: 1}, api.Digest{31: 2}
	for _, l := range [][]api.Digest{{b, a}, {a, a}, {b, a, b, a, b}, {a, a, a, a}} {
		Has(l, a)
		Has(l, b)
		if Has(l, api.Digest{31: 3}) {
			t.Errorf("found in %x, which does not have it", l)
		}
	}
}

// P6.4: Cmp is a total order: of two digests, one is less, or they are the same one; and what is less than a lesser one is less.
func TestCmpIsTotalOrder(t *testing.T) {
	l := []api.Digest{{}, {31: 1}, {31: 255}, {30: 1}, {30: 1, 31: 255}, {1: 255}, {0: 1}, {0: 127}, {0: 128}, {0: 128, 31: 1}, {0: 255}, filled(127), filled(128), filled(255), counted(), Of(nil), Of([]byte("a")), Of([]byte("abc"))}
	for _, a := range l {
		for _, b := range l {
			ab := Cmp(a, b)
			if ab != -Cmp(b, a) || (ab == 0) != (a == b) || ab < -1 || ab > 1 {
				t.Errorf("Cmp of %x and %x = %d", a, b, ab)
			}
			for _, c := range l {
				if ab <= 0 && Cmp(b, c) <= 0 && Cmp(a, c) > 0 {
					t.Errorf("%x, %x, %x are no order", a, b, c)
				}
			}
		}
	}
}

// P6.4: Read answers the digest of which Text made a string; the order of the strings is that of the digests.
func TestDigestsComeBack(t *testing.T) {
	var l []api.Digest
	for i := range 256 {
		l = append(l, filled(byte(i)), Of([]byte{byte(i)}))
		for at := range len(api.Digest{}) {
			var d api.Digest
			d[at] = byte(i)
			l = append(l, d)
		}
	}
	for i, d := range l {
		s := Text(d)
		checkDigest(t, s, d)
		if other := l[(i*7+1)%len(l)]; Cmp(d, other) != strings.Compare(s, Text(other)) {
			t.Errorf("%x and %x are in another order than their texts", d, other)
		}
	}
}

// R3: no argument is changed, and no answer by what becomes of an argument or of another answer.
func TestArgumentsStay(t *testing.T) {
	a, b, c := api.Digest{0: 1}, api.Digest{0: 2}, api.Digest{0: 3}
	room := []api.Digest{c, a, b, a, c, b}
	was := slices.Clone(room)
	short, long := Row(room[:2]), Row(room)
	if !slices.Equal(room, was) {
		t.Errorf("the argument became %x", room)
	}
	room[0], room[1] = api.Digest{}, api.Digest{}
	if !slices.Equal(short, []api.Digest{a, c}) || !slices.Equal(long, []api.Digest{a, b, c}) {
		t.Errorf("answers became %x, %x", short, long)
	}
	again := Row(long)
	again[0] = filled(9)
	Has(long, c)
	if !slices.Equal(long, []api.Digest{a, b, c}) {
		t.Errorf("the row became %x", long)
	}
	content := []byte("abc")
	d := Of(content)
	content[0] = 'x'
	if d != sha256.Sum256([]byte("abc")) || string(content) != "xbc" {
		t.Errorf("the digest became %x", d)
	}
}

func filled(b byte) api.Digest {
	var d api.Digest
	for i := range d {
		d[i] = b
	}
	return d
}

func counted() api.Digest {
	var d api.Digest
	for i := range d {
		d[i] = byte(i)
	}
	return d
}

func checkLess(t *testing.T, a, b api.Digest) {
	t.Helper()
	if Cmp(a, b) != -1 || Cmp(b, a) != 1 {
		t.Errorf("Cmp of %x and %x = %d, the other way round %d", a, b, Cmp(a, b), Cmp(b, a))
	}
}

func checkDigest(t *testing.T, s string, want api.Digest) {
	t.Helper()
	if d, err := Read(s); err != api.OK || d != want {
		t.Errorf("Read(%q) = %x, %v, want %x", s, d, err, want)
	}
}

func checkForm(t *testing.T, s string) {
	t.Helper()
	if d, err := Read(s); err != api.ErrForm || d != (api.Digest{}) {
		t.Errorf("Read(%q) = %x, %v, want the zero digest and ErrForm", s, d, err)
	}
}
