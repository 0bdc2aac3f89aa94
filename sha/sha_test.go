package sha

import (
	"bytes"
	"crypto/sha256"
	"encoding/hex"
	"math"
	"strings"
	"testing"

	"stillage/api"
)

const noBytes = "e3b0c44298fc1c149afbf4c8996fb92427ae41e4649b934ca495991b7852b855"

// published are the messages whose digests the standard and its test suites give.
var published = []struct{ message, digest string }{
	{"", noBytes},
	{"a", "ca978112ca1bbdcafac231b39a23dc4da786eff8147c4e72b9807785afee48bb"},
	{"abc", "ba7816bf8f01cfea414140de5dae2223b00361a396177a9cb410ff61f20015ad"},
	{"message digest", "f7846f55cf23e14eebeab5b4e1550cad5b509e3348fbc4efa3a1413d393cb650"},
	{"The quick brown fox jumps over the lazy dog", "d7a8fbb307d7809469ca9abcb0082e4f8d5651e46d3cdb762d02d0bf37c9e592"},
	{"abcdbcdecdefdefgefghfghighijhijkijkljklmklmnlmnomnopnopq", "248d6a61d20638b8e5c026930c3e6039a33ce45964ff2167f6ecedd419db06c1"},
	{"abcdefghbcdefghicdefghijdefghijkefghijklfghijklmghijklmnhijklmnoijklmnopjklmnopqklmnopqrlmnopqrsmnopqrstnopqrstu", "cf5b16a778af8380036ce59e7b0492370b249b11e8f07a51afac45037afee9d1"},
	{strings.Repeat("a", 10000), "27dd1f61b867b6a0f6e9d8a41c43231de52107e53ae424de8f847b821db4b711"},
	{strings.Repeat("a", 1000000), "cdc76e5c9914fb9281a1c7e284d73e67f1809a48a497200e046d39ccc7112cd0"},
	{"\xbd", "68325720aabd7c82f30f554b313d0570c95accbb7dc4b5aae11204c08ffe732b"},
	{"\xc9\x8c\x8e\x55", "7abc22c0ae5af26ce93dbb94433a0e0b2e119d014f8e7f65bd56c61ccccd9504"},
	{strings.Repeat("\x00", 55), "02779466cdec163811d078815c633f21901413081449002f24aa3e80f0b88ef7"},
	{strings.Repeat("\x00", 56), "d4817aa5497628e7c77e6b606107042bbba3130888c5f47a375e6179be789fbb"},
	{strings.Repeat("\x00", 64), "f5a5fd42d16a20302798ef6ed309979b43003d2320d9f0e8ea9831a92759fb4b"},
}

// edges are digests of sample: around the ends of blocks, and of what leaves room for the length in the last one.
var edges = []struct {
	size   int
	digest string
}{
	{0, "e3b0c44298fc1c149afbf4c8996fb92427ae41e4649b934ca495991b7852b855"},
	{1, "e7cf46a078fed4fafd0b5e3aff144802b853f8ae459a4f0c14add3314b7cc3a6"},
	{2, "de3d165398ce32171a23058daf35be2b6e1f32d52b2a9149a86af9b98c36c9c1"},
	{3, "ea8aca95ed765f8d4505a43803d75bf0e6b1e80b6390e61debcd27b9b8a42bc0"},
	{4, "e3cd9478ab73566dd02b7977b0a1895dc33fc47f71c1d9dc00ae11ec58d2b19f"},
	{7, "790ed5cec087bdae6fc5257c6db136b21abb465aac8995f79ee1713496bc4c49"},
	{8, "8953e4ae18fdb87b98c05c9551dbc79dd999ee940273b814a9556f16f8669244"},
	{31, "d3fa92f324f79ebd208b7aeb86c21f16b38aa4309dc4180ecdf68a0206e7dccf"},
	{32, "1c044e9098113847af3893e94812f7456ca4a2571e7f7ba9e953fb1721a39e03"},
	{33, "ed044b43f926247ac06203687e1f5580e0d6b8573ceec8d6f4a7736ec393113f"},
	{54, "52136a84ce2d3fef128f7ee2a7c71d30305b1d2c778e4d12364667dab8efc57f"},
	{55, "8e5be3ba052ea6e636931555fa12d3b3a7f338a03c1bb64dc42914e129d23b2d"},
	{56, "f5c5872adc421f3dea366ecd94251663d255c20c257b04ea059d502d35404d91"},
	{57, "f9888dc89471dc8c0ca9a6c013c772d2682603cabfcd3862246b59b9d0a38c35"},
	{62, "278fa2d32f2793971521ba62003797593c07a96c728650f6907ad23a0bafe8ad"},
	{63, "fedef37a214dc271fd8b4b001e211291d154b8cac5b2abefc72804348433b011"},
	{64, "d1871c10b48dc3deb7993b71630c317e78997402091ec097a663234df3d56c5f"},
	{65, "cc86b2a361453310ca950c8cccfb6f71db571a28409e5278e1f883feab1f7a4c"},
	{66, "ad0fb55358ae2c255336f36f8bae5eb5cb0ac416695f3d15380dfbb9d0393245"},
	{118, "5eaf3d6424b80fd86f4116087e2fc2899eb31bebba83f0a1241abf571baad40c"},
	{119, "3caf9b1df0af0fb3224c7fb35d9d7a80f8bca3122fb31505e71c7e86d9137724"},
	{120, "991db98d5ca3727d7a7ec54966c5b4f46b05be4b942102595177a86030fc1c32"},
	{121, "87ea5cdc34594ab94afb82c76f08607bf34779c7ca2e29f69bf8eaee21ae8789"},
	{127, "d1d7b464298cfb9b988c015645b06376d9a387074d6ca7c01e4a83ed7e5f6050"},
	{128, "e40bf19eca578be6e41889e81df9de57b77a90b10ee19739428ab4338fd40356"},
	{129, "8490b1fbfa1f85cc194046e11731d900c7a1e2f3aab71ce14c1c154ddc01695c"},
	{183, "ce6f8e8ac3d724ea1c1a20703b9d997a3523c7de420a3ac61a0373a24a7e4bd7"},
	{184, "4e935e4bc549ff8a638e24fa5b3b6c1dde1e03abeee2734d3d5abc48aaa991a3"},
	{191, "c679f2831c7a9b138dfef628e1a98ab6f5a1b307cd4d7dd7c7b8f634f5a3d9a9"},
	{192, "05f3b0bd7c3f47062b440f5350a7958abccc31fa0de26d131ccf604df6e00f99"},
	{193, "ac3e0c3b2d710507f2cbdddb75e1db73ced822a66461f864454d500722c5bd1f"},
	{1000, "414117ad4b7638fcf7abd5f92b19e04aa2e10ba66609efb3a598c0ce5c4c3124"},
	{8191, "5bedf7bb248b9dddc0533a8ef8def299e2ff805a4816068acf748579f5c909b4"},
	{8192, "f36b8ddc54b2cf8211b48bfe3b72db633cd8044d500a97df96565eeb185dd2fc"},
	{65536, "46e21326cc568d58c415cb3feda07708295f51821d857117f176683d4cbafbf0"},
}

// P4.1: published digests.
func TestSum(t *testing.T) {
	for _, c := range published {
		checkDigest(t, c.message[:min(len(c.message), 60)], Sum([]byte(c.message)), c.digest)
	}
	checkDigest(t, "nil", Sum(nil), noBytes)
	checkDigest(t, "[]byte{}", Sum([]byte{}), noBytes)
}

// P4.1: lengths at the edges.
func TestSumAtEdges(t *testing.T) {
	for _, c := range edges {
		if got := Sum(sample(c.size)); text(got) != c.digest {
			t.Errorf("%d bytes: %s, want %s", c.size, text(got), c.digest)
		}
	}
}

// P4.1: all lengths of up to ten blocks; bytes that are all zeros, all ones, and mixed.
func TestSumOfEachLength(t *testing.T) {
	for size := range 641 {
		for _, b := range [][]byte{make([]byte, size), bytes.Repeat([]byte{255}, size), bytes.Repeat([]byte{128}, size), sample(size)} {
			if got, want := Sum(b), sha256.Sum256(b); got != want {
				t.Errorf("%d bytes: %s, want %x", size, text(got), want)
			}
		}
	}
}

// P4.1: every bit of a message counts, and in its own place.
func TestSumOfEachBit(t *testing.T) {
	for bit := range 8 * 130 {
		b := sample(130)
		b[bit/8] ^= 1 << (bit % 8)
		if got, want := Sum(b), sha256.Sum256(b); got != want {
			t.Errorf("bit %d: %s, want %x", bit, text(got), want)
		}
	}
}

// P4.1: lengths in bits that take one byte more than the lengths before them.
func TestSumOfManyBytes(t *testing.T) {
	for _, size := range []int{31, 32, 1<<13 - 1, 1 << 13, 1<<21 - 1, 1 << 21, 1<<21 + 9} {
		b := sample(size)
		if got, want := Sum(b), sha256.Sum256(b); got != want {
			t.Errorf("%d bytes: %s, want %x", size, text(got), want)
		}
	}
}

// P4.1: what is put behind a message, for lengths that are too great to be written in a test.
func TestPadding(t *testing.T) {
	for _, c := range []struct {
		length, size int
		bits         []byte
	}{
		{0, 64, []byte{0, 0, 0, 0, 0, 0, 0, 0}},
		{1, 63, []byte{0, 0, 0, 0, 0, 0, 0, 8}},
		{54, 10, []byte{0, 0, 0, 0, 0, 0, 1, 176}},
		{55, 9, []byte{0, 0, 0, 0, 0, 0, 1, 184}},
		{56, 72, []byte{0, 0, 0, 0, 0, 0, 1, 192}},
		{57, 71, []byte{0, 0, 0, 0, 0, 0, 1, 200}},
		{63, 65, []byte{0, 0, 0, 0, 0, 0, 1, 248}},
		{64, 64, []byte{0, 0, 0, 0, 0, 0, 2, 0}},
		{119, 9, []byte{0, 0, 0, 0, 0, 0, 3, 184}},
		{120, 72, []byte{0, 0, 0, 0, 0, 0, 3, 192}},
		{1 << 21, 64, []byte{0, 0, 0, 0, 1, 0, 0, 0}},
		{1 << 28, 64, []byte{0, 0, 0, 0, 128, 0, 0, 0}},
		{1<<29 - 1, 65, []byte{0, 0, 0, 0, 255, 255, 255, 248}},
		{1 << 29, 64, []byte{0, 0, 0, 1, 0, 0, 0, 0}},
		{math.MaxInt32, 65, []byte{0, 0, 0, 3, 255, 255, 255, 248}},
	} {
		want := make([]byte, c.size)
		want[0] = 128
		copy(want[c.size-8:], c.bits)
		if got := padding(c.length); !bytes.Equal(got, want) {
			t.Errorf("behind %d bytes: %v, want %v", c.length, got, want)
		}
	}
}

// P4.2: a new hash has no bytes, whatever was written to others.
func TestNew(t *testing.T) {
	first := New()
	checkHash(t, "new", first, nil)
	first.Write(sample(100))
	second := New()
	checkHash(t, "new after writes to another", second, nil)
	second.Write(sample(3))
	checkHash(t, "first", first, sample(100))
	checkHash(t, "second", second, sample(3))
}

// P4.2: the chapter's example.
func TestWritesWithEmptyOnes(t *testing.T) {
	h := New()
	for range 1000 {
		h.Write([]byte("aaaaaaaaaa"))
		h.Write(nil)
		h.Write([]byte{})
	}
	checkDigest(t, "10000 letters", h.Sum(), "27dd1f61b867b6a0f6e9d8a41c43231de52107e53ae424de8f847b821db4b711")
	if h.Len() != 10000 {
		t.Errorf("Len = %d", h.Len())
	}
	h.Write([]byte("b"))
	checkDigest(t, "10001 letters", h.Sum(), "e8d697efcc9ed1bd0c7392fa54c6d128075b7113d982ecaf71e8d940b17e4b47")
	if h.Len() != 10001 {
		t.Errorf("Len = %d", h.Len())
	}
}

// P4.2: writes of nothing, before, between and behind others, at and beside the end of a block.
func TestEmptyWrites(t *testing.T) {
	for _, size := range []int{0, 1, 55, 56, 63, 64, 65, 119, 120, 127, 128, 129} {
		for _, empty := range [][]byte{nil, {}, sample(9)[4:4]} {
			b := sample(size)
			h := New()
			h.Write(empty)
			h.Write(b)
			h.Write(empty)
			checkHash(t, "empty writes around", h, b)
			h.Write(b)
			h.Write(empty)
			checkHash(t, "empty writes behind", h, append(sample(size), b...))
		}
	}
}

// P4.2: Sum and Len between writes: they are of the bytes so far, do not change by being asked for again, and change nothing that follows.
func TestSumBetweenWrites(t *testing.T) {
	all := sample(520)
	for _, step := range []int{1, 7, 8, 9, 54, 55, 56, 57, 63, 64, 65, 119, 120, 127, 128, 129} {
		h := New()
		for at := 0; at < len(all); at += step {
			end := min(at+step, len(all))
			h.Write(all[at:end])
			checkHash(t, "first", h, all[:end])
			checkHash(t, "again", h, all[:end])
		}
	}
}

// P4.2, R1: the methods of a nil Hash.
func TestNil(t *testing.T) {
	var h *Hash
	for _, b := range [][]byte{nil, {}, {0}, sample(63), sample(64), sample(65), sample(1000)} {
		h.Write(b)
		if h != nil {
			t.Error("a nil Hash became one")
		}
		if got := h.Sum(); got != (api.Digest{}) {
			t.Errorf("Sum = %s", text(got))
		}
		if got := h.Len(); got != 0 {
			t.Errorf("Len = %d", got)
		}
	}
}

// P4.3: a message in one write, in two, and in three that end anywhere around the ends of two blocks.
func TestPieces(t *testing.T) {
	all := sample(200)
	want := sha256.Sum256(all)
	for first := range len(all) + 1 {
		for _, second := range []int{0, 1, 2, 55, 56, 62, 63, 64, 65, 66, 119, 120, 127, 128, 129, 200} {
			end := min(first+second, len(all))
			h := New()
			h.Write(all[:first])
			h.Write(all[first:end])
			h.Write(all[end:])
			if got := h.Sum(); got != want || h.Len() != len(all) {
				t.Errorf("pieces to %d, %d: %s, %d bytes", first, end, text(got), h.Len())
			}
		}
	}
}

// P4.3: every way to divide a message into pieces of one size, down to single bytes.
func TestEvenPieces(t *testing.T) {
	for _, size := range []int{0, 1, 55, 56, 63, 64, 65, 119, 120, 128, 300} {
		all := sample(size)
		for step := 1; step <= size+1; step++ {
			h := New()
			for at := 0; at < size; at += step {
				h.Write(all[at:min(at+step, size)])
			}
			checkHash(t, "even pieces", h, all)
		}
	}
}

// P4.3: pieces whose sizes vary, over many blocks.
func TestUnevenPieces(t *testing.T) {
	all := sample(20000)
	for start := range 20 {
		h := New()
		at, step := 0, start
		for at < len(all) {
			end := min(at+step, len(all))
			h.Write(all[at:end])
			at, step = end, (step*5+start+1)%211
		}
		checkHash(t, "uneven pieces", h, all)
	}
}

// R3: neither an argument nor the room behind it is changed, and nothing that was handed in is kept.
func TestArgumentsStay(t *testing.T) {
	for _, size := range []int{0, 1, 55, 56, 63, 64, 65, 100} {
		room := sample(300)
		b := room[:size]
		h := New()
		want := Sum(b)
		h.Write(b)
		h.Sum()
		if !bytes.Equal(room, sample(300)) {
			t.Errorf("%d bytes: an argument became %v", size, room)
		}
		clear(room)
		if got := h.Sum(); got != want || want != sha256.Sum256(sample(size)) {
			t.Errorf("%d bytes: a Sum became %s", size, text(got))
		}
		h.Write(room[:1])
		checkHash(t, "after a change", h, append(sample(size), 0))
	}
}

// R4: hashes that are written by turns do not disturb each other.
func TestHashesByTurns(t *testing.T) {
	a, b := New(), New()
	for i := range 150 {
		a.Write([]byte{byte(i)})
		b.Write([]byte{byte(i), byte(2 * i)})
		Sum(sample(i))
	}
	var wantA, wantB []byte
	for i := range 150 {
		wantA = append(wantA, byte(i))
		wantB = append(wantB, byte(i), byte(2*i))
	}
	checkHash(t, "the one", a, wantA)
	checkHash(t, "the other", b, wantB)
}

// sample answers so many bytes that follow a rule.
func sample(size int) []byte {
	b := make([]byte, size)
	for i := range b {
		b[i] = byte(i*i*7 + i*31 + 11)
	}
	return b
}

func text(d api.Digest) string { return hex.EncodeToString(d[:]) }

func checkDigest(t *testing.T, what string, got api.Digest, want string) {
	t.Helper()
	if text(got) != want {
		t.Errorf("%q: %s, want %s", what, text(got), want)
	}
}

func checkHash(t *testing.T, what string, h *Hash, written []byte) {
	t.Helper()
	if got, want := h.Sum(), sha256.Sum256(written); got != want {
		t.Errorf("%s: the digest of %d bytes is %s, want %x", what, len(written), text(got), want)
	}
	if got := h.Len(); got != len(written) {
		t.Errorf("%s: Len = %d, want %d", what, got, len(written))
	}
}
