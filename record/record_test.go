package record

import (
	"bytes"
	"encoding/hex"
	"math"
	"math/rand/v2"
	"slices"
	"strings"
	"testing"

	"stillage/api"
)

// digits are those of sample.
const digits = "0102030405060708090a0b0c0d0e0f101112131415161718191a1b1c1d1e1f20"

// written are frames that were computed by another program, with blanks between the parts: the head without its checksum, this, the data, and the last checksum.
var written = []struct {
	r    api.Record
	want string
}{
	{api.Record{Kind: 1, Seq: 77, Digest: sample, Data: []byte("xyz")}, "014d0000000000000023000000 fe33fd27 " + digits + " 78797a 4e9b53ed"},
	{api.Record{Kind: 2, Seq: 0, Digest: sample}, "02000000000000000020000000 a5c1da0a " + digits + " 46dbfdfe"},
	{api.Record{Kind: 3, Seq: 1<<40 + 5, Name: "v1", Digest: sample}, "03050000000001000023000000 c1d89fc4 02 7631 " + digits + " 785e0f01"},
	{api.Record{Kind: 4, Seq: 1, Name: "v1"}, "04010000000000000003000000 7919402c 02 7631 67774fe0"},
	{api.Record{Kind: 5, Seq: math.MaxUint64, Digest: sample}, "05ffffffffffffffff20000000 496fac3f " + digits + " 46dbfdfe"},
	{api.Record{Kind: 6, Seq: 9, N: 3, Size: 1<<32 - 1}, "06090000000000000008000000 1d54e057 03000000 ffffffff 0c86bc47"},
	{api.Record{Kind: 7, Seq: 10, N: 12}, "070a0000000000000010000000 f3c2802b 7374696c6c616765 0c00000000000000 8af68658"},
	{api.Record{Kind: 8, Seq: 11, N: 3, Size: 99}, "080b0000000000000008000000 fad89214 03000000 63000000 61f085ee"},
}

// P14.1: a frame of each kind that was computed elsewhere is made and read.
func TestWritten(t *testing.T) {
	for _, c := range written {
		want, err := hex.DecodeString(strings.ReplaceAll(c.want, " ", ""))
		if err != nil {
			t.Fatal(err)
		}
		if got, err := Make(c.r); err != api.OK || !bytes.Equal(got, want) {
			t.Errorf("Make(%+v): % x, %v, want % x", c.r, got, err, want)
		}
		if got := Size(c.r); got != len(want) {
			t.Errorf("Size(%+v): %d, want %d", c.r, got, len(want))
		}
		checkParsed(t, want, 0, c.r, len(want))
		checkRecord(t, c.r)
	}
}

// P14.1, P14.2, P14.3: the sizes and the errors that the chapter names.
func TestExamples(t *testing.T) {
	for _, c := range []struct {
		r    api.Record
		size int
	}{
		{api.Record{Kind: api.RecBlob, Data: []byte("xyz")}, 56},
		{api.Record{Kind: api.RecManifest}, 53},
		{api.Record{Kind: api.RecDelete}, 53},
		{api.Record{Kind: api.RecTag, Name: "v1"}, 56},
		{api.Record{Kind: api.RecUntag, Name: "v1"}, 24},
		{api.Record{Kind: api.RecCommit}, 29},
		{api.Record{Kind: api.RecFooter}, 29},
		{api.Record{Kind: api.RecHeader, N: 1}, 37},
	} {
		if b, err := Make(c.r); err != api.OK || len(b) != c.size || Size(c.r) != c.size || Right(c.r) != api.OK {
			t.Errorf("%+v: %d bytes, Size %d, %v, want %d", c.r, len(b), Size(c.r), err, c.size)
		}
		checkRecord(t, c.r)
	}
	checkFails(t, api.Record{Kind: api.RecTag, Name: "V1"}, api.ErrName)
	checkFails(t, api.Record{Kind: api.RecCommit, N: 1 << 32}, api.ErrRange)
	checkFails(t, api.Record{Kind: api.RecHeader}, api.ErrRange)
	checkFails(t, api.Record{Kind: api.RecBlob, Data: make([]byte, 65505)}, api.ErrLarge)
	checkFails(t, api.Record{Kind: 9}, api.ErrArg)
	checkData(t, api.RecBlob, []byte("short"), api.ErrForm)
	checkData(t, api.RecUntag, []byte("\x02V1"), api.ErrName)
	checkData(t, api.RecHeader, []byte("stillage\x00\x00\x00\x00\x00\x00\x00\x00"), api.ErrRange)
	checkData(t, api.RecHeader, []byte("stillagf\x01\x00\x00\x00\x00\x00\x00\x00"), api.ErrForm)
}

// P14.2: kinds that are none of the eight are ErrArg, whatever the fields are.
func TestKinds(t *testing.T) {
	for _, kind := range kinds {
		checkRecord(t, full(kind))
		if err := Right(full(kind)); err != api.OK {
			t.Errorf("kind %d: %v", kind, err)
		}
	}
	for _, kind := range noKinds {
		checkFails(t, full(kind), api.ErrArg)
		checkFails(t, api.Record{Kind: kind}, api.ErrArg)
		checkFails(t, worst(kind), api.ErrArg)
	}
	for kind := -600; kind <= 600; kind++ {
		checkRecord(t, full(kind))
	}
}

// worst answers a record of a kind whose fields may be in no kind that has them.
func worst(kind int) api.Record {
	return api.Record{Kind: kind, Seq: 5, Digest: sample, Name: "V1", Data: make([]byte, api.MaxSeg-31), N: -1, Size: 1 << 32}
}

// P14.1: fields that do not belong to the kind are ignored, also those that would be wrong in another one.
func TestOtherFields(t *testing.T) {
	for _, kind := range kinds {
		r := full(kind)
		bare := kept(r)
		want, _ := Make(bare)
		for _, others := range []api.Record{{}, full(0), worst(0), {Digest: digestFrom(100), Name: strings.Repeat("a", 300), Data: make([]byte, 100000), N: math.MinInt, Size: math.MaxInt}} {
			c := filled(bare, others)
			got, err := Make(c)
			if err != api.OK || !bytes.Equal(got, want) || Right(c) != api.OK || Size(c) != len(want) {
				t.Errorf("kind %d: % x, %v, want % x", kind, got, err, want)
			}
			if got, want := Word(c, api.Loc{}), Word(bare, api.Loc{}); got != want {
				t.Errorf("kind %d: %+v, want %+v", kind, got, want)
			}
			checkRecord(t, c)
		}
	}
}

// filled answers r with the fields of others that do not belong to its kind.
func filled(r, others api.Record) api.Record {
	mask := kept(api.Record{Kind: r.Kind, Digest: sample, Name: "x", Data: []byte("x"), N: 1, Size: 1})
	if mask.Digest != sample {
		r.Digest = others.Digest
	}
	if mask.Name == "" {
		r.Name = others.Name
	}
	if mask.Data == nil {
		r.Data = others.Data
	}
	if mask.N == 0 {
		r.N = others.N
	}
	if mask.Size == 0 {
		r.Size = others.Size
	}
	return r
}

// P14.2: any sequence number, also those that no log has.
func TestSeqs(t *testing.T) {
	for _, kind := range kinds {
		for _, seq := range seqs {
			r := full(kind)
			r.Seq = seq
			checkRecord(t, r)
			b, _ := Make(r)
			if got, _, err := Parse(b, 0); err != api.OK || got.Seq != seq {
				t.Errorf("kind %d, number %d: %d, %v", kind, seq, got.Seq, err)
			}
		}
	}
}

// P14.1, P14.2: Data up to MaxSeg - 32 bytes for the kinds that have them, of any size for the others.
func TestData(t *testing.T) {
	all := [][]byte{nil, {}, {0}, {255}, []byte("xyz"), bytes.Repeat([]byte{7}, 32), pattern(255), pattern(256), pattern(1000), pattern(api.MaxSeg - 33), pattern(api.MaxSeg - 32)}
	for _, kind := range kinds {
		r := full(kind)
		for _, r.Data = range all {
			checkRecord(t, r)
			if err := Right(r); err != api.OK {
				t.Errorf("kind %d, %d bytes: %v", kind, len(r.Data), err)
			}
		}
		for _, size := range []int{api.MaxSeg - 31, api.MaxSeg - 30, api.MaxSeg - 1, api.MaxSeg, api.MaxSeg + 1, 2*api.MaxSeg - 32, 1 << 20} {
			r.Data = make([]byte, size)
			if kind == api.RecBlob || kind == api.RecManifest {
				checkFails(t, r, api.ErrLarge)
				continue
			}
			checkRecord(t, r)
			if err := Right(r); err != api.OK {
				t.Errorf("kind %d, %d bytes: %v", kind, size, err)
			}
		}
		for size := range 300 {
			r.Data = pattern(size)
			checkRecord(t, r)
		}
	}
}

// P14.1: any digest, each of its bytes at its place.
func TestDigests(t *testing.T) {
	for _, kind := range kinds {
		r := full(kind)
		for at := range 32 {
			for _, c := range []byte{1, 128, 255} {
				r.Digest = api.Digest{}
				r.Digest[at] = c
				checkRecord(t, r)
			}
		}
		for first := range 256 {
			r.Digest = digestFrom(first)
			checkRecord(t, r)
		}
	}
}

// P14.1, P14.2: names of tags for the kinds that have them, any for the others.
func TestNames(t *testing.T) {
	right, wrong := names()
	for _, kind := range kinds {
		r := full(kind)
		for _, r.Name = range right {
			checkRecord(t, r)
			if err := Right(r); err != api.OK {
				t.Errorf("kind %d, name %q: %v", kind, r.Name, err)
			}
		}
		for _, r.Name = range wrong {
			if kind == api.RecTag || kind == api.RecUntag {
				checkFails(t, r, api.ErrName)
				continue
			}
			checkRecord(t, r)
			if err := Right(r); err != api.OK {
				t.Errorf("kind %d, name %q: %v", kind, r.Name, err)
			}
		}
	}
}

// P14.1, P14.2: N and Size of a commit, a footer and a header; the other kinds have none.
func TestNumbers(t *testing.T) {
	for _, kind := range kinds {
		for _, n := range numbers {
			for _, size := range numbers {
				r := full(kind)
				r.N, r.Size = n, size
				fits := true
				switch kind {
				case api.RecCommit, api.RecFooter:
					fits = n >= 0 && n < 1<<32 && size >= 0 && size < 1<<32
				case api.RecHeader:
					fits = n > 0 && n < 100000000
				}
				if fits != (Right(r) == api.OK) {
					t.Errorf("kind %d, N %d, Size %d: %v", kind, n, size, Right(r))
				}
				if fits {
					checkRecord(t, r)
				} else {
					checkFails(t, r, api.ErrRange)
				}
			}
		}
	}
}

// P14.1: each bit of N and of Size at its place, and no more of them than there is room for.
func TestBitsOfNumbers(t *testing.T) {
	for _, kind := range kinds {
		for i := range 64 {
			for _, n := range []int{1 << i, 1<<i - 1, -1 << i} {
				r := full(kind)
				r.N = n
				checkRecord(t, r)
				r = full(kind)
				r.Size = n
				checkRecord(t, r)
				r.N = n
				checkRecord(t, r)
			}
		}
	}
}

// P14.2: of two things that are wrong the first counts: the kind ahead of all else, and what belongs to the kind alone.
func TestOrderOfErrors(t *testing.T) {
	for _, kind := range noKinds {
		for _, r := range []api.Record{{Data: make([]byte, api.MaxSeg)}, {Name: "V1"}, {N: -1}, {N: 1 << 32}, {Size: -1}, worst(0)} {
			r.Kind = kind
			checkFails(t, r, api.ErrArg)
		}
	}
	for kind, want := range map[int]api.Errno{1: api.ErrLarge, 2: api.ErrLarge, 3: api.ErrName, 4: api.ErrName, 5: api.OK, 6: api.ErrRange, 7: api.ErrRange, 8: api.ErrRange} {
		if err := Right(worst(kind)); err != want {
			t.Errorf("kind %d: %v, want %v", kind, err, want)
		}
		checkRecord(t, worst(kind))
	}
}

// P14.3: data of each kind that are too short, too long, or neither.
func TestForm(t *testing.T) {
	for _, kind := range kinds {
		body := bodyOf(full(kind))
		checkData(t, kind, body, api.OK)
		checkData(t, kind, nil, api.ErrForm)
		checkData(t, kind, []byte{}, api.ErrForm)
		hasData := kind == api.RecBlob || kind == api.RecManifest
		for size := range body {
			if hasData && size >= 32 {
				checkData(t, kind, body[:size], api.OK)
				continue
			}
			checkData(t, kind, body[:size], api.ErrForm)
		}
		for _, more := range []int{1, 2, 7, 8, 31, 32, 33, 256, 60000} {
			want := api.ErrForm
			if hasData {
				want = api.OK
			}
			checkData(t, kind, append(slices.Clone(body), make([]byte, more)...), want)
		}
	}
	for _, kind := range kinds {
		for size := range 600 {
			for _, data := range [][]byte{make([]byte, size), pattern(size), bytes.Repeat([]byte{byte(size)}, size), bytes.Repeat([]byte{'a'}, size), append([]byte{byte(size - 1)}, bytes.Repeat([]byte{'a'}, size)...), append([]byte{byte(size - 32)}, bytes.Repeat([]byte{'a'}, size)...)} {
				checkParse(t, frameOf(kind, 1, data), 0)
			}
		}
	}
}

// P14.3: a digest has 32 bytes, not one less, and one more only for the kinds that have Data.
func TestFormOfDigests(t *testing.T) {
	for size, want := range map[int]api.Errno{0: api.ErrForm, 1: api.ErrForm, 31: api.ErrForm, 32: api.OK, 33: api.ErrForm, 64: api.ErrForm} {
		checkData(t, api.RecDelete, pattern(size), want)
		checkData(t, api.RecTag, append([]byte("\x02v1"), pattern(size)...), want)
		if size > 32 {
			want = api.OK
		}
		checkData(t, api.RecBlob, pattern(size), want)
		checkData(t, api.RecManifest, pattern(size), want)
	}
	for _, kind := range []int{api.RecBlob, api.RecManifest} {
		checkData(t, kind, pattern(api.MaxSeg-1), api.OK)
		checkData(t, kind, pattern(api.MaxSeg), api.OK)
		checkData(t, kind, pattern(api.MaxSeg+1), api.ErrForm)
	}
}

// P14.3: a name is as long as it says: what is left over, or not there, is wrong; a name that is there but isn't one of a tag is ErrName.
func TestFormOfNames(t *testing.T) {
	for _, kind := range []int{api.RecTag, api.RecUntag} {
		var rest []byte
		if kind == api.RecTag {
			rest = slices.Clone(sample[:])
		}
		with := func(length int, name string) []byte {
			return slices.Concat([]byte{byte(length)}, []byte(name), rest)
		}
		for _, size := range []int{0, 1, 2, 31, 32, 33, 64, 254, 255} {
			name := strings.Repeat("a", size)
			for _, length := range []int{0, 1, size - 33, size - 32, size - 31, size - 2, size - 1, size, size + 1, size + 2, size + 31, size + 32, size + 33, 32, 33, 255} {
				if length < 0 || length > 255 {
					continue
				}
				want := api.ErrForm
				if length == size {
					want = api.OK
					if size == 0 || size > 32 {
						want = api.ErrName
					}
				}
				checkData(t, kind, with(length, name), want)
			}
		}
		right, wrong := names()
		for _, name := range right {
			checkData(t, kind, with(len(name), name), api.OK)
		}
		for _, name := range wrong {
			if len(name) < 256 {
				checkData(t, kind, with(len(name), name), api.ErrName)
				checkData(t, kind, append(with(len(name), name), 'a'), api.ErrForm)
				if len(name) > 0 {
					checkData(t, kind, with(len(name)-1, name), api.ErrForm)
				}
			}
		}
		for length := range 256 {
			checkParse(t, frameOf(kind, 2, with(length, strings.Repeat("a", 32))), 0)
			checkParse(t, frameOf(kind, 2, []byte{byte(length)}), 0)
		}
	}
}

// P14.3: the first eight characters of a header are ErrForm if one of them is another one, also where its N would be ErrRange.
func TestFormOfHeaders(t *testing.T) {
	for _, n := range []uint64{1, 12, 0, api.MaxNumber + 1} {
		body := headerOf("stillage", n)
		for at := range 8 {
			for by := 1; by < 256; by++ {
				checkData(t, api.RecHeader, changed(body, at, byte(by)), api.ErrForm)
			}
		}
	}
	for _, mark := range []string{"Stillage", "STILLAGE", "stillag\x00", "\x00\x00\x00\x00\x00\x00\x00\x00", "egallits", "stillagee"[1:], "tsillage", "stillag", "tillage", "stillages", " stillage", "", "\x08stillage", "\x08stillag"} {
		checkData(t, api.RecHeader, headerOf(mark, 12), api.ErrForm)
	}
	checkData(t, api.RecHeader, append(headerOf("stillage", 12), headerOf("stillage", 12)...), api.ErrForm)
	checkData(t, api.RecHeader, append(headerOf("", 12), "stillage"...), api.ErrForm)
}

// P14.3: the N of a header is read from 8 bytes, of which none is left out.
func TestNumbersOfHeaders(t *testing.T) {
	for _, n := range []uint64{0, api.MaxNumber + 1, 1 << 31, 1<<31 - 1, 1<<31 + 12, 1 << 32, 1<<32 - 1, 1<<32 + 1, 1<<32 + 12, 1<<63 - 1, 1 << 63, 1<<63 + 1, 1<<63 + 12, math.MaxUint64, math.MaxUint64 - 1, math.MaxUint64 - 11} {
		checkData(t, api.RecHeader, headerOf("stillage", n), api.ErrRange)
		checkData(t, api.RecHeader, headerOf("stillage", n)[:15], api.ErrForm)
	}
	for bit := range 64 {
		n := uint64(1) << bit
		checkParse(t, frameOf(7, 1, headerOf("stillage", n)), 0)
		if bit >= 27 {
			checkData(t, api.RecHeader, headerOf("stillage", n), api.ErrRange)
			checkData(t, api.RecHeader, headerOf("stillage", n+1), api.ErrRange)
		}
	}
	for _, n := range []uint64{1, 2, 12, 255, 256, 257, 65536, 1 << 24, 0x01020304, api.MaxNumber - 1, api.MaxNumber} {
		b := frameOf(7, 6, headerOf("stillage", n))
		checkParsed(t, b, 0, api.Record{Kind: 7, Seq: 6, N: int(n)}, 37)
		checkParse(t, b, 0)
	}
}

// P14.3: the N and the Size of a commit and of a footer are read from 4 bytes each, and any may be.
func TestNumbersOfCommits(t *testing.T) {
	all := []uint32{0, 1, 3, 255, 256, 1 << 24, 0x01020304, 1<<31 - 1, 1 << 31, math.MaxUint32 - 1, math.MaxUint32}
	for _, kind := range []int{api.RecCommit, api.RecFooter} {
		for _, n := range all {
			for _, size := range all {
				b := frameOf(kind, 6, countsOf(n, size))
				checkParsed(t, b, 0, api.Record{Kind: kind, Seq: 6, N: int(n), Size: int(size)}, 29)
				checkParse(t, b, 0)
			}
		}
		for size := range 40 {
			want := api.ErrForm
			if size == 8 {
				want = api.OK
			}
			checkData(t, kind, make([]byte, size), want)
			checkData(t, kind, bytes.Repeat([]byte{255}, size), want)
		}
	}
}

// P14.3: records that stand one behind the other are read one after the other, each with the index behind it; no other index has one.
func TestRows(t *testing.T) {
	var b []byte
	var starts []int
	var rows []api.Record
	for _, kind := range append(slices.Clone(kinds), 5, 1, 4, 7, 6) {
		for _, r := range variants(kind)[:3] {
			f, _ := Make(r)
			starts, rows = append(starts, len(b)), append(rows, r)
			b = append(b, f...)
		}
	}
	at := 0
	for i, r := range rows {
		if at != starts[i] {
			t.Fatalf("record %d begins at %d, want %d", i, at, starts[i])
		}
		end := at + Size(r)
		checkParsed(t, b, at, kept(r), end)
		checkParsed(t, b[:end], at, kept(r), end)
		checkRefused(t, b[:end-1], at, api.ErrShort)
		at = end
	}
	checkRefused(t, b, at, api.ErrShort)
	for at := -2; at <= len(b)+2; at++ {
		if _, _, err := Parse(b, at); (err == api.OK) != slices.Contains(starts, at) {
			t.Errorf("at %d: %v", at, err)
		}
		checkParse(t, b, at)
	}
}

// P14.3: a frame with any bytes ahead of it and behind it, which count for nothing.
func TestBetweenOthers(t *testing.T) {
	for _, kind := range kinds {
		r := full(kind)
		b, _ := Make(r)
		for _, ahead := range [][]byte{nil, {0}, {9, 9}, b[:20], b, pattern(1000)} {
			for _, behind := range [][]byte{nil, {0}, {7}, b[1:], b, make([]byte, 70), pattern(1000)} {
				all := slices.Concat(ahead, b, behind)
				checkParsed(t, all, len(ahead), kept(r), len(ahead)+len(b))
				checkParse(t, all, len(ahead))
			}
		}
	}
}

// P14.3: indexes at the edges of b and outside of it.
func TestIndexes(t *testing.T) {
	for _, kind := range kinds {
		b, _ := Make(full(kind))
		n := len(b)
		for _, at := range []int{-1, -2, -n, -n - 1, n + 1, n + 2, n + 21, math.MinInt, math.MinInt + 1, math.MinInt32, math.MaxInt32, math.MaxInt, math.MaxInt - 1, math.MaxInt - 21} {
			checkRefused(t, b, at, api.ErrArg)
		}
		checkParsed(t, b, 0, kept(full(kind)), n)
		checkRefused(t, b, n-1, api.ErrShort)
		checkRefused(t, b, n, api.ErrShort)
		checkRefused(t, b, n-16, api.ErrShort)
		for at := range n {
			checkParse(t, b, at)
		}
	}
	for _, b := range [][]byte{nil, {}} {
		checkRefused(t, b, 0, api.ErrShort)
		checkRefused(t, b, 1, api.ErrArg)
		checkRefused(t, b, -1, api.ErrArg)
	}
}

// P14.3: each error of the frame, alone and together with data of a wrong form or a record that is not right, of which it is the first.
func TestErrorsOfFrames(t *testing.T) {
	for _, kind := range kinds {
		right := bodyOf(full(kind))
		wrong := [][]byte{nil, []byte("short"), append([]byte{0}, sample[:]...), []byte("\x02V1"), []byte("\x02v1x"), headerOf("stillage", 0), headerOf("stillagf", 1), make([]byte, 7), make([]byte, 9)}
		for _, data := range append(wrong, right) {
			b := frameOf(kind, 5, data)
			n := len(b)
			checkRefused(t, b, n+1, api.ErrArg)
			checkRefused(t, b, -1, api.ErrArg)
			for size := range n {
				checkRefused(t, b[:size], 0, api.ErrShort)
			}
			for at := range n {
				checkRefused(t, changed(b, at, 1), 0, api.ErrSum)
				checkRefused(t, changed(b, at, 128), 0, api.ErrSum)
			}
			for _, none := range []int{0, 9, 16, 128, 255} {
				checkRefused(t, frameOf(none, 5, data), 0, api.ErrForm)
				checkRefused(t, changed(frameOf(none, 5, data), 13, 1), 0, api.ErrSum)
				checkRefused(t, frameOf(none, 5, data)[:16], 0, api.ErrShort)
			}
		}
		checkRefused(t, frameOf(kind, 5, make([]byte, api.MaxSeg+1)), 0, api.ErrForm)
		checkRefused(t, changed(frameOf(kind, 5, make([]byte, api.MaxSeg+1)), 13, 1), 0, api.ErrSum)
		if kind != api.RecBlob && kind != api.RecManifest {
			checkRefused(t, frameOf(kind, 5, make([]byte, api.MaxSeg)), 0, api.ErrForm)
			checkRefused(t, changed(frameOf(kind, 5, make([]byte, api.MaxSeg)), 30000, 1), 0, api.ErrSum)
		}
	}
}

// P14.3: the form is looked at ahead of what is wrong with the record.
func TestFormAheadOfRight(t *testing.T) {
	for _, name := range []string{"V1", "", "a b"} {
		text := append([]byte{byte(len(name))}, name...)
		checkData(t, api.RecUntag, text, api.ErrName)
		checkData(t, api.RecUntag, append(slices.Clone(text), 0), api.ErrForm)
		checkData(t, api.RecTag, text, api.ErrForm)
		checkData(t, api.RecTag, append(slices.Clone(text), sample[1:]...), api.ErrForm)
		checkData(t, api.RecTag, append(slices.Clone(text), sample[:]...), api.ErrName)
		checkData(t, api.RecTag, append(append(slices.Clone(text), sample[:]...), 0), api.ErrForm)
	}
	for _, n := range []uint64{0, api.MaxNumber + 1, math.MaxUint64} {
		checkData(t, api.RecHeader, headerOf("stillage", n), api.ErrRange)
		checkData(t, api.RecHeader, append(headerOf("stillage", n), 0), api.ErrForm)
		checkData(t, api.RecHeader, headerOf("stillage", n)[:15], api.ErrForm)
		checkData(t, api.RecHeader, headerOf("stillagE", n), api.ErrForm)
	}
}

// P14.3: what a summary says of each kind, field by field.
func TestWord(t *testing.T) {
	l := api.Loc{Seg: 1, Off: 37, Len: 56}
	for _, c := range []api.Word{
		{Kind: 1, Digest: sample, Size: 3},
		{Kind: 2, Digest: sample, Size: 3},
		{Kind: 3, Digest: sample, Name: "v1"},
		{Kind: 4, Name: "v1"},
		{Kind: 5, Digest: sample},
		{Kind: 6, Size: 99},
		{Kind: 7},
		{Kind: 8, Size: 99},
	} {
		c.Seq, c.Loc = 77, l
		if got := Word(full(c.Kind), l); got != c {
			t.Errorf("%+v, want %+v", got, c)
		}
	}
	for _, kind := range noKinds {
		if got := Word(full(kind), l); got != (api.Word{Kind: kind, Seq: 77, Loc: l}) {
			t.Errorf("kind %d: %+v", kind, got)
		}
		checkWord(t, worst(kind), l)
		checkWord(t, api.Record{Kind: kind}, l)
	}
}

// P14.3: summaries of records that are not right, and at locations where none can be.
func TestWordOfAnything(t *testing.T) {
	right, wrong := names()
	for _, kind := range append(slices.Clone(kinds), noKinds...) {
		for _, l := range []api.Loc{{}, {Seg: 1, Off: 2, Len: 3}, {Seg: -1, Off: -2, Len: -3}, {Seg: math.MaxInt, Off: math.MinInt, Len: math.MaxInt - 1}} {
			for _, r := range []api.Record{{Kind: kind}, full(kind), worst(kind)} {
				checkWord(t, r, l)
			}
		}
		for _, seq := range seqs {
			checkWord(t, api.Record{Kind: kind, Seq: seq}, api.Loc{})
		}
		for _, size := range numbers {
			r := full(kind)
			r.Size = size
			checkWord(t, r, api.Loc{})
			r.N = size
			checkWord(t, r, api.Loc{})
			r.Data, r.Size = nil, 1
			checkWord(t, r, api.Loc{})
		}
		for _, name := range append(slices.Clone(right), wrong...) {
			r := full(kind)
			r.Name = name
			checkWord(t, r, api.Loc{})
		}
		for _, size := range []int{0, 1, 255, 256, 65504, 65505, 65536, 1 << 20} {
			r := full(kind)
			r.Data = make([]byte, size)
			checkWord(t, r, api.Loc{})
		}
	}
}

// P14.4: Parse of what Make answered is the record with zero values in the fields that its kind has not, and Make of that is the same frame.
func TestInverse(t *testing.T) {
	for _, kind := range kinds {
		for _, r := range variants(kind) {
			b, err := Make(r)
			if err != api.OK {
				t.Fatalf("%+v: %v", brief(r), err)
			}
			got, end, err := Parse(b, 0)
			if err != api.OK || end != len(b) || !same(got, kept(r)) {
				t.Errorf("%+v: %+v, %d, %v", brief(r), brief(got), end, err)
			}
			if err := Right(got); err != api.OK {
				t.Errorf("%+v: %v", brief(got), err)
			}
			if again, err := Make(got); err != api.OK || !bytes.Equal(again, b) {
				t.Errorf("%+v: %d bytes, %v", brief(got), len(again), err)
			}
			if Word(got, api.Loc{}) != Word(r, api.Loc{}) {
				t.Errorf("%+v: %+v", brief(got), Word(got, api.Loc{}))
			}
			checkRecord(t, got)
		}
	}
}

// P14.4: two records that differ in what belongs to their kind have two frames, and two that don't have one.
func TestFramesOfOneRecord(t *testing.T) {
	var all []api.Record
	for _, kind := range kinds {
		all = append(all, variants(kind)...)
	}
	frames := make([][]byte, len(all))
	for i, r := range all {
		frames[i], _ = Make(r)
	}
	for i, r := range all {
		for j, s := range all {
			if bytes.Equal(frames[i], frames[j]) != same(kept(r), kept(s)) {
				t.Errorf("%+v and %+v", brief(r), brief(s))
			}
		}
	}
}

// P14.2, P14.3, P14.4: samples of records, and of bytes that are nearly some, held against the words of the chapter.
func TestSamples(t *testing.T) {
	r := rand.New(rand.NewPCG(14, 4))
	counts := map[api.Errno]int{}
	for range 20000 {
		checkRecord(t, anything(r))
		kind := r.IntN(10)
		data := anyBody(r)
		b := frameOf(kind, r.Uint64(), data)
		if r.IntN(8) == 0 {
			b = changed(b, r.IntN(len(b)), byte(1<<r.IntN(8)))
		}
		if r.IntN(8) == 0 {
			b = b[:r.IntN(len(b)+1)]
		}
		ahead := r.IntN(3)
		b = slices.Concat(pattern(ahead), b, pattern(r.IntN(3)))
		at := ahead
		if r.IntN(10) == 0 {
			at = r.IntN(len(b)+3) - 1
		}
		counts[checkParse(t, b, at)]++
	}
	for _, err := range []api.Errno{api.OK, api.ErrArg, api.ErrShort, api.ErrSum, api.ErrForm, api.ErrName, api.ErrRange} {
		if counts[err] < 50 {
			t.Errorf("%v came up %d times only", err, counts[err])
		}
	}
}

// anything answers any record.
func anything(r *rand.Rand) api.Record {
	right, wrong := names()
	out := api.Record{Kind: r.IntN(11) - 1, Seq: r.Uint64() >> r.IntN(64), Digest: digestFrom(r.IntN(256)), Data: pattern(r.IntN(80)), N: numbers[r.IntN(len(numbers))], Size: numbers[r.IntN(len(numbers))]}
	out.Name = right[r.IntN(len(right))]
	if r.IntN(3) == 0 {
		out.Name = wrong[r.IntN(len(wrong))]
	}
	if r.IntN(2) == 0 {
		out.N, out.Size = r.IntN(1<<28), r.IntN(1<<33)
	}
	return out
}

// anyBody answers the data of some record, and sometimes a few bytes more or less, or another one.
func anyBody(r *rand.Rand) []byte {
	from := anything(r)
	from.Name = from.Name[:min(len(from.Name), 255)]
	from.Kind = r.IntN(8) + 1
	out := bodyOf(from)
	switch r.IntN(6) {
	case 0:
		out = out[:r.IntN(len(out)+1)]
	case 1:
		out = append(out, pattern(r.IntN(40))...)
	case 2:
		if len(out) > 0 {
			out = changed(out, r.IntN(len(out)), byte(1+r.IntN(255)))
		}
	}
	return out
}

// R3: what came in is as it was behind each call, with the memory behind it.
func TestArgumentsStay(t *testing.T) {
	for _, kind := range append(slices.Clone(kinds), 0, 9, -1) {
		for _, size := range []int{0, 1, 300, api.MaxSeg - 32, api.MaxSeg} {
			room := pattern(size + 200)
			was := slices.Clone(room)
			r := full(kind)
			r.Data = room[:size]
			Right(r)
			Size(r)
			Word(r, api.Loc{})
			b, _ := Make(r)
			spoil(b)
			if !bytes.Equal(room, was) || !same(r, api.Record{Kind: kind, Seq: 77, Digest: sample, Name: "v1", Data: was[:size], N: 3, Size: 99}) {
				t.Errorf("kind %d: %d bytes of Data were changed, or what is behind them", kind, size)
			}
		}
		for _, data := range [][]byte{nil, bodyOf(full(kind)), pattern(40), append([]byte("\x02v1"), pattern(70)...)} {
			b := frameOf(kind, 5, data)
			room := append(slices.Clone(b), pattern(200)...)
			was := slices.Clone(room)
			for at := -1; at <= len(b)+1; at++ {
				r, _, _ := Parse(room[:len(b)], at)
				spoil(r.Data)
				if !bytes.Equal(room, was) {
					t.Fatalf("Parse at %d changed % x, or what is behind it", at, b)
				}
			}
		}
	}
}

// R3: an answer is of its own: what is done to the argument behind the call does not change it, nor what is done to another answer.
func TestAnswersAreNew(t *testing.T) {
	for _, kind := range kinds {
		for _, size := range []int{0, 1, 4, 300, api.MaxSeg - 32} {
			r := full(kind)
			r.Data = pattern(size)
			first, _ := Make(r)
			want := slices.Clone(first)
			second, _ := Make(r)
			spoil(r.Data)
			spoil(second)
			if !bytes.Equal(first, want) {
				t.Errorf("kind %d: the frame of %d bytes of Data was changed", kind, size)
			}
			one, _, _ := Parse(first, 0)
			two, _, _ := Parse(first, 0)
			spoil(two.Data)
			spoil(first)
			r.Data = pattern(size)
			if !same(one, kept(r)) {
				t.Errorf("kind %d: the record of %d bytes of Data was changed", kind, size)
			}
		}
	}
}

// R4: the answers do not hang on earlier calls.
func TestAnswersDoNotHangOnEarlierOnes(t *testing.T) {
	var all []api.Record
	for _, kind := range append(slices.Clone(kinds), 0, 9) {
		all = append(all, full(kind), api.Record{Kind: kind}, api.Record{Kind: kind, Digest: digestFrom(9), Name: "a", Data: []byte("d"), N: 1})
	}
	for _, a := range all {
		for _, b := range all {
			checkRecord(t, a)
			checkRecord(t, b)
			checkRefused(t, frameOf(b.Kind, 1, []byte("x")), 0, api.ErrForm)
			checkRecord(t, a)
		}
	}
}
