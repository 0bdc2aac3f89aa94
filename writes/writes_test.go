package writes

import (
	"bytes"
	"math"
	"reflect"
	"slices"
	"strconv"
	"strings"
	"testing"

	"stillage/api"
)

// most is the length of the longest file.
const most = 1048576

var abcdef = []byte("abcdef")

// offsets are valid and other offsets: those around 0, around the longest file, and around what an int holds.
var offsets = []int{
	math.MinInt, math.MinInt + 1, math.MinInt + most, math.MinInt32, -most - 1, -most, -most + 1, -257, -256, -255, -2, -1,
	0, 1, 2, 5, 6, 7, 254, 255, 256, 257, 65535, 65536,
	most - 301, most - 300, most - 299, most - 2, most - 1, most, most + 1, 2 * most, math.MaxInt32, math.MaxInt32 + 1, 1 << 32, 1<<32 + 1,
	math.MaxInt - most, math.MaxInt - 300, math.MaxInt - 1, math.MaxInt,
}

// sizes are lengths of Data.
var sizes = []int{0, 1, 2, 3, 6, 254, 255, 256, 257, 300, most - 1, most, most + 1, 2 * most}

// P9.1: ordinary changes, and the offsets that are just valid and just not, for writes and for Cuts, with Data and without.
func TestRight(t *testing.T) {
	for _, c := range []struct {
		off, size int
		want      bool
	}{
		{0, 0, true}, {0, 1, true}, {6, 2, true}, {1, 300, true}, {-1, 0, false}, {-1, 1, false}, {-1, 2, false}, {-300, 300, false},
		{1048576, 0, true}, {1048575, 0, true}, {1048577, 0, false},
		{1048575, 1, true}, {1048576, 1, false}, {1048574, 1, true}, {1048577, 1, false},
		{1048574, 2, true}, {1048575, 2, false}, {1048576, 2, false},
		{1048276, 300, true}, {1048277, 300, false},
		{1, 1048575, true}, {2, 1048575, false}, {0, 1048575, true}, {-1, 1048575, false},
		{0, 1048576, true}, {1, 1048576, false}, {-1, 1048576, false},
		{0, 1048577, false}, {-1, 1048577, false}, {-2, 1048577, false}, {1, 1048577, false}, {math.MinInt, 1048577, false},
		{math.MinInt, 0, false}, {math.MinInt, 1, false}, {math.MaxInt, 0, false}, {math.MaxInt, 1, false}, {math.MaxInt - 1, 2, false}, {math.MaxInt - 300, 301, false},
	} {
		for _, cut := range []bool{false, true} {
			if got := Right(api.Write{Cut: cut, Off: c.off, Data: make([]byte, c.size)}); got != c.want {
				t.Errorf("Right of %d bytes at %d (a Cut: %v) = %v", c.size, c.off, cut, got)
			}
		}
	}
	for _, cut := range []bool{false, true} {
		if !Right(api.Write{Cut: cut, Off: most, Data: nil}) || !Right(api.Write{Cut: cut, Off: most, Data: []byte{}}) {
			t.Errorf("no bytes at the end of the longest file are not Right (a Cut: %v)", cut)
		}
	}
}

// P9.1: each offset with each length of Data.
func TestRightOfAll(t *testing.T) {
	for _, off := range offsets {
		for _, size := range sizes {
			for _, cut := range []bool{false, true} {
				w := api.Write{Cut: cut, Off: off, Data: make([]byte, size)}
				if got := Right(w); got != isRight(w) {
					t.Errorf("Right of %d bytes at %d (a Cut: %v) = %v", size, off, cut, got)
				}
			}
		}
	}
}

// P9.1: ordinary writes and Cuts, and those around the end of the contents.
func TestApply(t *testing.T) {
	for _, c := range []struct {
		b    string
		w    api.Write
		want string
	}{
		{"abc", write(4, "xy"), "abc\x00xy"},
		{"abc", write(0, "xy"), "xyc"},
		{"abc", write(0, "x"), "xbc"},
		{"abc", write(1, "x"), "axc"},
		{"abc", write(2, "x"), "abx"},
		{"abc", write(3, "x"), "abcx"},
		{"abc", write(4, "x"), "abc\x00x"},
		{"abc", write(2, "xyz"), "abxyz"},
		{"abc", write(0, "vwxyz"), "vwxyz"},
		{"abc", write(0, "xyz"), "xyz"},
		{"abc", write(8, "x"), "abc\x00\x00\x00\x00\x00x"},
		{"abc", write(1, "\x00"), "a\x00c"},
		{"abc", write(3, "\x00\x00"), "abc\x00\x00"},
		{"abc", write(3, "\xff\x80"), "abc\xff\x80"},
		{"", write(0, "x"), "x"},
		{"", write(2, "x"), "\x00\x00x"},
		{"abc", cut(0), ""},
		{"abc", cut(1), "a"},
		{"abc", cut(2), "ab"},
		{"abc", cut(3), "abc"},
		{"abc", cut(4), "abc"},
		{"abc", cut(most), "abc"},
		{"", cut(0), ""},
		{"", cut(1), ""},
	} {
		checkApply(t, []byte(c.b), c.w, c.want)
	}
}

// P9.1: changes that leave the contents as they are: writes of no bytes wherever they are, and what is not Right.
func TestApplyOfNone(t *testing.T) {
	for _, b := range []string{"abcdef", "a", ""} {
		for _, off := range offsets {
			checkApply(t, []byte(b), api.Write{Off: off}, b)
			checkApply(t, []byte(b), api.Write{Off: off, Data: []byte{}}, b)
		}
		for _, off := range []int{math.MinInt, -most - 1, -7, -6, -2, -1, most, most + 1, math.MaxInt - 1, math.MaxInt} {
			checkApply(t, []byte(b), write(off, "x"), b)
			checkApply(t, []byte(b), write(off, "xyz"), b)
		}
		checkApply(t, []byte(b), write(most-1, "xy"), b)
		checkApply(t, []byte(b), write(most-2, "xyz"), b)
		checkApply(t, []byte(b), write(most-299, strings.Repeat("x", 300)), b)
		checkApply(t, []byte(b), write(0, strings.Repeat("x", most+1)), b)
		checkApply(t, []byte(b), write(1, strings.Repeat("x", most)), b)
		for _, off := range []int{math.MinInt, -most, -7, -6, -1, most + 1, math.MaxInt} {
			checkApply(t, []byte(b), cut(off), b)
		}
	}
}

// P9.1: a Cut with Data writes nothing of it, but is Right only where the Data would fit.
func TestApplyOfCutWithData(t *testing.T) {
	for _, c := range []struct {
		off, size int
		want      string
	}{
		{0, 1, ""}, {0, 6, ""}, {2, 1, "ab"}, {2, 300, "ab"}, {6, 2, "abcdef"}, {7, 2, "abcdef"}, {9, 1, "abcdef"}, {-1, 1, "abcdef"}, {-1, 300, "abcdef"},
		{0, most, ""}, {0, most + 1, "abcdef"}, {1, most - 1, "a"}, {1, most, "abcdef"}, {2, most - 2, "ab"}, {2, most - 1, "abcdef"}, {most, 1, "abcdef"}, {most - 1, 1, "abcdef"},
	} {
		checkApply(t, abcdef, api.Write{Cut: true, Off: c.off, Data: bytes.Repeat([]byte{'x'}, c.size)}, c.want)
	}
}

// P9.1: each offset with each length of Data, on contents of several lengths up to the longest ones, and longer ones than a file has.
func TestApplyOfAll(t *testing.T) {
	for _, length := range []int{0, 6, 300, most - 1, most, most + 1} {
		b := pattern(length, 1)
		for _, off := range []int{math.MinInt, -most, -1, 0, 1, 6, 300, most - 300, most - 1, most, most + 1, math.MaxInt} {
			for _, size := range []int{0, 1, 300, most - 1, most, most + 1} {
				for _, cut := range []bool{false, true} {
					w := api.Write{Cut: cut, Off: off, Data: pattern(size, 100)}
					if got := Apply(b, w); !bytes.Equal(got, after(b, w)) {
						t.Fatalf("%d bytes after %d bytes at %d (a Cut: %v) are %d others", length, size, off, cut, len(got))
					}
				}
			}
		}
	}
}

// P9.1: contents of the greatest length, and a gap of that length but for one byte.
func TestApplyOfLongest(t *testing.T) {
	got := Apply([]byte{7}, api.Write{Off: most - 1, Data: []byte{9}})
	if len(got) != most || got[0] != 7 || got[most-1] != 9 || bytes.Count(got, []byte{0}) != most-2 {
		t.Errorf("a gap of the greatest length is not of bytes 0: %d bytes", len(got))
	}
	full := bytes.Repeat([]byte{5}, most)
	checkApply(t, nil, api.Write{Data: full}, string(full))
	checkApply(t, full, api.Write{Cut: true, Off: most}, string(full))
	checkApply(t, full, api.Write{Cut: true, Off: most - 1}, string(full[1:]))
	checkApply(t, full, write(most-1, "x"), string(full[1:])+"x")
	checkApply(t, full, write(most, "x"), string(full))
}

// P9.1: rows of changes in order; a gap behind a Cut is of bytes 0, whatever stood there.
func TestAll(t *testing.T) {
	for _, c := range []struct {
		b    string
		l    []api.Write
		want string
	}{
		{"abcdef", []api.Write{write(6, "gh"), cut(2), write(4, "xyz")}, "ab\x00\x00xyz"},
		{"abcdef", []api.Write{cut(2), write(6, "gh"), write(4, "xyz")}, "ab\x00\x00xyzh"},
		{"abcdef", []api.Write{write(4, "xyz"), write(6, "gh"), cut(2)}, "ab"},
		{"abcdef", []api.Write{write(0, "x"), write(0, "y")}, "ybcdef"},
		{"abcdef", []api.Write{write(0, "y"), write(0, "x")}, "xbcdef"},
		{"abcdef", []api.Write{write(0, "xyz"), write(1, "q")}, "xqzdef"},
		{"abcdef", []api.Write{write(1, "q"), write(0, "xyz")}, "xyzdef"},
		{"abcdef", []api.Write{cut(0), write(3, "x")}, "\x00\x00\x00x"},
		{"abcdef", []api.Write{cut(0), write(5, "x"), cut(5)}, "\x00\x00\x00\x00\x00"},
		{"abcdef", []api.Write{cut(3), cut(5)}, "abc"},
		{"abcdef", []api.Write{cut(5), cut(3), write(5, "x"), cut(4), write(6, "y")}, "abc\x00\x00\x00y"},
		{"abcdef", []api.Write{cut(2), write(4, "")}, "ab"},
		{"abcdef", []api.Write{write(-1, "x"), cut(-1), cut(most + 1), write(most, "x"), write(6, "g")}, "abcdefg"},
		{"abcdef", []api.Write{cut(0), write(-1, "x"), write(1, "x"), cut(most + 1)}, "\x00x"},
		{"abcdef", []api.Write{{Cut: true, Off: 3, Data: []byte("xyz")}, write(3, "q")}, "abcq"},
		{"", []api.Write{write(0, "a"), write(1, "b"), write(2, "c")}, "abc"},
		{"", []api.Write{cut(0), cut(1)}, ""},
		{"abcdef", nil, "abcdef"},
		{"abcdef", []api.Write{}, "abcdef"},
		{"abcdef", []api.Write{{}}, "abcdef"},
		{"abcdef", []api.Write{{}, {}, {}}, "abcdef"},
	} {
		checkAll(t, []byte(c.b), c.l, c.want)
	}
	for _, b := range [][]byte{nil, {}} {
		checkAll(t, b, nil, "")
		checkAll(t, b, []api.Write{}, "")
		checkAll(t, b, []api.Write{write(1, "x")}, "\x00x")
	}
}

// P9.1: many changes, which grow contents to the greatest length and cut them again.
func TestAllOfMany(t *testing.T) {
	var l []api.Write
	b := abcdef
	want := bytes.Clone(b)
	for i := range 2000 {
		l = append(l, api.Write{Off: 6 + 300*i, Data: pattern(300, byte(i))})
		want = append(want, pattern(300, byte(i))...)
	}
	checkAll(t, b, l, string(want))
	for i := range 2000 {
		l = append(l, cut(len(want)-i))
	}
	want = want[:len(want)-1999]
	checkAll(t, b, l, string(want))
	l = append(l, write(most-1, "z"))
	want = append(want, make([]byte, most-1-len(want))...)
	checkAll(t, b, l, string(want)+"z")
	checkAll(t, b, append(l, write(most, "z"), cut(0)), "")
}

// P9.2: ordinary choices, and those that are nil, shorter and longer than the changes.
func TestSurvive(t *testing.T) {
	l := []api.Write{write(6, "gh"), cut(2), write(4, "xyz")}
	for _, c := range []struct {
		choice []byte
		want   string
	}{
		{nil, "abcdef"},
		{[]byte{}, "abcdef"},
		{[]byte{0}, "abcdef"},
		{[]byte{0, 0, 0}, "abcdef"},
		{[]byte{0, 0, 0, 255, 255}, "abcdef"},
		{[]byte{1}, "abcdefg"},
		{[]byte{2}, "abcdefgh"},
		{[]byte{3}, "abcdefgh"},
		{[]byte{9}, "abcdefgh"},
		{[]byte{254}, "abcdefgh"},
		{[]byte{255}, "abcdefgh"},
		{[]byte{255, 0, 2}, "abcdxygh"},
		{[]byte{255, 0, 2, 255, 1}, "abcdxygh"},
		{[]byte{1, 0, 255}, "abcdxyz"},
		{[]byte{0, 1}, "ab"},
		{[]byte{0, 2}, "ab"},
		{[]byte{0, 128}, "ab"},
		{[]byte{0, 254}, "ab"},
		{[]byte{0, 255}, "ab"},
		{[]byte{255, 1}, "ab"},
		{[]byte{0, 7, 255}, "ab\x00\x00xyz"},
		{[]byte{255, 255, 255}, "ab\x00\x00xyz"},
		{[]byte{2, 1, 3}, "ab\x00\x00xyz"},
		{[]byte{2, 1, 1}, "ab\x00\x00x"},
		{[]byte{2, 1, 0}, "ab"},
		{[]byte{0, 0, 1}, "abcdxf"},
		{[]byte{0, 0, 2}, "abcdxy"},
		{[]byte{0, 0, 3}, "abcdxyz"},
	} {
		checkSurvive(t, abcdef, l, c.choice, c.want)
	}
	for _, choice := range [][]byte{nil, {}, {0}, {1}, {255}, {255, 1, 0}} {
		checkSurvive(t, abcdef, nil, choice, "abcdef")
		checkSurvive(t, abcdef, []api.Write{}, choice, "abcdef")
		checkSurvive(t, nil, nil, choice, "")
		checkSurvive(t, []byte{}, []api.Write{}, choice, "")
	}
}

// P9.2: each choice of a write, whose Data are shorter than, as long as and longer than the greatest choice.
func TestSurviveOfEachChoice(t *testing.T) {
	for _, size := range []int{0, 1, 2, 3, 127, 128, 129, 253, 254, 255, 256, 257, 300, 512, 1000} {
		data := pattern(size, 33)
		for _, off := range []int{0, 3, 6, 9, 2000} {
			w := api.Write{Off: off, Data: data}
			for c := range 256 {
				n := min(c, size)
				if c == 255 {
					n = size
				}
				want := after(abcdef, api.Write{Off: off, Data: data[:n]})
				if got := Survive(abcdef, []api.Write{w}, []byte{byte(c)}); !bytes.Equal(got, want) {
					t.Fatalf("of %d bytes at %d, the choice %d leaves %d bytes, want %d", size, off, c, len(got), len(want))
				}
			}
		}
	}
}

// P9.2: of 254, 255, 256 and 300 bytes the choice 254 leaves 254, and the choice 255 leaves all.
func TestSurviveOfGreatChoices(t *testing.T) {
	// The same at the end of the longest file, where each byte that survives makes the contents longer.
	for _, size := range []int{1, 254, 255, 256, 300} {
		for _, c := range []int{0, 1, size - 1, size, 253, 254, 255} {
			w := api.Write{Off: most - size, Data: pattern(size, 9)}
			if got, want := Survive(abcdef, []api.Write{w}, []byte{byte(c)}), left(abcdef, []api.Write{w}, []byte{byte(c)}); !bytes.Equal(got, want) {
				t.Errorf("of %d bytes at the end of the longest file, the choice %d leaves %d bytes, want %d", size, c, len(got), len(want))
			}
		}
	}
	for _, c := range []struct{ size, choice, want int }{
		{254, 0, 0}, {254, 1, 1}, {254, 253, 253}, {254, 254, 254}, {254, 255, 254},
		{255, 0, 0}, {255, 1, 1}, {255, 253, 253}, {255, 254, 254}, {255, 255, 255},
		{256, 0, 0}, {256, 1, 1}, {256, 253, 253}, {256, 254, 254}, {256, 255, 256},
		{300, 0, 0}, {300, 1, 1}, {300, 44, 44}, {300, 254, 254}, {300, 255, 300},
		{most, 0, 0}, {most, 1, 1}, {most, 254, 254}, {most, 255, most},
	} {
		w := api.Write{Data: bytes.Repeat([]byte{'x'}, c.size)}
		checkSurvive(t, nil, []api.Write{w}, []byte{byte(c.choice)}, strings.Repeat("x", c.want))
	}
}

// P9.2: a Cut survives whole by each choice but 0, with Data and without, at and around the end of the contents.
func TestSurviveOfCuts(t *testing.T) {
	for _, off := range []int{0, 1, 5, 6, 7, 255, 256, most - 300, most} {
		for _, size := range []int{0, 1, 254, 255, 256, 300} {
			w := api.Write{Cut: true, Off: off, Data: pattern(size, 1)}
			for c := range 256 {
				want := "abcdef"
				if c > 0 && off+size <= most {
					want = want[:min(off, 6)]
				}
				checkSurvive(t, abcdef, []api.Write{w}, []byte{byte(c)}, want)
			}
		}
	}
}

// P9.2: what is not Right survives in no part, though a part of it might be Right, and its choice is spent on it.
func TestSurviveOfNotRight(t *testing.T) {
	wrong := []api.Write{
		write(-1, "x"), write(-1, "xyz"), write(math.MinInt, "xyz"), write(most, "x"), write(most-1, "xy"), write(most-2, "xyz"), write(math.MaxInt, "x"),
		{Data: make([]byte, most+1)}, {Off: 1, Data: make([]byte, most)}, {Off: most - 100, Data: make([]byte, 101)}, {Off: -1}, {Off: most + 1},
		cut(-1), cut(most + 1), cut(math.MinInt), cut(math.MaxInt),
		{Cut: true, Off: 0, Data: make([]byte, most+1)}, {Cut: true, Off: 2, Data: make([]byte, most-1)},
	}
	for i, w := range wrong {
		for c := range 256 {
			if got := Survive(abcdef, []api.Write{w}, []byte{byte(c)}); !bytes.Equal(got, abcdef) {
				t.Fatalf("the change %d, which is not Right, leaves %q by the choice %d", i, got[:min(len(got), 20)], c)
			}
		}
		l := []api.Write{w, write(6, "ghi"), w, write(0, "ABC"), w}
		checkSurvive(t, abcdef, l, []byte{255, 2, 1, 1, 255}, "Abcdefgh")
		checkSurvive(t, abcdef, l, []byte{0, 255, 0, 2}, "ABcdefghi")
		checkSurvive(t, abcdef, l, []byte{255, 0, 255, 0, 255}, "abcdef")
	}
}

// P9.2: a write of which no byte survives leaves no gap either.
func TestSurviveLeavesNoGap(t *testing.T) {
	checkSurvive(t, abcdef, []api.Write{write(9, "xyz")}, []byte{0}, "abcdef")
	checkSurvive(t, abcdef, []api.Write{write(9, "xyz")}, nil, "abcdef")
	checkSurvive(t, abcdef, []api.Write{write(9, "")}, []byte{255}, "abcdef")
	checkSurvive(t, abcdef, []api.Write{write(9, "xyz")}, []byte{1}, "abcdef\x00\x00\x00x")
	checkSurvive(t, abcdef, []api.Write{write(most-3, "xyz"), write(7, "q")}, []byte{0, 1}, "abcdef\x00q")
	checkSurvive(t, nil, []api.Write{write(most, "")}, []byte{255}, "")
}

// P9.3: ordinary changes, and those that a file's greatest length does not depend on.
func TestPeak(t *testing.T) {
	l := []api.Write{write(6, "gh"), cut(2), write(4, "xyz")}
	for _, c := range []struct {
		n    int
		l    []api.Write
		want int
	}{
		{6, l, 8}, {9, l, 9}, {7, l, 8}, {8, l, 8}, {0, l, 8}, {-1, l, 8}, {math.MinInt, l, 8}, {math.MaxInt, l, math.MaxInt}, {most, l, most}, {most + 1, l, most + 1},
		{6, l[:1], 8}, {6, l[1:], 7}, {6, l[1:2], 6}, {6, l[2:], 7},
		{0, []api.Write{write(1, "a"), write(5, "b"), write(3, "c")}, 6},
		{0, []api.Write{write(5, "a"), write(3, "bcdef"), write(7, "g")}, 8},
		{0, []api.Write{write(4, "xyz"), cut(0), write(0, "a")}, 7},
		{0, []api.Write{cut(9), cut(most)}, 0},
		{0, []api.Write{{Cut: true, Off: 4, Data: []byte("xyz")}}, 0},
		{5, []api.Write{{Cut: true, Off: 4, Data: []byte("xyz")}, write(4, "xy")}, 6},
		{0, []api.Write{write(9, ""), {Off: 12}, {Off: most, Data: []byte{}}}, 0},
		{6, []api.Write{write(9, ""), {Off: 12}, {Off: most, Data: []byte{}}}, 6},
		{0, []api.Write{write(-1, "xyz"), write(-2, "xyz"), write(-1, "x"), write(math.MinInt, "x")}, 0},
		{-5, []api.Write{write(-1, "xyz"), write(-2, "x")}, -5},
		{0, []api.Write{write(most, "x"), write(most-1, "xy"), write(math.MaxInt, "x"), write(math.MaxInt-1, "xy")}, 0},
		{2, []api.Write{write(most, "x"), write(1, "xy"), write(-1, "x")}, 3},
		{0, []api.Write{write(most-1, "x")}, most}, {0, []api.Write{write(most-2, "x")}, most - 1}, {0, []api.Write{write(most-2, "xy")}, most},
		{0, []api.Write{write(most-300, strings.Repeat("x", 300))}, most}, {0, []api.Write{write(most-299, strings.Repeat("x", 300))}, 0},
		{0, []api.Write{write(0, strings.Repeat("x", most))}, most}, {0, []api.Write{write(0, strings.Repeat("x", most+1))}, 0}, {0, []api.Write{write(1, strings.Repeat("x", most))}, 0},
		{0, []api.Write{write(0, strings.Repeat("x", 255))}, 255}, {0, []api.Write{write(0, strings.Repeat("x", 256))}, 256}, {0, []api.Write{write(7, strings.Repeat("x", 300))}, 307},
	} {
		checkPeak(t, c.n, c.l, c.want)
	}
}

// P9.3: no changes at all, and such as change nothing, leave each length as it is; a change that does makes the maximum.
func TestPeakOfLengths(t *testing.T) {
	for _, n := range offsets {
		checkPeak(t, n, nil, n)
		checkPeak(t, n, []api.Write{}, n)
		checkPeak(t, n, []api.Write{{}, {Off: -1}, cut(0), cut(most)}, n)
		checkPeak(t, n, []api.Write{write(6, "gh")}, max(n, 8))
		for _, off := range offsets {
			for _, size := range []int{0, 1, 300, most} {
				w := api.Write{Off: off, Data: make([]byte, size)}
				want := n
				if isRight(w) && size > 0 {
					want = max(n, off+size)
				}
				checkPeak(t, n, []api.Write{w}, want)
				w.Cut = true
				checkPeak(t, n, []api.Write{w}, n)
			}
		}
	}
}

// P9.1, P9.2 and P9.4: every row of up to three of some small changes, with every choice of some small ones, on contents of several lengths.
func TestRowsOfChanges(t *testing.T) {
	choices := rows([]byte{0, 1, 2, 255}, 4)
	for _, l := range rows(smallChanges(), 3) {
		for _, b := range [][]byte{nil, []byte("ab"), []byte("abcde")} {
			all := Survive(b, l, []byte{255, 255, 255})
			if want := afterAll(b, l); !bytes.Equal(All(b, l), want) || !bytes.Equal(all, want) {
				t.Fatalf("%q after all of %v is %q, of which all survives %q, want %q", b, l, All(b, l), all, want)
			}
			peak := Peak(len(b), l)
			for _, choice := range choices {
				if len(choice) > len(l)+1 {
					break
				}
				got := Survive(b, l, choice)
				if want := left(b, l, choice); !bytes.Equal(got, want) {
					t.Fatalf("%q after what survives of %v by %v is %q, want %q", b, l, choice, got, want)
				}
				if len(got) > peak {
					t.Fatalf("%q after what survives of %v by %v is %q, but the Peak is %d", b, l, choice, got, peak)
				}
			}
			if got := Survive(b, l, make([]byte, len(l))); !bytes.Equal(got, b) {
				t.Fatalf("%q after nothing of %v is %q", b, l, got)
			}
		}
	}
}

// P9.3: the Peak is not only a bound, but the greatest of the lengths that a file really can have, and no later change makes it less.
func TestPeakIsReached(t *testing.T) {
	choices := rows([]byte{0, 1, 2, 255}, 3)
	for _, l := range rows(smallChanges(), 3) {
		for _, b := range [][]byte{nil, []byte("ab"), []byte("abcde")} {
			longest := len(b)
			for _, choice := range choices {
				for first := range len(l) + 1 {
					longest = max(longest, len(left(b, l[:first], choice)))
				}
			}
			if got := Peak(len(b), l); got != longest {
				t.Fatalf("the Peak of %q with %v is %d, want %d", b, l, got, longest)
			}
		}
	}
}

// P9.4: with long Data and long contents, all that survives is All, nothing that survives is the contents, and the Peak bounds the rest.
func TestSurviveAndAll(t *testing.T) {
	for _, size := range []int{1, 2, 253, 254, 255, 256, 257, 300, 1000} {
		for _, length := range []int{0, 1, 6, 300, 5000} {
			b := pattern(length, 5)
			l := []api.Write{
				{Off: length - 3, Data: pattern(size, 1)}, {Off: length, Data: pattern(size, 2)}, {Cut: true, Off: length / 2}, {Off: length/2 + 7, Data: pattern(size, 3)},
				{Cut: true, Off: length / 3, Data: pattern(size, 4)}, {Off: -size, Data: pattern(size, 6)}, {Off: 0, Data: pattern(size, 7)}, {Off: 2 * size, Data: pattern(size/2, 8)},
			}
			full, none := bytes.Repeat([]byte{255}, len(l)), make([]byte, len(l))
			if want := afterAll(b, l); !bytes.Equal(All(b, l), want) || !bytes.Equal(Survive(b, l, full), want) {
				t.Errorf("%d bytes with Data of %d: all changes do not leave the same", length, size)
			}
			if !bytes.Equal(Survive(b, l, none), b) || !bytes.Equal(Survive(b, l, nil), b) {
				t.Errorf("%d bytes with Data of %d: no changes do not leave the same", length, size)
			}
			peak := Peak(length, l)
			for c := range 256 {
				choice := []byte{byte(c), byte(255 - c), byte(c % 3), byte(c), byte(c % 2), 255, byte(c), byte(255 - c)}
				if got := Survive(b, l, choice); len(got) > peak || !bytes.Equal(got, left(b, l, choice)) {
					t.Fatalf("%d bytes with Data of %d leave %d by %v, with a Peak of %d", length, size, len(got), choice, peak)
				}
			}
		}
	}
}

// P9.4: Data that fit into their choices survive whole by their own lengths as well.
func TestSurviveByLengths(t *testing.T) {
	for _, l := range rows(smallChanges(), 3) {
		choice := make([]byte, len(l))
		for i, w := range l {
			choice[i] = max(byte(len(w.Data)), 1)
		}
		if got, want := Survive(abcdef, l, choice), All(abcdef, l); !bytes.Equal(got, want) {
			t.Fatalf("%v leaves %q by %v, want %q", l, got, choice, want)
		}
	}
}

// R3: what comes in is as it was behind each call, with the spare bytes behind it, and an answer is new memory: whatever is done to it, what came in stays, and whatever is done to that, the answer stays.
func TestArgumentsStay(t *testing.T) {
	for name, call := range map[string]func(given) []byte{
		"Right":   func(g given) []byte { return []byte{asByte(Right(first(g.l)))} },
		"Apply":   func(g given) []byte { return Apply(g.b, first(g.l)) },
		"All":     func(g given) []byte { return All(g.b, g.l) },
		"Survive": func(g given) []byte { return Survive(g.b, g.l, g.choice) },
		"Peak":    func(g given) []byte { return []byte{byte(Peak(len(g.b), g.l))} },
	} {
		for _, l := range rows(smallChanges(), 2) {
			for _, b := range []string{"", "ab", "abcde"} {
				for _, choice := range [][]byte{nil, {1}, {2, 255}, {255, 1, 7}} {
					checkStays(t, name, call, []byte(b), l, choice)
				}
			}
		}
	}
}

// R3: nil and empty contents and Data are the same: where there is nothing, no change that writes nothing makes something.
func TestNilAndEmpty(t *testing.T) {
	for _, b := range [][]byte{nil, {}} {
		for _, data := range [][]byte{nil, {}} {
			for _, off := range offsets {
				for _, c := range []bool{false, true} {
					w := api.Write{Cut: c, Off: off, Data: data}
					checkApply(t, b, w, "")
					checkAll(t, b, []api.Write{w, w}, "")
					checkSurvive(t, b, []api.Write{w, w}, []byte{255, 1}, "")
					checkPeak(t, 3, []api.Write{w, w}, 3)
				}
			}
		}
	}
}

// first answers the first change of l, or one that changes nothing.
func first(l []api.Write) api.Write {
	if len(l) == 0 {
		return api.Write{}
	}
	return l[0]
}

// given is what a call is given.
type given struct {
	b      []byte
	l      []api.Write
	choice []byte
}

// spare answers a copy of what is given, with other things in the memory behind each slice.
func spare(b []byte, l []api.Write, choice []byte) given {
	g := given{behind(b), nil, behind(choice)}
	for _, w := range l {
		g.l = append(g.l, api.Write{Cut: w.Cut, Off: w.Off, Data: behind(w.Data)})
	}
	n := len(g.l)
	g.l = append(g.l, write(1, "spare"), cut(1))[:n]
	return g
}

// behind answers a copy of b with spare bytes behind it.
func behind(b []byte) []byte {
	return append(bytes.Clone(b), strings.Repeat("S", 40)...)[:len(b)]
}

// all answers all that is in g, with the memory behind each slice.
func (g given) all() given {
	out := given{slices.Clone(g.b[:cap(g.b)]), slices.Clone(g.l[:cap(g.l)]), slices.Clone(g.choice[:cap(g.choice)])}
	for i, w := range out.l {
		out.l[i].Data = slices.Clone(w.Data[:cap(w.Data)])
	}
	return out
}

// spoil changes each byte of g and behind it.
func (g given) spoil() {
	list := [][]byte{g.b, g.choice}
	for _, w := range g.l {
		list = append(list, w.Data)
	}
	for _, b := range list {
		spoil(b)
	}
}

// spoil changes each byte of b and behind it.
func spoil(b []byte) {
	for i := range b[:cap(b)] {
		b[:cap(b)][i] ^= 0xff
	}
}

func checkStays(t *testing.T, name string, call func(given) []byte, b []byte, l []api.Write, choice []byte) {
	t.Helper()
	g := spare(b, l, choice)
	before := g.all()
	got := call(g)
	if !reflect.DeepEqual(g.all(), before) {
		t.Fatalf("%s changed what it was given: %q, %v, %v", name, b, l, choice)
	}
	kept := bytes.Clone(got)
	spoil(got)
	if !reflect.DeepEqual(g.all(), before) {
		t.Fatalf("the answer of %s shares memory with what it was given: %q, %v, %v", name, b, l, choice)
	}
	again := call(g)
	g.spoil()
	if !bytes.Equal(again, kept) {
		t.Fatalf("%s answers %q and then %q of %q, %v, %v", name, kept, again, b, l, choice)
	}
}

// smallChanges answers changes of some bytes, Cuts, and such as are not Right or change nothing.
func smallChanges() []api.Write {
	return []api.Write{
		{}, write(0, "P"), write(0, "QRS"), write(1, "TU"), write(2, "VWX"), write(4, "YZ"), write(7, "I"), write(9, ""),
		cut(0), cut(1), cut(3), cut(8), {Cut: true, Off: 2, Data: []byte("JK")},
		write(-1, "LMN"), cut(-1), write(most-1, "OO"), {Cut: true, Off: most, Data: []byte("O")},
	}
}

// rows answers all rows of up to n of the elements, the shorter ones first.
func rows[T any](elements []T, n int) [][]T {
	out := [][]T{nil}
	last := out
	for range n {
		var next [][]T
		for _, row := range last {
			for _, e := range elements {
				next = append(next, append(slices.Clone(row), e))
			}
		}
		out = append(out, next...)
		last = next
	}
	return out
}

// pattern answers n bytes, none of which is 0 and each other than its neighbours.
func pattern(n int, start byte) []byte {
	b := make([]byte, n)
	for i := range b {
		b[i] = byte((i+int(start))%251) + 1
	}
	return b
}

func write(off int, s string) api.Write { return api.Write{Off: off, Data: []byte(s)} }

func cut(off int) api.Write { return api.Write{Cut: true, Off: off} }

func asByte(is bool) byte {
	if is {
		return 1
	}
	return 0
}

// isRight tells whether a change is valid: here, too, by nothing that could be more than an int holds.
func isRight(w api.Write) bool {
	if w.Off < 0 || w.Off > most {
		return false
	}
	return len(w.Data) <= most && w.Off+len(w.Data) <= most
}

// after answers b after a change, put together of its pieces.
func after(b []byte, w api.Write) []byte {
	switch {
	case !isRight(w):
		return b
	case w.Cut && w.Off < len(b):
		return b[:w.Off]
	case w.Cut || len(w.Data) == 0:
		return b
	}
	out := make([]byte, max(len(b), w.Off+len(w.Data)))
	copy(out, b)
	for i, c := range w.Data {
		out[w.Off+i] = c
	}
	return out
}

// afterAll answers b after all changes.
func afterAll(b []byte, l []api.Write) []byte {
	for _, w := range l {
		b = after(b, w)
	}
	return b
}

// left answers b after what survives of the changes.
func left(b []byte, l []api.Write, choice []byte) []byte {
	for i, w := range l {
		c := 0
		if i < len(choice) {
			c = int(choice[i])
		}
		if w.Cut && c == 0 || !isRight(w) {
			continue
		}
		if !w.Cut && c < 255 && c < len(w.Data) {
			w.Data = w.Data[:c]
		}
		b = after(b, w)
	}
	return b
}

func checkApply(t *testing.T, b []byte, w api.Write, want string) {
	t.Helper()
	if got := Apply(b, w); string(got) != want {
		t.Errorf("%s after %s is %s, want %s", short(string(b)), told(w), short(string(got)), short(want))
	}
}

func checkAll(t *testing.T, b []byte, l []api.Write, want string) {
	t.Helper()
	if got := All(b, l); string(got) != want {
		t.Errorf("%s after %d changes is %s, want %s", short(string(b)), len(l), short(string(got)), short(want))
	}
}

func checkSurvive(t *testing.T, b []byte, l []api.Write, choice []byte, want string) {
	t.Helper()
	if got := Survive(b, l, choice); string(got) != want {
		t.Errorf("%s after what survives of %d changes by %v is %s, want %s", short(string(b)), len(l), choice, short(string(got)), short(want))
	}
}

func checkPeak(t *testing.T, n int, l []api.Write, want int) {
	t.Helper()
	if got := Peak(n, l); got != want {
		t.Errorf("the Peak of %d bytes with %d changes is %d, want %d", n, len(l), got, want)
	}
}

// told answers a change as a text, short enough to be shown.
func told(w api.Write) string {
	kind := "a write"
	if w.Cut {
		kind = "a Cut"
	}
	return kind + " at " + strconv.Itoa(w.Off) + " of " + short(string(w.Data))
}

// short answers a text, or its beginning and its length.
func short(s string) string {
	if len(s) <= 40 {
		return strconv.Quote(s)
	}
	return strconv.Quote(s[:40]) + ".. (" + strconv.Itoa(len(s)) + " bytes)"
}
