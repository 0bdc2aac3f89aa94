package score

import (
	"math"
	"math/big"
	"slices"
	"testing"
)

var (
	nan      = math.NaN()
	infinity = math.Inf(1)
	minus    = math.Copysign(0, -1)
	above    = math.SmallestNonzeroFloat64
	normal   = math.Float64frombits(1 << 52) // the smallest number that is not subnormal
	belowOne = math.Nextafter(1, 0)
	aboveOne = math.Nextafter(1, 2)
)

// nans are NaN with either sign, quiet and signalling, with the smallest and the greatest payload.
var nans = []float64{
	nan, -nan,
	math.Float64frombits(0x7ff8000000000000), math.Float64frombits(0xfff8000000000000),
	math.Float64frombits(0x7ff0000000000001), math.Float64frombits(0xfff0000000000001),
	math.Float64frombits(0x7fffffffffffffff), math.Float64frombits(0xffffffffffffffff),
	infinity - infinity, 0 * infinity,
}

// ascending are numbers each of which comes before all later ones.
var ascending = []float64{
	-infinity, -math.MaxFloat64, -1e300, -3, -2.5, -2, -aboveOne, -1, -belowOne, -0.5, -1e-300, -normal, -2 * above, -above, minus,
	0, above, 2 * above, normal, 1e-300, 0.25, 0.5, belowOne, 1, aboveOne, 1.25, 2, 3, 1 << 53, 1e300, math.MaxFloat64, infinity, nan,
}

// P7.1: ordinary numbers, and the greatest and the smallest ones.
func TestShare(t *testing.T) {
	for _, c := range []struct {
		live, all int
		want      float64
	}{
		{3, 4, 0.75},
		{1, 4, 0.25},
		{1, 3, 0.333333333333333333333333},
		{2, 3, 0.666666666666666666666666},
		{4, 3, 1.333333333333333333333333},
		{1, 10, 0.1},
		{7, 1, 7},
		{7, 7, 1},
		{-1, 4, -0.25},
		{1, -4, -0.25},
		{-1, -4, 0.25},
		{-4, -4, 1},
		{9, -2, -4.5},
		{math.MaxInt, math.MaxInt, 1},
		{math.MinInt, math.MinInt, 1},
		{math.MinInt, math.MaxInt, -1},
		{math.MaxInt, math.MinInt, -1},
		{math.MaxInt, 1, 1 << 63},
		{math.MinInt, 1, -1 << 63},
		{math.MinInt, -1, 1 << 63},
		{math.MaxInt, -1, -1 << 63},
		{1, math.MaxInt, 1.0 / (1 << 63)},
		{1, math.MinInt, -1.0 / (1 << 63)},
		{-1, math.MinInt, 1.0 / (1 << 63)},
		{math.MaxInt, 2, 1 << 62},
		{1<<24 + 1, 1 << 24, 1 + 1.0/(1<<24)},
		{1<<53 - 1, 1 << 53, 1 - 1.0/(1<<53)},
	} {
		if got := Share(c.live, c.all); got != c.want {
			t.Errorf("Share(%d, %d) = %v, want %v", c.live, c.all, got, c.want)
		}
	}
}

// P7.1: both numbers are converted ahead of the division, and what a floating-point number does not hold is rounded.
func TestShareOfRoundedNumbers(t *testing.T) {
	for _, c := range []struct {
		live, all int
		want      float64
	}{
		{1<<53 + 1, 1, 1 << 53},
		{1<<53 + 1, 1 << 53, 1},
		{1 << 53, 1<<53 + 1, 1},
		{1<<53 + 3, 1, 1<<53 + 4},
		{-1<<53 - 1, 1, -1 << 53},
		{math.MaxInt - 1, math.MaxInt, 1},
		{math.MaxInt, math.MaxInt - 511, 1},
		{math.MaxInt - 511, math.MaxInt - 512, aboveOne},
		{math.MaxInt - 512, math.MaxInt - 511, belowOne},
	} {
		if got := Share(c.live, c.all); got != c.want {
			t.Errorf("Share(%d, %d) = %v, want %v", c.live, c.all, got, c.want)
		}
	}
}

// P7.1: a division is rounded to the number that is nearest to it, which rational numbers tell.
func TestShareIsNearest(t *testing.T) {
	for live := -40; live <= 40; live++ {
		for all := -40; all <= 40; all++ {
			if all != 0 && live != 0 {
				checkNearest(t, live, all)
			}
		}
	}
	n := uint64(1)
	for range 2000 {
		n = n*6364136223846793005 + 1442695040888963407
		live, all := int(n>>33), int(n>>12&(1<<31-1)|1)
		checkNearest(t, live+1, all)
		checkNearest(t, -live-1, all)
		checkNearest(t, live+1, all<<20|1)
	}
}

// P7.1: a number by 0 is an infinity with the number's sign, and 0 by 0 is NaN.
func TestShareByZero(t *testing.T) {
	for _, live := range []int{1, 2, 3, 1000, 1 << 31, 1 << 53, math.MaxInt - 1, math.MaxInt} {
		if got := Share(live, 0); got != infinity {
			t.Errorf("Share(%d, 0) = %v", live, got)
		}
		if got := Share(-live, 0); got != -infinity {
			t.Errorf("Share(%d, 0) = %v", -live, got)
		}
	}
	if got := Share(math.MinInt, 0); got != -infinity {
		t.Errorf("Share of the smallest and 0 = %v", got)
	}
	if got := Share(0, 0); !math.IsNaN(got) {
		t.Errorf("Share(0, 0) = %v", got)
	}
}

// P7.1: 0 by a positive number is +0, and 0 by a negative one is -0.
func TestShareOfZero(t *testing.T) {
	for _, all := range []int{1, 2, 5, 1 << 31, math.MaxInt - 1, math.MaxInt} {
		if got := Share(0, all); got != 0 || math.Signbit(got) {
			t.Errorf("Share(0, %d) = %v", all, got)
		}
		if got := Share(0, -all); got != 0 || !math.Signbit(got) {
			t.Errorf("Share(0, %d) = %v", -all, got)
		}
	}
	if got := Share(0, math.MinInt); got != 0 || !math.Signbit(got) {
		t.Errorf("Share of 0 and the smallest = %v", got)
	}
}

// P7.1: a number is below those that are greater, the two zeros are not below each other, and NaN has no part in it.
func TestBelow(t *testing.T) {
	for i, x := range ascending {
		for k, limit := range ascending {
			zeros := x == 0 && limit == 0
			want := i < k && !zeros && !math.IsNaN(limit)
			if got := Below(x, limit); got != want {
				t.Errorf("Below(%v, %v) = %v", x, limit, got)
			}
		}
	}
	if Below(minus, 0) || Below(0, minus) || !Below(-infinity, minus) {
		t.Error("zeros and infinities")
	}
	for _, n := range nans {
		for _, x := range slices.Concat(ascending, nans) {
			if Below(n, x) || Below(x, n) {
				t.Errorf("below, with %#x and %v", math.Float64bits(n), x)
			}
		}
	}
}

// P7.1: a threshold may be from 0 to 1, each of them included.
func TestMay(t *testing.T) {
	for _, x := range []float64{minus, 0, above, 2 * above, normal, 1e-300, 0.1, 0.25, 0.5, 0.75, 1 - 1e-9, belowOne, 1} {
		if !May(x) {
			t.Errorf("%v may not be", x)
		}
	}
	for _, x := range []float64{-above, -2 * above, -normal, -1e-300, -0.25, -0.5, -1, -infinity, -math.MaxFloat64, aboveOne, 1 + 1e-9, 1.25, 1.5, 2, 100, math.MaxFloat64, infinity} {
		if May(x) {
			t.Errorf("%v may be", x)
		}
	}
	for _, x := range nans {
		if May(x) {
			t.Errorf("NaN %#x may be", math.Float64bits(x))
		}
	}
}

// P7.2: each number of an ascending row comes before the later ones, and is the same as itself.
func TestOrder(t *testing.T) {
	for i, a := range ascending {
		for k, b := range ascending {
			checkOrder(t, a, b, min(max(i-k, -1), 1))
		}
	}
	checkOrder(t, nan, infinity, 1)
	checkOrder(t, infinity, nan, -1)
	checkOrder(t, minus, 0, -1)
	checkOrder(t, 0, minus, 1)
}

// P7.2: numbers that are neighbours, of each size.
func TestOrderOfNeighbours(t *testing.T) {
	for exponent := -1074; exponent <= 1023; exponent++ {
		x := math.Ldexp(1, exponent)
		for _, other := range []float64{math.Nextafter(x, infinity), 2 * x} {
			checkOrder(t, x, other, -1)
			checkOrder(t, other, x, 1)
			checkOrder(t, -x, -other, 1)
			checkOrder(t, -other, -x, -1)
		}
		checkOrder(t, math.Nextafter(x, -infinity), x, -1)
		checkOrder(t, x, x, 0)
		checkOrder(t, -x, -x, 0)
		checkOrder(t, -x, x, -1)
		checkOrder(t, x, -x, 1)
	}
}

// P7.2: all NaN are the same, whatever their bits, and come after all else.
func TestOrderOfNaN(t *testing.T) {
	for _, n := range nans {
		for _, other := range nans {
			checkOrder(t, n, other, 0)
		}
		for _, x := range ascending[:len(ascending)-1] {
			checkOrder(t, n, x, 1)
			checkOrder(t, x, n, -1)
		}
	}
}

// P7.2: the first one of the least numbers.
func TestLeast(t *testing.T) {
	for _, c := range []struct {
		l    []float64
		want int
	}{
		{nil, -1},
		{[]float64{}, -1},
		{[]float64{0.5}, 0},
		{[]float64{minus}, 0},
		{[]float64{infinity}, 0},
		{[]float64{-infinity}, 0},
		{[]float64{nan}, 0},
		{[]float64{nan, nan}, 0},
		{[]float64{nans[7], nans[0], nans[5]}, 0},
		{[]float64{nan, 0.5}, 1},
		{[]float64{0.5, nan}, 0},
		{[]float64{nan, infinity}, 1},
		{[]float64{infinity, nan}, 0},
		{[]float64{nan, nan, infinity, infinity, nan}, 2},
		{[]float64{nan, 0.5, 0, minus, minus}, 3},
		{[]float64{nan, 0.25, nan, 0.25, 0.125, nan, 0.125}, 4},
		{[]float64{0.5, 0.5, 0.5}, 0},
		{[]float64{1, 0.5, 0.5, 1}, 1},
		{[]float64{0, 0, 0}, 0},
		{[]float64{0, minus}, 1},
		{[]float64{minus, 0}, 0},
		{[]float64{0, minus, 0, minus}, 1},
		{[]float64{0, above, minus, -above, 0}, 3},
		{[]float64{1, 2, 3, 4}, 0},
		{[]float64{4, 3, 2, 1}, 3},
		{[]float64{3, 1, 2, 1, 3}, 1},
		{[]float64{2, 3, 1, 4, 0}, 4},
		{[]float64{-1, -2, -infinity, -3, -infinity}, 2},
		{[]float64{infinity, math.MaxFloat64}, 1},
		{[]float64{infinity, infinity}, 0},
		{[]float64{-infinity, nan, -infinity}, 0},
		{[]float64{belowOne, 1, aboveOne}, 0},
		{[]float64{aboveOne, 1, belowOne}, 2},
	} {
		if got := Least(c.l); got != c.want {
			t.Errorf("Least(%v) = %d, want %d", c.l, got, c.want)
		}
	}
}

// P7.2: every slice of up to five of some numbers, held against the words: no other one comes before it, and it is the first of which this is so.
func TestLeastOfEachSlice(t *testing.T) {
	row := []float64{-infinity, -0.5, minus, 0, 0.5, infinity, nan}
	for size, count := 1, len(row); size <= 5; size, count = size+1, count*len(row) {
		l, places := make([]float64, size), make([]int, size)
		for n := range count {
			for i, rest := 0, n; i < size; i, rest = i+1, rest/len(row) {
				places[i] = rest % len(row)
				l[i] = row[places[i]]
			}
			want := slices.Index(places, slices.Min(places))
			if got := Least(l); got != want {
				t.Fatalf("Least(%v) = %d, want %d", l, got, want)
			}
		}
	}
}

// P7.2: long slices, the least one in whichever place; and such ones as would take a search that begins anew for each number a very long time.
func TestLeastOfMany(t *testing.T) {
	const size = 200
	for at := range size {
		l := make([]float64, size)
		for i := range l {
			l[i] = Share(1+i*7%size, size)
		}
		l[at] = minus
		if got := Least(l); got != at {
			t.Errorf("Least with -0 at %d = %d", at, got)
		}
		l[size-1-at/2], l[at/2] = -infinity, -infinity
		if got := Least(l); got != at/2 {
			t.Errorf("Least with two infinities = %d, want %d", got, at/2)
		}
	}
	const many = 1 << 20
	l := make([]float64, many)
	for i := range l {
		l[i] = Share(many-i, many)
	}
	if got := Least(l); got != many-1 {
		t.Errorf("Least of falling ones = %d", got)
	}
	slices.Reverse(l)
	if got := Least(l); got != 0 {
		t.Errorf("Least of rising ones = %d", got)
	}
	if got := Least(append(l, 0)); got != many {
		t.Errorf("Least of rising ones and 0 = %d", got)
	}
}

// P7.3: of two numbers, one comes before the other, or they are the same; and what comes before an earlier one comes before the later one.
func TestOrderIsTotal(t *testing.T) {
	l := slices.Concat(ascending, nans)
	for _, a := range l {
		for _, b := range l {
			ab := Order(a, b)
			if ab != -Order(b, a) || ab < -1 || ab > 1 {
				t.Errorf("Order(%v, %v) = %d", a, b, ab)
			}
			same := math.Float64bits(a) == math.Float64bits(b) || math.IsNaN(a) && math.IsNaN(b)
			if (ab == 0) != same {
				t.Errorf("Order(%v, %v) = %d, the same: %v", a, b, ab, same)
			}
			for _, c := range l {
				if ab <= 0 && Order(b, c) <= 0 && Order(a, c) > 0 {
					t.Errorf("%v, %v, %v are no order", a, b, c)
				}
			}
		}
	}
}

// P7.3: of all small numbers, a share is from 0 to 1, and 0 or 1 only where it has to be; it does not decrease if live increases or all decreases.
func TestSharesOfBytes(t *testing.T) {
	for all := 1; all <= 300; all++ {
		for live := range all + 1 {
			checkShare(t, live, all)
		}
	}
}

// P7.3: the same next to 0 and to 1, and in between, up to 2^30.
func TestSharesOfManyBytes(t *testing.T) {
	for _, all := range []int{1<<10 - 1, 1 << 16, 1<<20 + 1, 1<<24 - 1, 1 << 24, 1<<24 + 1, 1<<29 + 3, 1<<30 - 2, 1<<30 - 1, 1 << 30} {
		for near := range 40 {
			checkShare(t, near, all)
			checkShare(t, all-near, all)
			checkShare(t, all/2+near, all)
			checkShare(t, all/40*near, all)
		}
	}
}

// R3: the slice stays as it is, NaN with their bits included.
func TestArgumentsStay(t *testing.T) {
	room := slices.Concat(nans, []float64{3, minus, 0, 1, -2, 1}, nans)
	was := slices.Clone(room)
	if got := Least(room[:len(nans)+3]); got != len(nans)+1 {
		t.Errorf("Least of a part = %d", got)
	}
	Least(room)
	for i, x := range room {
		if math.Float64bits(x) != math.Float64bits(was[i]) {
			t.Errorf("the number at %d became %v", i, x)
		}
	}
}

func checkNearest(t *testing.T, live, all int) {
	t.Helper()
	want, _ := new(big.Rat).Quo(asRat(live), asRat(all)).Float64()
	if got := Share(live, all); got != want {
		t.Errorf("Share(%d, %d) = %v, want %v", live, all, got, want)
	}
}

// asRat answers the floating-point number next to n.
func asRat(n int) *big.Rat {
	f, _ := new(big.Rat).SetInt64(int64(n)).Float64()
	return new(big.Rat).SetFloat64(f)
}

func checkOrder(t *testing.T, a, b float64, want int) {
	t.Helper()
	if got := Order(a, b); got != want {
		t.Errorf("Order(%v, %v) = %d, want %d", a, b, got, want)
	}
}

func checkShare(t *testing.T, live, all int) {
	t.Helper()
	x := Share(live, all)
	if !May(x) || (x == 0) != (live == 0) || (x == 1) != (live == all) {
		t.Errorf("Share(%d, %d) = %v", live, all, x)
	}
	if live < all && Share(live+1, all) < x {
		t.Errorf("Share(%d, %d) = %v, and less with more live bytes", live, all, x)
	}
	if live < all && all > 1 && Share(live, all-1) < x {
		t.Errorf("Share(%d, %d) = %v, and less with fewer bytes", live, all, x)
	}
}
