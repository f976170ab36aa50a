package num_test

import (
	"math"
	"slices"
	"strings"
	"testing"

	"skerry/api"
	"skerry/num"
)

const (
	minInt  = math.MinInt
	maxInt  = math.MaxInt
	theNaN  = 0x7ff8000000000001
	big     = 1 << 53 // above it not every whole number is a float
	tiniest = math.SmallestNonzeroFloat64
	most    = math.MaxFloat64
)

var (
	minus = math.Copysign(0, -1)
	inf   = math.Inf(1)
	nan   = math.Float64frombits(theNaN)
)

// nans are NaNs of many bits: quiet and signalling, of both signs.
func nans() []float64 {
	var l []float64
	for _, b := range []uint64{
		theNaN, 0x7ff8000000000000, 0x7ff8000000000002, 0x7ff0000000000001, 0x7ff7ffffffffffff, 0x7fffffffffffffff,
		0xfff8000000000001, 0xfff8000000000000, 0xfff0000000000001, 0xffffffffffffffff, 0xfff8000000000123,
	} {
		l = append(l, math.Float64frombits(b))
	}
	return l
}

// ladder has floats as they stand in the chapter's order, without NaNs.
func ladder() []float64 {
	return []float64{
		-inf, -most, -1e300, -(1 << 63), -big, -2.5, -2, math.Nextafter(-1, -2), -1, -0.5, -0x1p-1022, math.Nextafter(-0x1p-1022, 0), -2 * tiniest, -tiniest, minus,
		0, tiniest, 2 * tiniest, math.Nextafter(0x1p-1022, 0), 0x1p-1022, 0.5, 1, math.Nextafter(1, 2), 2, 2.5, big, 1 << 63, 1e300, most, inf,
	}
}

// rung is a float and its place in the order.
type rung struct {
	x  float64
	at int
}

func rungs() []rung {
	var l []rung
	for at, x := range ladder() {
		l = append(l, rung{x, at})
	}
	for _, x := range nans() {
		l = append(l, rung{x, len(ladder())})
	}
	return l
}

// numbers are floats of bits that a fixed rule strews over all exponents.
func numbers(count int) []float64 {
	l := append(ladder(), nans()...)
	bits := uint64(0x9e3779b97f4a7c15)
	for range count {
		bits ^= bits << 13
		bits ^= bits >> 7
		bits ^= bits << 17
		l = append(l, math.Float64frombits(bits))
	}
	return l
}

func bits(x float64) uint64 { return math.Float64bits(x) }

func isThe(t *testing.T, what string, got, want float64) {
	t.Helper()
	if bits(got) != bits(want) {
		t.Errorf("%s: %v (%016x), not %v (%016x)", what, got, bits(got), want, bits(want))
	}
}

// canonical is Canon by the chapter's words, so that tests lean on no answer of the package.
func canonical(x float64) float64 {
	if x != x {
		return nan
	}
	return x
}

func TestCanonLeavesAllButNaNs(t *testing.T) { // P1.1
	for _, x := range ladder() {
		isThe(t, "Canon", num.Canon(x), x)
	}
}

func TestCanonMakesOneNaN(t *testing.T) { // P1.1
	for _, x := range nans() {
		isThe(t, "Canon", num.Canon(x), nan)
	}
}

func TestSameAndLessOfAllPairs(t *testing.T) { // P1.1
	for _, a := range rungs() {
		for _, b := range rungs() {
			if got := num.Same(a.x, b.x); got != (a.at == b.at) {
				t.Errorf("Same(%016x, %016x): %v", bits(a.x), bits(b.x), got)
			}
			if got := num.Less(a.x, b.x); got != (a.at < b.at) {
				t.Errorf("Less(%016x, %016x): %v", bits(a.x), bits(b.x), got)
			}
		}
	}
}

func TestAdd(t *testing.T) { // P1.2
	for _, c := range []struct{ a, b, want float64 }{
		{1, 2, 3}, {2, -5, -3}, {0.1, 0.2, 0.30000000000000004}, {1, 0x1p-53, 1}, {1, 0x1.8p-53, 1 + 0x1p-52}, {big, 1, big},
		{0, 0, 0}, {minus, minus, minus}, {0, minus, 0}, {minus, 5, 5}, {3, -3, 0}, {tiniest, -tiniest, 0}, {tiniest, tiniest, 2 * tiniest},
		{inf, 1, inf}, {-inf, 1, -inf}, {inf, inf, inf}, {-inf, -inf, -inf}, {inf, -inf, nan}, {inf, -most, inf},
		{most, most, inf}, {-most, -most, -inf}, {most, 1, most},
	} {
		isThe(t, "Add", num.Add(c.a, c.b), c.want)
		isThe(t, "Add, turned", num.Add(c.b, c.a), c.want)
	}
	for _, x := range nans() {
		for _, y := range rungs() {
			isThe(t, "Add of a NaN", num.Add(x, y.x), nan)
			isThe(t, "Add to a NaN", num.Add(y.x, x), nan)
		}
	}
}

func TestMaxOfAllPairs(t *testing.T) { // P1.2
	for _, a := range rungs() {
		for _, b := range rungs() {
			want := a
			if b.at > a.at {
				want = b
			}
			isThe(t, "Max", num.Max(a.x, b.x), canonical(want.x))
		}
	}
}

func TestMean(t *testing.T) { // P1.2
	for _, c := range []struct {
		what string
		l    []float64
		want float64
	}{
		{"none", nil, nan}, {"an empty list", []float64{}, nan},
		{"one", []float64{7}, 7}, {"three", []float64{1, 2, 6}, 3}, {"below nought", []float64{-1, -2}, -1.5}, {"a third", []float64{1, 0, 0}, 1.0 / 3},
		{"the sum is rounded, then the quotient", []float64{0.1, 0.1, 0.1}, 0.10000000000000002},
		{"from the left", []float64{1e16, 1, -1e16}, 0}, {"from the left, turned", []float64{-1e16, 1e16, 1}, 1.0 / 3},
		{"what is rounded off is gone", []float64{1, 1e100, 1, -1e100}, 0},
		{"a minus nought", []float64{minus}, 0}, {"minus noughts", []float64{minus, minus}, 0}, {"both noughts", []float64{0, minus}, 0},
		{"a quotient that is too small", []float64{-tiniest, 0}, minus}, {"a quotient that is too small, above", []float64{tiniest, 0}, 0},
		{"above all numbers", []float64{most, most}, inf}, {"below all numbers", []float64{-most, -most}, -inf},
		{"above all numbers on the way", []float64{most, most, -most, -most}, inf},
		{"infinity", []float64{inf, 1, 2}, inf}, {"minus infinity", []float64{1, -inf}, -inf}, {"both infinities", []float64{inf, 1, -inf}, nan},
		{"infinity, and back by a sum", []float64{most, most, -inf}, nan},
	} {
		isThe(t, c.what, num.Mean(c.l), c.want)
	}
	for _, x := range nans() {
		isThe(t, "a NaN", num.Mean([]float64{x}), nan)
		isThe(t, "a NaN ahead", num.Mean([]float64{x, 1, 2}), nan)
		isThe(t, "a NaN behind", num.Mean([]float64{1, inf, x}), nan)
	}
}

func TestMeanLeavesItsListAndSpareRoom(t *testing.T) { // P1.2, R2, R6
	all := []float64{3, 1, 2, inf, nan}
	kept := slices.Clone(all)
	isThe(t, "Mean", num.Mean(all[:3]), 2)
	for i := range all {
		isThe(t, "the list", all[i], kept[i])
	}
}

func TestClampOfAllTriples(t *testing.T) { // P1.3
	l := rungs()
	last := len(ladder())
	for _, x := range l {
		for _, lo := range l {
			for _, hi := range l {
				want := x.x
				if x.at == last || x.at < lo.at {
					want = canonical(lo.x)
				} else if x.at > hi.at {
					want = canonical(hi.x)
				}
				if got := num.Clamp(x.x, lo.x, hi.x); bits(got) != bits(want) {
					t.Fatalf("Clamp(%016x, %016x, %016x): %016x, not %016x", bits(x.x), bits(lo.x), bits(hi.x), bits(got), bits(want))
				}
			}
		}
	}
}

func TestClampByExamples(t *testing.T) { // P1.3
	other := math.Float64frombits(0xfff8000000000123)
	for _, c := range []struct{ x, lo, hi, want float64 }{
		{2, 1, 3, 2}, {0, 1, 3, 1}, {5, 1, 3, 3}, {1, 1, 3, 1}, {3, 1, 3, 3}, {2, 2, 2, 2},
		{minus, 0, 1, 0}, {0, -1, minus, minus}, {minus, minus, 0, minus}, {inf, 1, 3, 3}, {-inf, 1, 3, 1}, {inf, 1, inf, inf},
		{other, 1, 3, 1}, {other, other, 3, nan}, {2, other, 3, nan}, {2, 1, other, 2}, {inf, 1, other, inf}, {-inf, -inf, other, -inf},
		{5, 7, 3, 7}, {1, 7, 3, 7}, {7, 7, 3, 3}, {9, 7, 3, 3}, {other, 7, 3, 7},
	} {
		isThe(t, "Clamp", num.Clamp(c.x, c.lo, c.hi), c.want)
	}
}

type tickCase struct {
	x            float64
	lo, hi, want int
}

func holdTicks(t *testing.T, l []tickCase) {
	t.Helper()
	for _, c := range l {
		if got := num.Ticks(c.x, c.lo, c.hi); got != c.want {
			t.Errorf("Ticks(%v, %d, %d): %d, not %d", c.x, c.lo, c.hi, got, c.want)
		}
	}
}

func TestTicksRoundsUp(t *testing.T) { // P1.3
	holdTicks(t, []tickCase{
		{2.1, 1, 9, 3}, {2.5, 1, 9, 3}, {2.9, 1, 9, 3}, {3, 1, 9, 3}, {math.Nextafter(3, 4), 1, 9, 4}, {math.Nextafter(3, 2), 1, 9, 3},
		{tiniest, 0, 9, 1}, {0, 0, 9, 0}, {minus, -3, 9, 0}, {-tiniest, -3, 3, 0}, {-0.5, -3, 3, 0}, {-1.5, -3, 3, -1}, {-2.9, -3, 3, -2}, {-3, -3, 3, -3},
	})
}

func TestTicksStaysInItsSpan(t *testing.T) { // P1.3
	holdTicks(t, []tickCase{
		{0, 1, 9, 1}, {-5, 1, 9, 1}, {1, 1, 9, 1}, {0.5, 1, 9, 1}, {9, 1, 9, 9}, {9.5, 1, 9, 9}, {8.5, 1, 9, 9}, {50, 1, 9, 9}, {-3.5, -3, 3, -3}, {-4, -3, 3, -3},
		{6, 4, 4, 4}, {-6, 4, 4, 4}, {4, 4, 4, 4}, {-7, -9, -5, -7}, {1, -9, -5, -5},
		{inf, 4, 9, 9}, {-inf, 4, 9, 4}, {inf, minInt, maxInt, maxInt}, {-inf, minInt, maxInt, minInt},
	})
	for _, x := range nans() {
		holdTicks(t, []tickCase{{x, 4, 9, 4}, {x, -9, -4, -9}, {x, minInt, maxInt, minInt}, {x, maxInt, maxInt, maxInt}})
	}
}

func TestTicksOfASpanThatIsTurned(t *testing.T) { // P1.3
	for _, x := range append([]float64{1, 3, 5, 7, 9, 1e300, -1e300, 0, minus, 1 << 63, -(1 << 63)}, append(nans(), inf, -inf)...) {
		holdTicks(t, []tickCase{{x, 7, 3, 7}, {x, 4, 3, 4}, {x, maxInt, minInt, maxInt}, {x, 0, -1, 0}, {x, minInt + 1, minInt, minInt + 1}})
	}
}

func TestTicksBeyondWholeNumbersAndFloats(t *testing.T) { // P1.3
	below := math.Nextafter(1<<63, 0)
	holdTicks(t, []tickCase{
		{1e300, minInt, maxInt, maxInt}, {1e300, 0, 5, 5}, {-1e300, minInt, 5, minInt}, {-1e300, 0, 5, 0}, {most, 3, 3, 3},
		{1 << 63, minInt, maxInt, maxInt}, {1 << 63, 0, maxInt - 1, maxInt - 1}, {1 << 63, -5, -4, -4}, {below, 0, maxInt, maxInt - 1023}, {1 << 62, 0, maxInt, 1 << 62},
		{-(1 << 63), minInt, maxInt, minInt}, {-(1 << 63), minInt + 1, maxInt, minInt + 1}, {math.Nextafter(-(1 << 63), -inf), minInt, maxInt, minInt}, {-below, minInt, maxInt, minInt + 1024},
		{big, 0, big - 1, big - 1}, {big, big + 1, maxInt, big + 1}, {big + 4, 0, big + 3, big + 3}, {big + 2, 0, big + 3, big + 2}, {big, 0, big + 1, big}, {big + 4, 0, big + 5, big + 4}, {-big, -big - 1, 0, -big}, {-big - 4, -big - 3, 0, -big - 3}, {-big, minInt, -big - 1, -big - 1},
	})
}

func TestTextAndParseByExamples(t *testing.T) { // P1.4
	for _, c := range []struct {
		x    float64
		text string
	}{
		{1, "3ff0000000000000"}, {-2, "c000000000000000"}, {0, "0000000000000000"}, {minus, "8000000000000000"}, {inf, "7ff0000000000000"}, {-inf, "fff0000000000000"},
		{nan, "7ff8000000000001"}, {tiniest, "0000000000000001"}, {-tiniest, "8000000000000001"}, {0x1p-1022, "0010000000000000"}, {most, "7fefffffffffffff"}, {-most, "ffefffffffffffff"},
		{math.Float64frombits(0x0123456789abcdef), "0123456789abcdef"}, {math.Float64frombits(0x0b00000000000001), "0b00000000000001"}, {math.Float64frombits(0xfedcba9876543210), "fedcba9876543210"},
	} {
		if got := num.Text(c.x); got != c.text {
			t.Errorf("Text(%v): %q, not %q", c.x, got, c.text)
		}
		got, e := num.Parse(c.text)
		if e != api.OK {
			t.Errorf("Parse(%q): error %d", c.text, e)
		}
		isThe(t, "Parse", got, c.x)
	}
	for _, x := range nans() {
		if got := num.Text(x); got != "7ff8000000000001" {
			t.Errorf("Text of the NaN %016x: %q", bits(x), got)
		}
	}
}

func TestParseOfWrongTexts(t *testing.T) { // P1.4
	const right = "3ff0000000000000"
	wrong := []string{
		"", "0", "1", "NaN", "Inf", "1.5", right[1:], right[:15], right + "0", "0" + right, right + right, strings.Repeat("0", 32), strings.Repeat("0", 1000),
		"3FF0000000000000", "3fF0000000000000", "0123456789abcdeF", "7FF8000000000001",
		" 3ff000000000000", "3ff000000000000 ", right + " ", " " + right, right + "\n", "3ff0000 00000000", "\x003ff00000000000",
		"+ff0000000000000", "-ff0000000000000", "0x00000000000001", "0X00000000000001", "0o00000000000001", "_ff0000000000000", "3ff0_00000000000", "3ff000000000000_",
		"3ff000000000000g", "gff0000000000000", "3ff000000000000/", "3ff000000000000:", "3ff000000000000`", "3ff000000000000@", "3ff0000.00000000", "\xff\xff\xff\xff\xff\xff\xff\xff\xff\xff\xff\xff\xff\xff\xff\xff",
		"１２３４５", "3ff00000000000é", "3ff0000000000000é",
		"7ff8000000000000", "7ff8000000000002", "7ff0000000000001", "7fffffffffffffff", "fff8000000000001", "fff8000000000000", "fff0000000000001", "ffffffffffffffff",
	}
	for _, s := range wrong {
		got, e := num.Parse(s)
		if e != api.ErrPack {
			t.Errorf("Parse(%q): error %d", s, e)
		}
		isThe(t, "Parse beside its error", got, 0)
	}
}

func TestEachByteOfATextCounts(t *testing.T) { // P1.4
	const right = "4009abcdef012345"
	for at := range len(right) {
		for b := range 256 {
			s := right[:at] + string([]byte{byte(b)}) + right[at+1:]
			got, e := num.Parse(s)
			if isDigit := strings.IndexByte("0123456789abcdef", byte(b)) >= 0; isDigit != (e == api.OK) {
				t.Errorf("Parse(%q): error %d", s, e)
			}
			if e == api.OK && num.Text(got) != s {
				t.Errorf("Parse(%q) has the text %q", s, num.Text(got))
			}
		}
	}
}

func TestOrderIsOne(t *testing.T) { // P1.5
	l := numbers(200)
	for _, a := range l {
		for _, b := range l {
			count := 0
			for _, is := range []bool{num.Less(a, b), num.Less(b, a), num.Same(a, b)} {
				if is {
					count++
				}
			}
			if count != 1 {
				t.Fatalf("%016x and %016x stand to one another in %d ways", bits(a), bits(b), count)
			}
			if a < b && !num.Less(a, b) {
				t.Fatalf("%v does not stand ahead of %v", a, b)
			}
		}
	}
	slices.SortFunc(l, func(a, b float64) int {
		if num.Less(a, b) {
			return -1
		}
		if num.Less(b, a) {
			return 1
		}
		return 0
	})
	for i := range l {
		for k := i + 1; k < len(l); k++ {
			if num.Less(l[k], l[i]) {
				t.Fatalf("sorted, %016x stands ahead of %016x", bits(l[i]), bits(l[k]))
			}
		}
	}
}

func TestMaxHangsOnNoOrder(t *testing.T) { // P1.5
	l := numbers(40)
	for _, a := range l {
		for _, b := range l {
			isThe(t, "Max, turned", num.Max(a, b), num.Max(b, a))
			for _, c := range l {
				if bits(num.Max(num.Max(a, b), c)) != bits(num.Max(a, num.Max(b, c))) {
					t.Fatalf("Max of %016x, %016x, %016x hangs on their order", bits(a), bits(b), bits(c))
				}
			}
		}
	}
}

func TestWhatIsParsedHasItsText(t *testing.T) { // P1.5
	for _, x := range numbers(5000) {
		s := num.Text(x)
		got, e := num.Parse(s)
		if e != api.OK || num.Text(got) != s {
			t.Fatalf("Parse(%q): %v, error %d", s, got, e)
		}
		isThe(t, "Parse of Text", got, canonical(x))
	}
}
