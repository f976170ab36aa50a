package rtt_test

import (
	"fmt"
	"math"
	"testing"

	"skerry/api"
	"skerry/rtt"
)

const (
	theNaN  = 0x7ff8000000000001
	tiniest = math.SmallestNonzeroFloat64
	normal  = 0x1p-1022 // the least float that has all its bits
	most    = math.MaxFloat64
	minInt  = math.MinInt
	maxInt  = math.MaxInt
)

var minus, inf, nan = math.Copysign(0, -1), math.Inf(1), math.Float64frombits(theNaN)

var nothing = api.Rtt{Mean: nan, Var: nan}

// otherNaNs are NaNs, none of them the NaN: quiet and signalling, of both signs.
func otherNaNs() []float64 {
	var l []float64
	for _, bits := range []uint64{theNaN - 1, theNaN + 1, 0x7ff0000000000001, 0x7ff7ffffffffffff, 0x7fffffffffffffff, 1<<63 | theNaN, 0xfff8000000000000, 0xfff0000000000123, 0xffffffffffffffff} {
		l = append(l, math.Float64frombits(bits))
	}
	return l
}

// belowNought has minus nought, which stands ahead of nought in chapter 1's order.
func belowNought() []float64 {
	return []float64{minus, -tiniest, -normal, -0.5, -1, -8, -1000, -most, -inf}
}

// spans are floats that a right one may have: from nought to infinity, as they rise.
func spans() []float64 {
	return []float64{
		0, tiniest, 2 * tiniest, 3 * tiniest, math.Nextafter(normal, 0), normal, 0.1, math.Nextafter(0.5, 0), 0.5, 1, math.Nextafter(1, 2), 2.5, 3, 8, 999, 1000, 1001,
		1 << 53, 1 << 63, most / 4, math.Nextafter(most/4, inf), most / 2, math.Nextafter(most, 0), most, inf,
	}
}

// anyFloats have all of these, and the NaN.
func anyFloats() []float64 {
	l := append(spans(), nan)
	l = append(l, belowNought()...)
	return append(l, otherNaNs()...)
}

// rights are those of which something is known, and New's at the end.
func rights() []api.Rtt {
	var l []api.Rtt
	for _, mean := range spans() {
		for _, vary := range spans() {
			l = append(l, api.Rtt{Mean: mean, Var: vary})
		}
	}
	return append(l, nothing)
}

// wrongs have in either place what may not be there, or a NaN in one of them alone.
func wrongs() []api.Rtt {
	var l []api.Rtt
	for _, x := range append(belowNought(), otherNaNs()...) {
		for _, y := range anyFloats() {
			l = append(l, api.Rtt{Mean: x, Var: y}, api.Rtt{Mean: y, Var: x})
		}
	}
	for _, x := range spans() {
		l = append(l, api.Rtt{Mean: x, Var: nan}, api.Rtt{Mean: nan, Var: x})
	}
	return l
}

func bits(x float64) uint64 { return math.Float64bits(x) }

// alike holds bits, so that no nought and no NaN is taken for another.
func alike(a, b api.Rtt) bool { return bits(a.Mean) == bits(b.Mean) && bits(a.Var) == bits(b.Var) }

func told(r api.Rtt) string {
	return fmt.Sprintf("{%v %v} (%016x %016x)", r.Mean, r.Var, bits(r.Mean), bits(r.Var))
}

// isThe holds an answer and its error; beside an error all is zero.
func isThe(t *testing.T, what string, got api.Rtt, e api.Errno, want api.Rtt, wantE api.Errno) {
	t.Helper()
	if !alike(got, want) || e != wantE {
		t.Errorf("%s: %s, error %d, not %s, error %d", what, told(got), e, told(want), wantE)
	}
}

func TestExamples(t *testing.T) { // P12.2, P12.3
	got, e := rtt.Note(rtt.New(), 8)
	isThe(t, "Note(New(), 8)", got, e, api.Rtt{Mean: 8, Var: 4}, api.OK)
	if n, e := rtt.Timeout(got, 1, 100); n != 24 || e != api.OK {
		t.Errorf("Timeout: %d, error %d", n, e)
	}
	got, e = rtt.Note(api.Rtt{Mean: inf, Var: inf}, 1)
	isThe(t, "Note({inf, inf}, 1)", got, e, api.Rtt{Mean: inf, Var: inf}, api.OK)
}

func TestNewByItsBits(t *testing.T) { // P12.1
	for range 3 {
		isThe(t, "New", rtt.New(), api.OK, nothing, api.OK)
	}
}

func TestCheckByHand(t *testing.T) { // P12.1
	quiet, turned := math.Float64frombits(theNaN-1), math.Float64frombits(1<<63|theNaN)
	for _, c := range []struct {
		mean, vary float64
		want       api.Errno
	}{
		{nan, nan, api.OK}, {0, 0, api.OK}, {8, 4, api.OK}, {4, 8, api.OK}, {tiniest, tiniest, api.OK}, {most, most, api.OK}, {inf, inf, api.OK},
		{0, inf, api.OK}, {inf, 0, api.OK}, {tiniest, most, api.OK}, {most, tiniest, api.OK},
		{nan, 0, api.ErrArg}, {0, nan, api.ErrArg}, {nan, 4, api.ErrArg}, {8, nan, api.ErrArg}, {nan, inf, api.ErrArg}, {inf, nan, api.ErrArg},
		{quiet, quiet, api.ErrArg}, {quiet, nan, api.ErrArg}, {nan, quiet, api.ErrArg}, {quiet, 4, api.ErrArg}, {8, quiet, api.ErrArg},
		{turned, turned, api.ErrArg}, {turned, nan, api.ErrArg}, {nan, turned, api.ErrArg},
		{minus, 0, api.ErrArg}, {0, minus, api.ErrArg}, {minus, minus, api.ErrArg}, {minus, nan, api.ErrArg}, {nan, minus, api.ErrArg}, {minus, inf, api.ErrArg}, {inf, minus, api.ErrArg},
		{-tiniest, 0, api.ErrArg}, {0, -tiniest, api.ErrArg}, {-tiniest, -tiniest, api.ErrArg}, {-1, 1, api.ErrArg}, {1, -1, api.ErrArg}, {-1, nan, api.ErrArg}, {nan, -1, api.ErrArg},
		{-most, most, api.ErrArg}, {most, -most, api.ErrArg}, {-inf, inf, api.ErrArg}, {inf, -inf, api.ErrArg}, {-inf, -inf, api.ErrArg}, {-inf, nan, api.ErrArg}, {nan, -inf, api.ErrArg},
	} {
		r := api.Rtt{Mean: c.mean, Var: c.vary}
		if e := rtt.Check(r); e != c.want {
			t.Errorf("Check(%s): error %d, not %d", told(r), e, c.want)
		}
	}
}

func TestCheckOfAllPairs(t *testing.T) { // P12.1
	for _, r := range rights() {
		if e := rtt.Check(r); e != api.OK {
			t.Errorf("Check(%s): error %d", told(r), e)
		}
	}
	for _, r := range wrongs() {
		if e := rtt.Check(r); e != api.ErrArg {
			t.Errorf("Check(%s): error %d", told(r), e)
		}
	}
}

func TestPairsAreAllThereAre(t *testing.T) { // P12.1: what the tests take for right or wrong
	seen := map[[2]uint64]int{}
	for _, r := range append(rights(), wrongs()...) {
		seen[[2]uint64{bits(r.Mean), bits(r.Var)}]++
	}
	if n := len(anyFloats()); len(seen) != n*n {
		t.Errorf("%d pairs, not %d", len(seen), n*n)
	}
}
