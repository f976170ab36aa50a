package rtt_test

import (
	"math"
	"math/big"
	"testing"

	"skerry/api"
	"skerry/rtt"
)

// The chapter told plainly, by fractions without bounds that are rounded behind each operation: what rtt is held against.

// modelCheck goes by bits: those of the floats from nought to infinity are the numbers from 0 to infinity's.
func modelCheck(r api.Rtt) bool {
	if bits(r.Mean) == theNaN || bits(r.Var) == theNaN {
		return bits(r.Mean) == bits(r.Var)
	}
	return bits(r.Mean) <= bits(inf) && bits(r.Var) <= bits(inf)
}

func isFinite(x float64) bool { return x-x == 0 }

func exact(x float64) *big.Rat { return new(big.Rat).SetFloat64(x) }

func rounded(r *big.Rat) float64 {
	x, _ := r.Float64()
	return x
}

func modelAdd(a, b float64) float64 {
	switch {
	case isFinite(a) && isFinite(b):
		return rounded(new(big.Rat).Add(exact(a), exact(b)))
	case isFinite(a), a == b:
		return b
	case isFinite(b):
		return a
	}
	return nan // of both infinities, and of a NaN
}

// modelPart is times/parts of x.
func modelPart(x float64, times, parts int64) float64 {
	if !isFinite(x) {
		return x
	}
	return rounded(new(big.Rat).Mul(exact(x), big.NewRat(times, parts)))
}

func modelResult(x float64) float64 {
	switch {
	case x != x:
		return inf
	case x <= 0:
		return 0
	}
	return x
}

func modelNote(r api.Rtt, x float64) (api.Rtt, api.Errno) {
	if !modelCheck(r) || x != x || x < 0 {
		return api.Rtt{}, api.ErrArg
	}
	if x == 0 {
		x = 0
	}
	if r.Mean != r.Mean {
		return api.Rtt{Mean: x, Var: modelPart(x, 1, 2)}, api.OK
	}
	up, down := modelAdd(x, -r.Mean), modelAdd(r.Mean, -x)
	d := 0.0
	switch {
	case up > down:
		d = up
	case down > up:
		d = down
	}
	vary := modelAdd(r.Var, modelPart(modelAdd(d, -r.Var), 1, 4))
	mean := modelAdd(r.Mean, modelPart(up, 1, 8))
	return api.Rtt{Mean: modelResult(mean), Var: modelResult(vary)}, api.OK
}

func modelTimeout(r api.Rtt, lo, hi int) (int, api.Errno) {
	if !modelCheck(r) || lo < 1 || lo > hi || hi > 1000 {
		return 0, api.ErrArg
	}
	x := modelAdd(modelPart(r.Var, 4, 1), r.Mean)
	if !(x < float64(hi)) {
		return hi, api.OK
	}
	for n := lo; n < hi; n++ {
		if x <= float64(n) {
			return n, api.OK
		}
	}
	return hi, api.OK
}

// modelWorst is by > alone: right ones that are known have no minus nought, and no NaN.
func modelWorst(l []api.Rtt) (api.Rtt, api.Errno) {
	worst, any := nothing, false
	for _, r := range l {
		switch {
		case !modelCheck(r):
			return api.Rtt{}, api.ErrArg
		case r.Mean != r.Mean:
		case !any, r.Mean > worst.Mean, r.Mean == worst.Mean && r.Var > worst.Var:
			worst, any = r, true
		}
	}
	return worst, api.OK
}

// strewn are numbers by a fixed rule, all different for long.
type strewn uint64

func (s *strewn) next() uint64 {
	*s ^= *s << 13
	*s ^= *s >> 7
	*s ^= *s << 17
	return uint64(*s)
}

func (s *strewn) below(n int) int { return int(s.next() >> 1 % uint64(n)) }

// span is one from nought to infinity: of any bits, near a whole number, near another span, or of the edges.
func (s *strewn) span(near float64) float64 {
	switch s.below(8) {
	case 0, 1:
		return math.Float64frombits(s.next() % (bits(inf) + 1))
	case 2, 3:
		return float64(s.below(1<<20)) / 1000
	case 4:
		return math.Float64frombits(uint64(s.below(64)))
	case 5, 6:
		if !isFinite(near) {
			near = 1
		}
		return math.Float64frombits(min(bits(near)+uint64(s.below(64)), bits(inf)))
	}
	l := spans()
	return l[s.below(len(l))]
}

func holdModelNote(t *testing.T, r api.Rtt, x float64) {
	t.Helper()
	want, wantE := modelNote(r, x)
	got, e := rtt.Note(r, x)
	if !alike(got, want) || e != wantE {
		t.Errorf("%s: %s, error %d, not %s, error %d", noteOf(r, x), told(got), e, told(want), wantE)
	}
}

func TestNoteOfAllFloats(t *testing.T) { // P12.2
	for _, r := range append(rights(), wrongs()...) {
		for _, x := range anyFloats() {
			holdModelNote(t, r, x)
		}
	}
}

func TestNoteOfStrewnFloats(t *testing.T) { // P12.2
	s := strewn(0x9e3779b97f4a7c15)
	for range 60000 {
		r := api.Rtt{Mean: s.span(1)}
		r.Var = s.span(r.Mean)
		holdModelNote(t, r, s.span(r.Mean))
	}
}

func TestTimeoutOfStrewnOnes(t *testing.T) { // P12.3
	s := strewn(0x2545f4914f6cdd1d)
	all := append(rights(), wrongs()...)
	for range 40000 {
		r := all[s.below(len(all))]
		if s.below(2) == 0 {
			r = api.Rtt{Mean: s.span(1), Var: float64(s.below(1000)) / 16}
		}
		lo := 1 + s.below(1002)
		hi := lo + s.below(1002) - 1
		want, wantE := modelTimeout(r, lo, hi)
		holdTimeout(t, r, lo, hi, want, wantE)
	}
}
