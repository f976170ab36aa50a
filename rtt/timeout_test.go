package rtt_test

import (
	"math"
	"testing"

	"skerry/api"
	"skerry/rtt"
)

// bounds are numbers that lo and hi may be, and such as they may not.
func bounds() []int {
	return []int{minInt, minInt + 1, -1 << 32, 1 - 1<<32, -1000, -2, -1, 0, 1, 2, 3, 500, 998, 999, 1000, 1001, 1002, 1 << 16, 1<<32 + 1, 1<<32 + 1000, 1 << 40, maxInt - 1, maxInt}
}

func holdTimeout(t *testing.T, r api.Rtt, lo, hi, want int, wantE api.Errno) {
	t.Helper()
	if n, e := rtt.Timeout(r, lo, hi); n != want || e != wantE {
		t.Errorf("Timeout of %s from %d to %d: %d, error %d, not %d, error %d", told(r), lo, hi, n, e, want, wantE)
	}
}

func TestTimeoutOfWrongOnes(t *testing.T) { // P12.3: whatever lo and hi are
	for _, r := range wrongs() {
		for _, b := range [][2]int{{1, 1}, {1, 100}, {1, 1000}, {1000, 1000}, {0, 100}, {100, 1}, {1, 1001}, {minInt, maxInt}} {
			holdTimeout(t, r, b[0], b[1], 0, api.ErrArg)
		}
	}
}

func TestTimeoutOfAllBounds(t *testing.T) { // P12.3
	for _, c := range []struct {
		r    api.Rtt
		want int
	}{{nothing, maxInt}, {api.Rtt{Mean: inf, Var: inf}, maxInt}, {api.Rtt{Mean: 8, Var: 4}, 24}, {api.Rtt{}, 0}} {
		for _, lo := range bounds() {
			for _, hi := range bounds() {
				want, wantE := max(lo, min(c.want, hi)), api.OK
				if lo < 1 || lo > hi || hi > 1000 {
					want, wantE = 0, api.ErrArg
				}
				holdTimeout(t, c.r, lo, hi, want, wantE)
			}
		}
	}
}

func TestTimeoutOfAllRightBounds(t *testing.T) { // P12.3, P12.4
	for lo := 1; lo <= 1000; lo++ {
		for hi := lo; hi <= 1000; hi++ {
			holdTimeout(t, nothing, lo, hi, hi, api.OK)
			holdTimeout(t, api.Rtt{Mean: inf, Var: inf}, lo, hi, hi, api.OK)
			holdTimeout(t, api.Rtt{}, lo, hi, lo, api.OK)
			holdTimeout(t, api.Rtt{Mean: 300, Var: 49.8}, lo, hi, max(lo, min(500, hi)), api.OK)
		}
	}
}

func TestTimeoutWhereLoIsHi(t *testing.T) { // P12.3
	for _, r := range rights() {
		for _, only := range []int{1, 24, 1000} {
			holdTimeout(t, r, only, only, only, api.OK)
		}
	}
}

func TestTimeoutIsRoundedUp(t *testing.T) { // P12.3
	for n := 1; n < 1000; n++ {
		x := float64(n)
		holdTimeout(t, api.Rtt{Mean: x}, 1, 1000, n, api.OK)
		holdTimeout(t, api.Rtt{Mean: math.Nextafter(x, 0)}, 1, 1000, n, api.OK)
		holdTimeout(t, api.Rtt{Mean: math.Nextafter(x, inf)}, 1, 1000, n+1, api.OK)
		holdTimeout(t, api.Rtt{Var: x / 4}, 1, 1000, n, api.OK)
		holdTimeout(t, api.Rtt{Var: math.Nextafter(x/4, 0)}, 1, 1000, n, api.OK)
		holdTimeout(t, api.Rtt{Var: math.Nextafter(x/4, inf)}, 1, 1000, n+1, api.OK)
		holdTimeout(t, api.Rtt{Mean: x / 2, Var: x / 8}, 1, 1000, n, api.OK)
	}
}

func TestTimeoutByHand(t *testing.T) { // P12.3
	for _, c := range []struct {
		mean, vary   float64
		lo, hi, want int
	}{
		{8, 4, 1, 100, 24}, {4, 8, 1, 100, 36}, {8, 4, 24, 24, 24}, {8, 4, 25, 30, 25}, {8, 4, 1, 23, 23}, {8, 4, 1, 24, 24}, {8, 4, 24, 100, 24}, {8, 4.25, 1, 100, 25}, {8, 4.01, 1, 100, 25}, {7.99, 4, 1, 100, 24},
		{0, 0, 1, 1000, 1}, {0, 0, 7, 1000, 7}, {tiniest, 0, 1, 1000, 1}, {0, tiniest, 1, 1000, 1}, {tiniest, tiniest, 1000, 1000, 1000},
		{999.5, 0, 1, 1000, 1000}, {1000, 0, 1, 1000, 1000}, {1000.5, 0, 1, 1000, 1000}, {1000, 0, 1, 999, 999}, {1001, 0, 1, 1000, 1000}, {0, 250, 1, 1000, 1000}, {0, 250.25, 1, 1000, 1000},
		{1 << 32, 0, 1, 1000, 1000}, {1<<32 + 5, 0, 1, 1000, 1000}, {1 << 53, 0, 1, 1000, 1000}, {1 << 63, 0, 1, 1000, 1000}, {1 << 64, 0, 1, 1000, 1000}, {1e300, 1, 3, 9, 9},
		{inf, 0, 1, 9, 9}, {0, inf, 1, 9, 9}, {inf, inf, 1, 9, 9}, {inf, 4, 1, 1000, 1000}, {8, inf, 1, 1000, 1000}, {inf, 0, 9, 9, 9},
		{most, 0, 1, 9, 9}, {0, most, 1, 9, 9}, {most, most, 1, 9, 9}, {0, most / 2, 1, 9, 9}, {0, most / 4, 1, 9, 9}, {most, most / 4, 1, 9, 9}, {1, most / 2, 1, 9, 9},
		{math.Nextafter(3, 0), 0, 1, 9, 3}, {math.Nextafter(3, 9), 0, 1, 9, 4}, {math.Nextafter(8, 0), 4, 1, 100, 24}, {8, math.Nextafter(4, 9), 1, 100, 25}, {math.Nextafter(8, 9), 4, 1, 100, 24},
		// A sum that is rounded is rounded ahead of the rounding up.
		{2, tiniest, 1, 9, 2}, {1, 0x1p-55, 1, 9, 1}, {1, 0x1.8p-55, 1, 9, 2}, {999, 0x1p-46, 1, 1000, 999}, {999, 0x1.8p-46, 1, 1000, 1000},
		{math.Nextafter(3, 0), 0x1p-53 + 0x1p-62, 1, 9, 3}, {math.Nextafter(1, 0), 0x1p-55, 1, 9, 1}, {math.Nextafter(1, 0), 0x1.8p-54, 1, 9, 2}, {tiniest, 0.25, 1, 9, 1}, {0x1p-54, 0.5, 1, 9, 2},
		// Added one by one to Mean, four of Var would be lost.
		{1, 0x1p-54, 1, 9, 2}, {999, 0x1p-45, 1, 1000, 1000},
	} {
		holdTimeout(t, api.Rtt{Mean: c.mean, Var: c.vary}, c.lo, c.hi, c.want, api.OK)
	}
}
