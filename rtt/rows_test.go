package rtt_test

import (
	"testing"

	"skerry/api"
	"skerry/rtt"
)

// P12.4's sentences by themselves.

// holdFollows holds what is so of whatever was noted.
func holdFollows(t *testing.T, r api.Rtt, s *strewn) {
	t.Helper()
	if !modelCheck(r) || rtt.Check(r) != api.OK || r.Mean != r.Mean {
		t.Fatalf("what was noted is not right: %s", told(r))
	}
	lo := 1 + s.below(1000)
	hi := lo + s.below(1001-lo)
	if n, e := rtt.Timeout(r, lo, hi); n < lo || n > hi || e != api.OK {
		t.Fatalf("Timeout of %s from %d to %d: %d, error %d", told(r), lo, hi, n, e)
	}
}

func TestLongRowsOfNotes(t *testing.T) { // P12.4
	s := strewn(0x853c49e6748fea9b)
	for row := range 60 {
		r := rtt.New()
		for range 4000 {
			x := s.span(r.Mean)
			if row%3 != 0 && x == inf { // once there, a Mean stays infinite
				x = most
			}
			got, e := rtt.Note(r, x)
			if e != api.OK {
				t.Fatalf("%s: error %d", noteOf(r, x), e)
			}
			holdFollows(t, got, &s)
			r = got
		}
	}
}

func TestLongRowsOfTamedNotes(t *testing.T) { // P12.2, P12.4: as the chapter told plainly, each on what was told before
	s := strewn(0xda942042e4dd58b5)
	for range 40 {
		r := rtt.New()
		for range 500 {
			x := float64(s.below(100000)) / 997
			holdModelNote(t, r, x)
			r, _ = rtt.Note(r, x)
			holdFollows(t, r, &s)
		}
	}
}

func TestRowsOfTheEdges(t *testing.T) { // P12.4: all rows of two of them, on whatever is right
	s := strewn(0xcafef00dd15ea5e5)
	for _, r := range rights() {
		for _, x := range spans() {
			one, _ := rtt.Note(r, x)
			holdFollows(t, one, &s)
			for _, y := range spans() {
				two, _ := rtt.Note(one, y)
				holdFollows(t, two, &s)
			}
		}
	}
}

func TestTheSameAnswerIsTheMeanAtOnceAndStays(t *testing.T) { // P12.4
	s := strewn(0x14057b7ef767814f)
	l := spans()
	for range 2000 {
		l = append(l, s.span(1))
	}
	for _, x := range l {
		r := rtt.New()
		for range 100 {
			got, e := rtt.Note(r, x)
			if bits(got.Mean) != bits(x) || e != api.OK {
				t.Fatalf("%s: %s, error %d", noteOf(r, x), told(got), e)
			}
			r = got
		}
	}
}

func TestAMeanStaysWhateverVaries(t *testing.T) { // P12.4
	for _, r := range rights() {
		if r.Mean != r.Mean {
			continue
		}
		if got, e := rtt.Note(r, r.Mean); bits(got.Mean) != bits(r.Mean) || e != api.OK {
			t.Errorf("%s: %s, error %d", noteOf(r, r.Mean), told(got), e)
		}
	}
}

func TestNothingIsKept(t *testing.T) { // P12.2, P12.3: what is told before changes no answer
	r, x := api.Rtt{Mean: 8, Var: 4}, 16.0
	for _, other := range append(rights(), wrongs()...) {
		rtt.Note(other, 3)
		rtt.Timeout(other, 1, 9)
		rtt.Worst([]api.Rtt{other})
		got, e := rtt.Note(r, x)
		isThe(t, noteOf(r, x), got, e, api.Rtt{Mean: 9, Var: 5}, api.OK)
		holdTimeout(t, r, 1, 100, 24, api.OK)
		isThe(t, "New", rtt.New(), api.OK, nothing, api.OK)
	}
}

func TestNoCallPanics(t *testing.T) { // R1
	var l []api.Rtt
	for _, mean := range anyFloats() {
		for _, vary := range anyFloats() {
			r := api.Rtt{Mean: mean, Var: vary}
			rtt.Check(r)
			for _, x := range anyFloats() {
				rtt.Note(r, x)
			}
			for _, lo := range bounds() {
				for _, hi := range bounds() {
					rtt.Timeout(r, lo, hi)
				}
			}
			l = append(l, r)
			rtt.Worst(l)
		}
	}
}
