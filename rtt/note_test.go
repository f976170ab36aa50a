package rtt_test

import (
	"fmt"
	"testing"

	"skerry/api"
	"skerry/rtt"
)

// wrongAnswers are floats that no message takes.
func wrongAnswers() []float64 {
	l := append(otherNaNs(), nan)
	for _, x := range belowNought() {
		if x != 0 {
			l = append(l, x)
		}
	}
	return l
}

func noteOf(r api.Rtt, x float64) string { return fmt.Sprintf("Note of %s and %v", told(r), x) }

func TestNoteOfWrongOnes(t *testing.T) { // P12.2: whatever x is
	for _, r := range wrongs() {
		for _, x := range anyFloats() {
			got, e := rtt.Note(r, x)
			isThe(t, noteOf(r, x), got, e, api.Rtt{}, api.ErrArg)
		}
	}
}

func TestNoteOfWrongAnswers(t *testing.T) { // P12.2
	for _, r := range rights() {
		for _, x := range wrongAnswers() {
			got, e := rtt.Note(r, x)
			isThe(t, noteOf(r, x), got, e, api.Rtt{}, api.ErrArg)
		}
	}
}

func TestNoteTakesMinusNoughtAsNought(t *testing.T) { // P12.2
	for _, c := range []struct{ r, want api.Rtt }{
		{nothing, api.Rtt{}}, {api.Rtt{}, api.Rtt{}}, {api.Rtt{Mean: 8, Var: 4}, api.Rtt{Mean: 7, Var: 5}}, {api.Rtt{Var: 8}, api.Rtt{Var: 6}},
		{api.Rtt{Mean: 8}, api.Rtt{Mean: 7, Var: 2}}, {api.Rtt{Var: inf}, api.Rtt{Var: inf}}, {api.Rtt{Mean: inf, Var: 4}, api.Rtt{Mean: inf, Var: inf}},
	} {
		for _, x := range []float64{minus, 0} {
			got, e := rtt.Note(c.r, x)
			isThe(t, noteOf(c.r, x), got, e, c.want, api.OK)
		}
	}
	for _, r := range rights() {
		want, wantE := rtt.Note(r, 0)
		got, e := rtt.Note(r, minus)
		isThe(t, noteOf(r, minus), got, e, want, wantE)
	}
}

func TestNoteWhereNothingWasKnown(t *testing.T) { // P12.2
	for _, c := range []struct{ x, half float64 }{
		{8, 4}, {1, 0.5}, {0.1, 0.05}, {3, 1.5}, {0, 0}, {1 << 53, 1 << 52}, {most, most / 2}, {inf, inf},
		{normal, normal / 2}, {normal + 2*tiniest, normal/2 + tiniest},
		// Between two floats, the half is the even one.
		{tiniest, 0}, {2 * tiniest, tiniest}, {3 * tiniest, 2 * tiniest}, {4 * tiniest, 2 * tiniest}, {5 * tiniest, 2 * tiniest}, {7 * tiniest, 4 * tiniest},
		{normal + tiniest, normal / 2}, {normal + 3*tiniest, normal/2 + 2*tiniest}, {normal - tiniest, normal / 2}, {2*normal - 2*tiniest, normal - tiniest},
	} {
		got, e := rtt.Note(nothing, c.x)
		isThe(t, noteOf(nothing, c.x), got, e, api.Rtt{Mean: c.x, Var: c.half}, api.OK)
		got, e = rtt.Note(rtt.New(), c.x)
		isThe(t, noteOf(rtt.New(), c.x), got, e, api.Rtt{Mean: c.x, Var: c.half}, api.OK)
	}
}

// noted is what was known, an answer, and what is known then.
type noted struct {
	r    api.Rtt
	x    float64
	want api.Rtt
}

func holdNoted(t *testing.T, l []noted) {
	t.Helper()
	for _, c := range l {
		got, e := rtt.Note(c.r, c.x)
		isThe(t, noteOf(c.r, c.x), got, e, c.want, api.OK)
	}
}

func TestNoteAboveBelowAndAtMean(t *testing.T) { // P12.2
	holdNoted(t, []noted{
		{api.Rtt{Mean: 8, Var: 4}, 16, api.Rtt{Mean: 9, Var: 5}}, // with the new Mean, 9, Var would be 4.75
		{api.Rtt{Mean: 8, Var: 4}, 0, api.Rtt{Mean: 7, Var: 5}},
		{api.Rtt{Mean: 8, Var: 4}, 8, api.Rtt{Mean: 8, Var: 3}},
		{api.Rtt{Mean: 8, Var: 4}, 12, api.Rtt{Mean: 8.5, Var: 4}},
		{api.Rtt{Mean: 8, Var: 4}, 4, api.Rtt{Mean: 7.5, Var: 4}},
		{api.Rtt{Mean: 8, Var: 4}, 10, api.Rtt{Mean: 8.25, Var: 3.5}},
		{api.Rtt{Mean: 8, Var: 4}, 6, api.Rtt{Mean: 7.75, Var: 3.5}},
		{api.Rtt{Mean: 1, Var: 0.5}, 2, api.Rtt{Mean: 1.125, Var: 0.625}},
		{api.Rtt{Mean: 100}, 20, api.Rtt{Mean: 90, Var: 20}},
		{api.Rtt{Mean: 8}, 8, api.Rtt{Mean: 8}},
		{api.Rtt{}, 8, api.Rtt{Mean: 1, Var: 2}},
		{api.Rtt{}, 0, api.Rtt{}},
		{api.Rtt{Var: 8}, 0, api.Rtt{Var: 6}},
	})
}

func TestNoteRoundsEachOperation(t *testing.T) { // P12.2: worked out by hand
	const u = 0x1p-52 // from 1 to the next float
	holdNoted(t, []noted{
		// 3u by 8 is less than half of u; where Mean and x are divided by themselves, or weighed by 7/8 and 1/8, the sum is 1 + 2u.
		{api.Rtt{Mean: 1 + u}, 1 + 4*u, api.Rtt{Mean: 1 + u, Var: 0.75 * u}},
		// 1 + 2.5u is between 1 + 2u, which is even, and 1 + 3u.
		{api.Rtt{Mean: 1 + u}, 1 + 13*u, api.Rtt{Mean: 1 + 2*u, Var: 3 * u}},
		{api.Rtt{Mean: 1 + 4*u}, 1 + u, api.Rtt{Mean: 1 + 4*u, Var: 0.75 * u}},
		{api.Rtt{Mean: 1 + 13*u}, 1 + u, api.Rtt{Mean: 1 + 12*u, Var: 3 * u}},
		// The same of Var: u by 4, and 6u by 4.
		{api.Rtt{Var: 1 + u}, 1 + 2*u, api.Rtt{Mean: 0.125 + u/4, Var: 1 + u}},
		{api.Rtt{Var: 1 + u}, 1 + 7*u, api.Rtt{Mean: 0.125 + u/8*7, Var: 1 + 2*u}},
		{api.Rtt{Var: 1 + 7*u}, 1 + u, api.Rtt{Mean: 0.125 + u/8, Var: 1 + 6*u}},
		// x - Mean is 2^53 + 1, which is between 2^53 and 2^53 + 2.
		{api.Rtt{Mean: 1}, 1<<53 + 2, api.Rtt{Mean: 1<<50 + 1, Var: 1 << 51}},
		// x - Mean is 1 + 2u, since 1 + 2.5u is no float.
		{api.Rtt{Mean: u / 2}, 1 + 3*u, api.Rtt{Mean: 0.125 + 0.75*u, Var: 0.25 + 0.5*u}},
		// d - Var is -1, since 2^-60 - 1 is no float.
		{api.Rtt{Var: 1}, 0x1p-60, api.Rtt{Mean: 0x1p-63, Var: 0.75}},
	})
}

func TestNoteOfTheLeastFloats(t *testing.T) { // P12.2: worked out by hand
	const u = tiniest // half of it is nought, one and a half is two: the even one
	holdNoted(t, []noted{
		// Rounded but once (fused), 1.5u would be 2u, and 2.5u too.
		{api.Rtt{Mean: u, Var: u}, 5 * u, api.Rtt{Mean: u, Var: 2 * u}},
		{api.Rtt{Var: u}, 3 * u, api.Rtt{Var: u}},
		{api.Rtt{Var: u}, 7 * u, api.Rtt{Mean: u, Var: 3 * u}},
		{api.Rtt{Mean: u}, 13 * u, api.Rtt{Mean: 3 * u, Var: 3 * u}},
		// An eighth, a quarter of what falls is lost, too: nothing is minus nought.
		{api.Rtt{Mean: 4 * u}, 0, api.Rtt{Mean: 4 * u, Var: u}},
		{api.Rtt{Mean: 5 * u}, 0, api.Rtt{Mean: 4 * u, Var: u}},
		{api.Rtt{Mean: u, Var: u}, 0, api.Rtt{Mean: u, Var: u}},
		{api.Rtt{Var: u}, 0, api.Rtt{Var: u}},
		{api.Rtt{Var: 2 * u}, 0, api.Rtt{Var: 2 * u}},
		{api.Rtt{Var: 3 * u}, 0, api.Rtt{Var: 2 * u}},
		{api.Rtt{Mean: 3 * u, Var: 3 * u}, 3 * u, api.Rtt{Mean: 3 * u, Var: 2 * u}},
		{api.Rtt{}, u, api.Rtt{}},
		{api.Rtt{}, 5 * u, api.Rtt{Mean: u, Var: u}},
		// Greater floats may be as near to one another.
		{api.Rtt{Var: normal}, normal + 2*u, api.Rtt{Mean: normal / 8, Var: normal}},
		{api.Rtt{Var: normal + u}, normal + 3*u, api.Rtt{Mean: normal / 8, Var: normal + u}},
		{api.Rtt{Mean: normal + u}, normal + 5*u, api.Rtt{Mean: normal + u, Var: u}},
		{api.Rtt{Mean: normal + 13*u}, normal + u, api.Rtt{Mean: normal + 11*u, Var: 3 * u}},
	})
}

// part is n by parts, rounded to a whole number, of two as near to the even one.
func part(n, parts int) int {
	low := n / parts
	if n < low*parts {
		low--
	}
	over := 2 * (n - low*parts)
	if over > parts || over == parts && low%2 != 0 {
		low++
	}
	return low
}

func TestNoteOfTheLeastFloatsInWholeNumbers(t *testing.T) { // P12.2, P12.4
	const all = 42 // in units of the least float above nought
	of := func(n int) float64 { return float64(n) * tiniest }
	var l []noted
	for mean := range all {
		for vary := range all {
			for x := range all {
				d := max(x-mean, mean-x)
				want := api.Rtt{Mean: of(mean + part(x-mean, 8)), Var: of(vary + part(d-vary, 4))}
				l = append(l, noted{api.Rtt{Mean: of(mean), Var: of(vary)}, of(x), want})
			}
		}
	}
	holdNoted(t, l)
}

func TestNoteOfTheGreatestFloats(t *testing.T) { // P12.2: no step leads beyond them
	holdNoted(t, []noted{
		{api.Rtt{Mean: most, Var: most}, most, api.Rtt{Mean: most, Var: most / 4 * 3}},
		{api.Rtt{Mean: most}, 0, api.Rtt{Mean: most / 8 * 7, Var: most / 4}},
		{api.Rtt{}, most, api.Rtt{Mean: most / 8, Var: most / 4}},
		{api.Rtt{Var: most}, most, api.Rtt{Mean: most / 8, Var: most}},
		{api.Rtt{Var: most}, 0, api.Rtt{Var: most / 4 * 3}},
		{api.Rtt{Mean: most, Var: most / 2}, 0, api.Rtt{Mean: most / 8 * 7, Var: most / 8 * 5}},
		{api.Rtt{Mean: most, Var: most}, 0, api.Rtt{Mean: most / 8 * 7, Var: most}},
		{api.Rtt{Mean: most, Var: most}, tiniest, api.Rtt{Mean: most / 8 * 7, Var: most}},
		{api.Rtt{Mean: most, Var: 1}, most, api.Rtt{Mean: most, Var: 0.75}},
	})
}

func TestNoteOfInfinities(t *testing.T) { // P12.2
	for _, y := range spans() { // whatever stands where y stands
		if y == inf {
			continue
		}
		holdNoted(t, []noted{
			{api.Rtt{Mean: y, Var: 4}, inf, api.Rtt{Mean: inf, Var: inf}},
			{api.Rtt{Mean: 8, Var: y}, inf, api.Rtt{Mean: inf, Var: inf}},
			{api.Rtt{Mean: y, Var: inf}, inf, api.Rtt{Mean: inf, Var: inf}},
			{api.Rtt{Mean: y, Var: inf}, y, api.Rtt{Mean: y, Var: inf}},
			{api.Rtt{Mean: 8, Var: inf}, 16, api.Rtt{Mean: 9, Var: inf}},
			{api.Rtt{Mean: inf, Var: y}, 1, api.Rtt{Mean: inf, Var: inf}},
			{api.Rtt{Mean: inf, Var: 4}, y, api.Rtt{Mean: inf, Var: inf}},
			{api.Rtt{Mean: inf, Var: inf}, y, api.Rtt{Mean: inf, Var: inf}},
		})
	}
	holdNoted(t, []noted{
		{api.Rtt{Mean: inf, Var: inf}, inf, api.Rtt{Mean: inf, Var: inf}},
		// Here d is nought, and Var falls.
		{api.Rtt{Mean: inf, Var: 4}, inf, api.Rtt{Mean: inf, Var: 3}},
		{api.Rtt{Mean: inf}, inf, api.Rtt{Mean: inf}},
		{api.Rtt{Mean: inf, Var: most}, inf, api.Rtt{Mean: inf, Var: most / 4 * 3}},
		{api.Rtt{Mean: inf, Var: 3 * tiniest}, inf, api.Rtt{Mean: inf, Var: 2 * tiniest}},
		{nothing, inf, api.Rtt{Mean: inf, Var: inf}},
	})
}
