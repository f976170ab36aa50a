package rtt_test

import (
	"slices"
	"testing"

	"skerry/api"
	"skerry/rtt"
)

// worstOf asks with memory around the list that nobody may read, nor write: what is wrong, and what is worse than all.
func worstOf(t *testing.T, l []api.Rtt) (api.Rtt, api.Errno) {
	t.Helper()
	around := []api.Rtt{{Mean: minus, Var: -1}, {Mean: inf, Var: inf}}
	memory := slices.Concat(around, l, around)
	was := slices.Clone(memory)
	got, e := rtt.Worst(memory[len(around) : len(around)+len(l)])
	if !slices.EqualFunc(memory, was, alike) {
		t.Errorf("Worst of %v has changed what it was handed", l)
	}
	return got, e
}

func holdWorst(t *testing.T, l []api.Rtt, want api.Rtt, wantE api.Errno) {
	t.Helper()
	got, e := worstOf(t, l)
	if !alike(got, want) || e != wantE {
		t.Errorf("Worst of %v: %s, error %d, not %s, error %d", l, told(got), e, told(want), wantE)
	}
}

func TestWorstOfNoneAndOne(t *testing.T) { // P12.3
	got, e := rtt.Worst(nil)
	isThe(t, "Worst of nil", got, e, nothing, api.OK)
	got, e = rtt.Worst([]api.Rtt{})
	isThe(t, "Worst of an empty list", got, e, nothing, api.OK)
	holdWorst(t, nil, nothing, api.OK)
	for _, r := range rights() {
		holdWorst(t, []api.Rtt{r}, r, api.OK)
		holdWorst(t, []api.Rtt{r, r}, r, api.OK)
		holdWorst(t, []api.Rtt{nothing, r}, r, api.OK)
		holdWorst(t, []api.Rtt{r, nothing}, r, api.OK)
	}
	for _, r := range wrongs() {
		holdWorst(t, []api.Rtt{r}, api.Rtt{}, api.ErrArg)
	}
}

func TestWorstByHand(t *testing.T) { // P12.3
	for _, c := range []struct {
		l    []api.Rtt
		want api.Rtt
	}{
		{[]api.Rtt{{Mean: 8, Var: 4}, {Mean: 9, Var: 1}, {Mean: 7, Var: 9}}, api.Rtt{Mean: 9, Var: 1}},
		{[]api.Rtt{{Mean: 9}, {Mean: 8}, {Mean: 7}}, api.Rtt{Mean: 9}},
		{[]api.Rtt{{Mean: 7}, {Mean: 8}, {Mean: 9}}, api.Rtt{Mean: 9}},
		{[]api.Rtt{{Mean: 8, Var: 4}, {Mean: 8, Var: 5}, {Mean: 8, Var: 3}}, api.Rtt{Mean: 8, Var: 5}},
		{[]api.Rtt{{Mean: 8, Var: 5}, {Mean: 8, Var: 4}}, api.Rtt{Mean: 8, Var: 5}},
		{[]api.Rtt{{Mean: 8, Var: 5}, {Mean: 8, Var: 5}}, api.Rtt{Mean: 8, Var: 5}},
		{[]api.Rtt{{}, {}}, api.Rtt{}},
		{[]api.Rtt{{}, {Var: tiniest}}, api.Rtt{Var: tiniest}},
		{[]api.Rtt{{Var: most}, {Mean: tiniest}}, api.Rtt{Mean: tiniest}},
		{[]api.Rtt{{Var: inf}, {Mean: tiniest}, {}}, api.Rtt{Mean: tiniest}},
		{[]api.Rtt{{Var: inf}, {Var: most}}, api.Rtt{Var: inf}},
		{[]api.Rtt{{Mean: inf}, {Mean: most, Var: inf}}, api.Rtt{Mean: inf}},
		{[]api.Rtt{{Mean: inf}, {Mean: inf, Var: tiniest}, {Mean: inf}}, api.Rtt{Mean: inf, Var: tiniest}},
		{[]api.Rtt{{Mean: inf, Var: inf}, {Mean: inf, Var: most}}, api.Rtt{Mean: inf, Var: inf}},
		{[]api.Rtt{{Mean: inf, Var: inf}, {Mean: inf, Var: inf}}, api.Rtt{Mean: inf, Var: inf}},
		{[]api.Rtt{nothing, nothing, nothing}, nothing},
		{[]api.Rtt{nothing, {}, nothing}, api.Rtt{}},
		{[]api.Rtt{nothing, {Mean: inf, Var: inf}, nothing, {Mean: 1}}, api.Rtt{Mean: inf, Var: inf}},
		{[]api.Rtt{{Mean: 1}, nothing, {Mean: 2}, nothing}, api.Rtt{Mean: 2}},
		{[]api.Rtt{{Mean: 2}, nothing, {Mean: 1, Var: 9}}, api.Rtt{Mean: 2}},
	} {
		holdWorst(t, c.l, c.want, api.OK)
	}
}

func TestWorstWithAWrongOneAnywhere(t *testing.T) { // P12.3
	for _, wrong := range wrongs() {
		for _, l := range [][]api.Rtt{{{}, {Mean: 8, Var: 4}, {Mean: inf, Var: inf}, {Mean: 1}}, {nothing, nothing}, {{Mean: inf, Var: inf}}} {
			for at := range len(l) + 1 {
				holdWorst(t, slices.Insert(slices.Clone(l), at, wrong), api.Rtt{}, api.ErrArg)
			}
		}
	}
}

func TestWorstOfAllShortLists(t *testing.T) { // P12.3
	ones := []api.Rtt{
		nothing, {}, {Var: tiniest}, {Var: inf}, {Mean: tiniest}, {Mean: 8, Var: 4}, {Mean: 8, Var: 5}, {Mean: most, Var: 1}, {Mean: inf}, {Mean: inf, Var: inf},
		{Mean: nan, Var: 1}, {Mean: minus}, {Mean: 8, Var: otherNaNs()[0]},
	}
	lists := [][]api.Rtt{nil}
	for from := 0; len(lists[from]) < 4; from++ {
		for _, r := range ones {
			lists = append(lists, append(slices.Clone(lists[from]), r))
		}
	}
	for _, l := range lists {
		want, wantE := modelWorst(l)
		holdWorst(t, l, want, wantE)
	}
}

func TestWorstOfAllPairs(t *testing.T) { // P12.3
	l := rights()
	for _, a := range l {
		for _, b := range l {
			want, wantE := modelWorst([]api.Rtt{a, b})
			if got, e := rtt.Worst([]api.Rtt{a, b}); !alike(got, want) || e != wantE {
				t.Fatalf("Worst of %s and %s: %s, error %d", told(a), told(b), told(got), e)
			}
		}
	}
}
