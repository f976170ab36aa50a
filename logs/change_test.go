package logs_test

import (
	"math"
	"slices"
	"testing"

	"skerry/api"
	"skerry/logs"
)

// with answers h with that log.
func with(h api.Hard, lists ...[]api.Entry) api.Hard {
	h.Log = slices.Concat(lists...)
	return h
}

func TestPut(t *testing.T) { // P9.3, P9.5
	was := entries(1, 2, 2, 3, 3, 5)
	for _, base := range []int{0, 1, 9, maxBase - 2, maxBase} {
		h := hard(6, base, min(base, 2), was...)
		puts(t, h, base, nil, h, api.OK)
		puts(t, h, base+3, []api.Entry{}, h, api.OK)
		puts(t, h, base+5, nil, h, api.OK)
		for from := range 6 { // all there already: what stands there stays, also what is behind it
			for to := from; to <= 5; to++ {
				puts(t, h, base+from, was[from:to], h, api.OK)
				var terms []int
				for _, x := range was[from:to] {
					terms = append(terms, x.Term)
				}
				puts(t, h, base+from, entries(2, terms...), h, api.OK)
			}
		}
		for _, c := range []struct {
			from  int // behind so many
			terms []int
			stay  int // so many of the log's
		}{
			{0, []int{3}, 0}, {0, []int{3, 3, 5}, 0}, {0, []int{6, 6, 6, 6, 6, 6}, 0}, // the first is another one
			{0, []int{2, 3}, 1}, {0, []int{2, 2, 4, 4}, 2}, {0, []int{2, 2, 3, 5, 5}, 3}, {1, []int{2, 3, 5, 6}, 3}, // one in the midst
			{0, []int{2, 2, 3, 3, 4}, 4}, {2, []int{3, 3, 6}, 4}, {4, []int{3}, 4}, {4, []int{6}, 4}, // the last of them
			{0, []int{2, 2, 3, 3, 5, 5}, 5}, {3, []int{3, 5, 6, 6}, 5}, {4, []int{5, 5}, 5}, // more than there are
			{5, []int{5}, 5}, {5, []int{5, 6}, 5}, {5, []int{6, 6, 6}, 5}, // behind the last one
			{2, []int{4}, 2}, {2, []int{3, 4, 5}, 3}, {3, []int{6}, 3}, {1, []int{3, 3, 5}, 1},
		} {
			l := entries(2, c.terms...)
			puts(t, h, base+c.from, l, with(h, was[:c.stay], l[c.stay-c.from:]), api.OK)
		}
	}
}

// TestPutAsksForTermsAlone has entries come that stand there with another content.
func TestPutAsksForTermsAlone(t *testing.T) { // P9.3
	h := hard(3, 4, 1, none(1), call(2, 7), change(2, api.Conf{Full: 1}), call(3, 8))
	for _, x := range rightEntries(1) {
		puts(t, h, 4, []api.Entry{x}, h, api.OK)
	}
	for _, x := range rightEntries(2) {
		puts(t, h, 5, []api.Entry{x, x}, h, api.OK)
		puts(t, h, 5, []api.Entry{x, x, none(2)}, with(h, h.Log[:3], []api.Entry{none(2)}), api.OK)
		puts(t, h, 4, []api.Entry{x, x}, with(h, []api.Entry{x, x}), api.OK)
		puts(t, h, 6, []api.Entry{none(2), x}, with(h, h.Log[:3], []api.Entry{x}), api.OK)
		puts(t, h, 8, []api.Entry{none(3)}, with(h, h.Log, []api.Entry{none(3)}), api.OK)
	}
}

func TestPutOfIndexes(t *testing.T) { // P9.3
	for _, base := range []int{0, 1, 9, maxBase} {
		for n := range 4 {
			h := hard(3, base, min(base, 1), entries(1, slices.Repeat([]int{2}, n)...)...)
			for _, index := range []int{math.MinInt, math.MinInt + 1, -1, base - 1, base + n + 1, base + n + 2, base + 1<<32, math.MaxInt - 1, math.MaxInt} {
				for _, l := range [][]api.Entry{nil, entries(2, 2), entries(2, 3, 3), entries(2, 9)} {
					puts(t, h, index, l, api.Hard{}, api.ErrArg)
				}
			}
			for k := range n + 1 {
				puts(t, h, base+k, nil, h, api.OK)
				puts(t, h, base+k, entries(2, 3), with(h, h.Log[:k], entries(2, 3)), api.OK)
			}
		}
	}
}

func TestPutOfTerms(t *testing.T) { // P9.3
	was := entries(1, 2, 2, 4)
	for _, c := range []struct {
		base, from int
		terms      []int
		e          api.Errno
	}{
		{0, 0, []int{0}, api.ErrArg}, {0, 0, []int{-1}, api.ErrArg}, {0, 0, []int{math.MinInt}, api.ErrArg}, {0, 0, []int{6}, api.ErrArg}, {0, 0, []int{math.MaxInt}, api.ErrArg}, {0, 0, []int{1}, api.OK}, {0, 0, []int{5}, api.OK},
		{0, 0, []int{2, 1}, api.ErrArg}, {0, 0, []int{2, 2, 4, 3}, api.ErrArg}, {0, 0, []int{2, 2, 4, 6}, api.ErrArg}, {0, 0, []int{1, 2, 3, 2}, api.ErrArg}, {0, 0, []int{5, 5, 0}, api.ErrArg}, {0, 0, []int{2, 0, 4}, api.ErrArg},
		{8, 0, []int{0}, api.ErrArg}, {8, 0, []int{1}, api.ErrArg}, {8, 0, []int{2}, api.OK}, {8, 0, []int{3, 5}, api.OK}, {8, 0, []int{3, 2}, api.ErrArg}, {8, 0, []int{6}, api.ErrArg}, // BaseTerm is 2
		{0, 1, []int{1}, api.ErrArg}, {0, 1, []int{2}, api.OK}, {0, 2, []int{1, 4}, api.ErrArg}, {0, 2, []int{3}, api.OK}, {0, 3, []int{3}, api.ErrArg}, {0, 3, []int{4}, api.OK}, {0, 3, []int{5}, api.OK}, {0, 3, []int{6}, api.ErrArg}, {0, 3, []int{4, 3}, api.ErrArg},
		{8, 1, []int{1}, api.ErrArg}, {8, 3, []int{3}, api.ErrArg}, {8, 3, []int{4, 5, 5}, api.OK}, {8, 3, []int{2, 2, 4}, api.ErrArg},
	} {
		h := hard(5, c.base, min(c.base, 2), was...)
		l := entries(2, c.terms...)
		if c.e != api.OK {
			puts(t, h, c.base+c.from, l, api.Hard{}, c.e)
			continue
		}
		stay := c.from
		for stay < len(was) && stay-c.from < len(l) && was[stay].Term == l[stay-c.from].Term {
			stay++
		}
		want := with(h, was[:stay], l[stay-c.from:])
		if stay-c.from == len(l) {
			want = h
		}
		puts(t, h, c.base+c.from, l, want, api.OK)
	}
	empty := hard(0, 0, 0)
	puts(t, empty, 0, nil, empty, api.OK)
	puts(t, empty, 0, entries(2, 0), api.Hard{}, api.ErrArg)
	puts(t, empty, 0, entries(2, 1), api.Hard{}, api.ErrArg)
	high := hard(api.MaxTerm, maxBase, api.MaxTerm)
	puts(t, high, maxBase, entries(2, api.MaxTerm), with(high, entries(2, api.MaxTerm)), api.OK)
	puts(t, high, maxBase, entries(2, api.MaxTerm-1), api.Hard{}, api.ErrArg)
	puts(t, high, maxBase, entries(2, api.MaxTerm+1), api.Hard{}, api.ErrArg)
}

// TestPutOfEntries puts each entry where one of its term stands already, where another one does, and where none does.
func TestPutOfEntries(t *testing.T) { // P9.3
	for _, base := range []int{0, 9} {
		h := hard(3, base, min(base, 1), entries(1, 2, 3)...)
		for _, x := range rightEntries(3) {
			puts(t, h, base, []api.Entry{x}, with(h, []api.Entry{x}), api.OK)
			puts(t, h, base+1, []api.Entry{x}, h, api.OK)
			puts(t, h, base+1, []api.Entry{x, x, x}, with(h, h.Log, []api.Entry{x, x}), api.OK)
			puts(t, h, base+2, []api.Entry{none(3), x, none(3)}, with(h, h.Log, []api.Entry{none(3), x, none(3)}), api.OK)
		}
		for _, x := range wrongEntries(3) {
			for at := range 4 {
				list := slices.Insert(entries(2, 3, 3, 3), at, x)
				for k := range 3 {
					puts(t, h, base+k, list, api.Hard{}, api.ErrArg)
				}
			}
			puts(t, h, base+1, []api.Entry{x}, api.Hard{}, api.ErrArg)
		}
	}
}

// TestPutOfMany: nothing bounds a log here.
func TestPutOfMany(t *testing.T) { // P9.3
	h := hard(3, 9, 1, entries(1, 2, 2)...)
	l := entries(2, slices.Repeat([]int{2}, 300)...)
	puts(t, h, 10, l, with(h, h.Log, l[1:]), api.OK)
	h.Log = l
	puts(t, h, 9+300, l, with(h, l, l), api.OK)
	puts(t, h, 9+100, entries(3, 3), with(h, l[:100], entries(3, 3)), api.OK)
}

func snapsAndErrors() []struct {
	snap []byte
	e    api.Errno
} {
	return []struct {
		snap []byte
		e    api.Errno
	}{{nil, api.OK}, {[]byte{}, api.OK}, {[]byte("x"), api.OK}, {filled(api.MaxPayload), api.OK}, {filled(api.MaxPayload + 1), api.ErrLong}, {filled(4 * api.MaxPayload), api.ErrLong}}
}

func TestCompact(t *testing.T) { // P9.4
	a, b := api.Conf{Full: 1}, api.Conf{Full: 3}
	was := []api.Entry{none(2), change(2, a), call(3, 1), change(3, b), call(5, 2)}
	confs := []api.Conf{first, a, a, b, b}
	for _, base := range []int{0, 1, 9, maxBase - 5} {
		h := hard(6, base, min(base, 2), was...)
		for k := range was {
			for _, s := range snapsAndErrors() {
				want := api.Hard{Term: 6, Vote: 2, Base: base + k + 1, BaseTerm: was[k].Term, BaseConf: confs[k], Snap: s.snap, Log: was[k+1:]}
				if s.e != api.OK {
					want = api.Hard{}
				}
				compacts(t, h, base+k+1, s.snap, want, s.e)
			}
		}
	}
	long := hard(6, 4, 2, entries(1, slices.Repeat([]int{3}, 200)...)...)
	compacts(t, long, 104, []byte("s"), api.Hard{Term: 6, Vote: 2, Base: 104, BaseTerm: 3, BaseConf: first, Snap: []byte("s"), Log: long.Log[100:]}, api.OK)
}

func TestCompactOfIndexes(t *testing.T) { // P9.4
	for _, base := range []int{0, 1, 9, maxBase - 9, maxBase} {
		for n := range 4 {
			h := hard(3, base, min(base, 1), entries(1, slices.Repeat([]int{2}, n)...)...)
			for _, index := range []int{math.MinInt, math.MinInt + 1, -1, base - 1, base, base + n + 1, base + n + 2, base + 1<<32, math.MaxInt - 1, math.MaxInt} {
				compacts(t, h, index, nil, api.Hard{}, api.ErrArg)
				compacts(t, h, index, filled(api.MaxPayload+1), api.Hard{}, api.ErrArg)
			}
		}
	}
	h := hard(3, maxBase-2, 1, entries(1, 1, 2, 2, 3)...) // its last index is maxBase + 2
	want := api.Hard{Term: 3, Vote: 2, BaseConf: first}
	want.Base, want.BaseTerm, want.Log = maxBase-1, 1, h.Log[1:]
	compacts(t, h, maxBase-1, nil, want, api.OK)
	want.Base, want.BaseTerm, want.Log = maxBase, 2, h.Log[2:]
	compacts(t, h, maxBase, nil, want, api.OK)
	compacts(t, h, maxBase+1, nil, api.Hard{}, api.ErrArg)
	compacts(t, h, maxBase+2, nil, api.Hard{}, api.ErrArg)
	compacts(t, h, maxBase+1, filled(api.MaxPayload+1), api.Hard{}, api.ErrArg)
	compacts(t, want, maxBase+1, nil, api.Hard{}, api.ErrArg)
}

func TestInstall(t *testing.T) { // P9.4
	was := []api.Entry{none(2), change(2, api.Conf{Full: 1}), call(3, 1), change(3, api.Conf{Full: 3}), call(5, 2)}
	c := api.Conf{Full: 8, Learn: 1}
	for _, base := range []int{0, 1, 9, maxBase - 7} {
		for _, l := range [][]api.Entry{was, nil} {
			h := hard(6, base, min(base, 2), l...)
			for index := base + 1; index <= base+7; index++ {
				for term := 1; term <= 6; term++ {
					want := api.Hard{Term: 6, Vote: 2, Base: index, BaseTerm: term, BaseConf: c, Snap: []byte("new")}
					if k := index - base - 1; k < len(l) && l[k].Term == term {
						want.Log = l[k+1:]
					}
					if term < h.BaseTerm {
						installs(t, h, index, term, c, []byte("new"), api.Hard{}, api.ErrArg)
					} else {
						installs(t, h, index, term, c, []byte("new"), want, api.OK)
					}
				}
			}
		}
	}
}

func TestInstallOfIndexes(t *testing.T) { // P9.4
	for _, base := range []int{0, 1, 9, maxBase - 1, maxBase} {
		for n := range 4 {
			h := hard(3, base, min(base, 1), entries(1, slices.Repeat([]int{2}, n)...)...)
			for _, index := range []int{math.MinInt, math.MinInt + 1, -1, 0, base - 1, base, maxBase + 1, maxBase + 2, math.MaxInt - 1, math.MaxInt} {
				installs(t, h, index, 2, first, nil, api.Hard{}, api.ErrArg)
			}
			for _, index := range []int{base + n + 1, base + n + 2, base + 1<<32, maxBase - 1, maxBase} {
				want, e := api.Hard{Term: 3, Vote: 2, Base: index, BaseTerm: 3, BaseConf: first}, api.OK
				if index <= base || index > maxBase {
					want, e = api.Hard{}, api.ErrArg
				}
				installs(t, h, index, 3, first, nil, want, e)
			}
		}
	}
	h := hard(3, maxBase-2, 1, entries(1, 1, 2, 2, 3)...) // its last index is maxBase + 2
	installs(t, h, maxBase, 2, first, nil, api.Hard{Term: 3, Vote: 2, Base: maxBase, BaseTerm: 2, BaseConf: first, Log: h.Log[2:]}, api.OK)
	installs(t, h, maxBase+1, 2, first, nil, api.Hard{}, api.ErrArg)
	installs(t, h, maxBase+2, 3, first, nil, api.Hard{}, api.ErrArg)
}

func TestInstallOfTerms(t *testing.T) { // P9.4
	for _, h := range []api.Hard{hard(5, 0, 0), hard(5, 0, 0, entries(1, 2, 4)...), hard(5, 7, 3), hard(5, 7, 3, entries(1, 3, 4)...), hard(5, 7, 5), hard(5, 7, 1, none(5)), hard(api.MaxTerm, 7, api.MaxTerm), hard(api.MaxTerm, 0, 0), hard(0, 0, 0)} {
		for _, term := range []int{math.MinInt, -1, 0, 1, h.BaseTerm - 1, h.BaseTerm, h.BaseTerm + 1, h.Term - 1, h.Term, h.Term + 1, api.MaxTerm + 1, math.MaxInt} {
			index := h.Base + 9
			want, e := api.Hard{Term: h.Term, Vote: 2, Base: index, BaseTerm: term, BaseConf: first}, api.OK
			if term < 1 || term < h.BaseTerm || term > h.Term {
				want, e = api.Hard{}, api.ErrArg
			}
			installs(t, h, index, term, first, nil, want, e)
		}
	}
}

func TestInstallOfConfsAndSnaps(t *testing.T) { // P9.4
	h := hard(5, 7, 3, entries(1, 3, 4, 4)...)
	for _, s := range snapsAndErrors() {
		for _, c := range rightConfs() {
			want := api.Hard{Term: 5, Vote: 2, Base: 9, BaseTerm: 4, BaseConf: c, Snap: s.snap, Log: h.Log[2:]}
			if s.e != api.OK {
				want = api.Hard{}
			}
			installs(t, h, 9, 4, c, s.snap, want, s.e)
		}
		for _, c := range wrongConfs() {
			installs(t, h, 9, 4, c, s.snap, api.Hard{}, api.ErrConf)
			installs(t, h, 12, 4, c, s.snap, api.Hard{}, api.ErrConf)
		}
	}
}

// TestTheOrderOfErrors has each set of faults, and the first of them told.
func TestTheOrderOfErrors(t *testing.T) { // P9.3, P9.4
	bad := hard(5, 7, 3, none(4), none(3))
	for faults := range 32 {
		h, index, term, c, snap := hard(5, 7, 3, none(4), none(4)), 8, 4, api.Conf{Full: 1}, []byte("s")
		l, want, compacted := entries(2, 5), api.OK, api.OK
		if faults&1 > 0 {
			snap, want, compacted = filled(api.MaxPayload+1), api.ErrLong, api.ErrLong
		}
		if faults&2 > 0 {
			c, want = api.Conf{}, api.ErrConf
		}
		if faults&4 > 0 {
			term, want = 6, api.ErrArg
		}
		if faults&8 > 0 {
			index, l, want, compacted = 6, nil, api.ErrArg, api.ErrArg
		}
		if faults&16 > 0 {
			h, want, compacted = bad, api.ErrBad, api.ErrBad
		}
		if want != api.OK {
			installs(t, h, index, term, c, snap, api.Hard{}, want)
		}
		if compacted != api.OK {
			compacts(t, h, index, snap, api.Hard{}, compacted)
		}
		if faults&24 > 0 {
			puts(t, h, index, l, api.Hard{}, compacted)
		}
	}
}

// TestTermAndVoteStay at each number that they may be.
func TestTermAndVoteStay(t *testing.T) { // P9.3, P9.4
	for vote := -1; vote < api.MaxNodes; vote++ {
		for _, term := range []int{3, 4, 1 << 33, api.MaxTerm} {
			h := hard(term, 5, 1, entries(1, 1, 2, 3)...)
			h.Vote = vote
			puts(t, h, 6, entries(2, 3), with(h, h.Log[:1], entries(2, 3)), api.OK)
			puts(t, h, 8, nil, h, api.OK)
			compacts(t, h, 7, nil, api.Hard{Term: term, Vote: vote, Base: 7, BaseTerm: 2, BaseConf: first, Log: h.Log[2:]}, api.OK)
			installs(t, h, 9, 3, first, nil, api.Hard{Term: term, Vote: vote, Base: 9, BaseTerm: 3, BaseConf: first}, api.OK)
			installs(t, h, 6, 1, first, nil, api.Hard{Term: term, Vote: vote, Base: 6, BaseTerm: 1, BaseConf: first, Log: h.Log[1:]}, api.OK)
		}
	}
}

// TestOneMemoryHandedInTwice: what is handed in may share memory itself.
func TestOneMemoryHandedInTwice(t *testing.T) { // P9.3, P9.4, R2
	all := entries(1, 2, 2, 2, 2, 3, 3)
	before := slices.Clone(all)
	h := hard(4, 5, 1, all[:3]...)
	next, e := logs.Put(h, 6, all[2:6])
	if e != api.OK || !alikeLists(next.Log, []api.Entry{before[0], before[1], before[2], before[4], before[5]}) || !alikeLists(all, before) {
		t.Errorf("error %d, %s", e, toldHard(next))
	}
	snap := []byte("snapshot")
	h.Snap = snap[:4]
	one, e1 := logs.Compact(h, 6, snap)
	two, e2 := logs.Install(h, 6, 2, first, h.Snap)
	scribbleBytes(snap)
	if e1 != api.OK || e2 != api.OK || string(one.Snap) != "snapshot" || string(two.Snap) != "snap" {
		t.Errorf("errors %d, %d, %s, %s", e1, e2, toldHard(one), toldHard(two))
	}
}
