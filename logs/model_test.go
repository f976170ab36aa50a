package logs_test

import (
	"math"
	"slices"
	"testing"

	"skerry/api"
	"skerry/conf"
	"skerry/logs"
	"skerry/sess"
)

// The chapter told plainly, by what each index has: what logs is held against. (Calls and configurations are others': their own tests hold them.)

// byIndex answers the entries of a log by their indexes.
func byIndex(h api.Hard) map[int]api.Entry {
	all := map[int]api.Entry{}
	for k, x := range h.Log {
		all[h.Base+k+1] = x
	}
	return all
}

// listed answers the entries of the indexes from there on, as long as there are some.
func listed(all map[int]api.Entry, from int) []api.Entry {
	var l []api.Entry
	for {
		x, is := all[from]
		if !is {
			return l
		}
		l = append(l, x)
		from++
	}
}

// modelStands says whether x is right, and may stand behind an entry of the term ahead.
func modelStands(x api.Entry, ahead, term int) bool {
	if x.Term <= 0 || x.Term > term || x.Term < ahead {
		return false
	}
	noCall := alike(api.Entry{Call: x.Call}, api.Entry{})
	noConf := x.Conf.Full == 0 && x.Conf.Wit == 0 && x.Conf.Learn == 0 && x.Conf.LearnWit == 0
	return x.Kind == 0 && noCall && noConf || x.Kind == 1 && noConf && sess.Right(x.Call) == 0 || x.Kind == 2 && noCall && conf.Check(x.Conf) == 0
}

func modelStand(l []api.Entry, ahead, term int) bool {
	for _, x := range l {
		if !modelStands(x, ahead, term) {
			return false
		}
		ahead = x.Term
	}
	return true
}

func modelCheck(h api.Hard) api.Errno {
	wrong := h.Term < 0 || h.Term > 1099511627776 || h.Vote < -1 || h.Vote > 6 || h.Base < 0 || h.Base > 1099511627776 || h.BaseTerm < 0 || h.BaseTerm > h.Term
	wrong = wrong || h.Base == 0 && h.BaseTerm != 0 || h.Base != 0 && h.BaseTerm == 0 || h.Base == 0 && len(h.Snap) != 0 || len(h.Snap) > 16384
	if wrong || conf.Check(h.BaseConf) != api.OK || !modelStand(h.Log, h.BaseTerm, h.Term) {
		return api.ErrBad
	}
	return api.OK
}

func modelTerm(h api.Hard, index int) int {
	if x, is := byIndex(h)[index]; is {
		return x.Term
	} else if index == h.Base {
		return h.BaseTerm
	}
	return -1
}

func modelLast(h api.Hard) (int, int) {
	index, term := h.Base, h.BaseTerm
	for _, x := range h.Log {
		index, term = index+1, x.Term
	}
	return index, term
}

func modelConf(h api.Hard, upto int) (api.Conf, int) {
	c, index := h.BaseConf, h.Base
	for i, x := range byIndex(h) {
		if x.Kind == 2 && i <= upto && i > index {
			c, index = x.Conf, i
		}
	}
	return c, index
}

func modelPut(h api.Hard, index int, l []api.Entry) (api.Hard, api.Errno) {
	if modelCheck(h) != api.OK {
		return api.Hard{}, api.ErrBad
	}
	last, _ := modelLast(h)
	if index < h.Base || index > last || !modelStand(l, modelTerm(h, index), h.Term) {
		return api.Hard{}, api.ErrArg
	}
	all := byIndex(h)
	other := false
	for k, x := range l {
		at := index + 1 + k
		if was, is := all[at]; !other && is && was.Term == x.Term {
			continue
		}
		if !other {
			for i := at; i <= last; i++ {
				delete(all, i)
			}
		}
		other = true
		all[at] = x
	}
	return with(h, listed(all, h.Base+1)), api.OK
}

func modelCompact(h api.Hard, index int, snap []byte) (api.Hard, api.Errno) {
	last, _ := modelLast(h)
	switch {
	case modelCheck(h) != api.OK:
		return api.Hard{}, api.ErrBad
	case index <= h.Base || index > last || index > 1099511627776:
		return api.Hard{}, api.ErrArg
	case len(snap) > 16384:
		return api.Hard{}, api.ErrLong
	}
	c, _ := modelConf(h, index)
	return api.Hard{Term: h.Term, Vote: h.Vote, Base: index, BaseTerm: modelTerm(h, index), BaseConf: c, Snap: snap, Log: listed(byIndex(h), index+1)}, api.OK
}

func modelInstall(h api.Hard, index, term int, c api.Conf, snap []byte) (api.Hard, api.Errno) {
	switch {
	case modelCheck(h) != api.OK:
		return api.Hard{}, api.ErrBad
	case index <= h.Base || index > 1099511627776 || term <= 0 || term > h.Term || term < h.BaseTerm:
		return api.Hard{}, api.ErrArg
	case conf.Check(c) != api.OK:
		return api.Hard{}, api.ErrConf
	case len(snap) > 16384:
		return api.Hard{}, api.ErrLong
	}
	next := api.Hard{Term: h.Term, Vote: h.Vote, Base: index, BaseTerm: term, BaseConf: c, Snap: snap}
	if modelTerm(h, index) == term {
		next.Log = listed(byIndex(h), index+1)
	}
	return next, api.OK
}

// around answers indexes at all edges of a log, the least and the greatest numbers among them.
func around(h api.Hard) []int {
	l := []int{math.MinInt, math.MinInt + 1, -maxBase, -2, -1, 0, 1, maxBase, maxBase + 1, math.MaxInt - 1, math.MaxInt}
	for i := h.Base - 2; i <= h.Base+len(h.Log)+2; i++ {
		l = append(l, i)
	}
	return l
}

// asks holds all seven questions against the model; the log need not be right.
func asks(t *testing.T, h api.Hard) {
	t.Helper()
	room, all := withRoom(given{h: h})
	before := copied(all)
	last, lastTerm := modelLast(h)
	lastIs(t, room.h, last, lastTerm)
	entries := byIndex(h)
	for _, index := range around(h) {
		term := modelTerm(h, index)
		termIs(t, room.h, index, term)
		x, is := entries[index]
		entryIs(t, room.h, index, x, is)
		c, at := modelConf(h, index)
		confIs(t, room.h, index, c, at)
		for _, n := range []int{math.MinInt, -2, -1, 0, 1, 2, 3, 4, 5, lastTerm, math.MaxInt} {
			fitsIs(t, room.h, index, n, n == term && n != -1)
			newerIs(t, room.h, index, n, n > lastTerm || n == lastTerm && index >= last)
			l := listed(entries, index)
			if is := logs.From(room.h, index, n); !alikeLists(is, l[:min(len(l), max(n, 0))]) {
				t.Errorf("From of %s at %d, %d: %s", toldHard(h), index, n, toldList(is))
			}
		}
	}
	if !alikeGiven(all, before) {
		t.Errorf("a question changed %s", toldHard(h))
	}
}

// rising answers all lists of up to so many terms from least to most that never fall.
func rising(least, most, long int) [][]int {
	all := [][]int{nil}
	for i := 0; i < len(all); i++ {
		l := all[i]
		for term := least; term <= most && len(l) < long; term++ {
			if len(l) == 0 || term >= l[len(l)-1] {
				all = append(all, append(slices.Clone(l), term))
			}
		}
	}
	return all
}

// anyTerms answers all lists of up to so many terms from 0 to most.
func anyTerms(most, long int) [][]int {
	all := [][]int{nil}
	for i := 0; i < len(all); i++ {
		for term := 0; term <= most && len(all[i]) < long; term++ {
			all = append(all, append(slices.Clone(all[i]), term))
		}
	}
	return all
}

// mixed answers entries of these terms, of all kinds in turn.
func mixed(tag int, terms ...int) []api.Entry {
	l := entries(tag, terms...)
	for k := range l {
		switch (tag + k) % 4 {
		case 1:
			l[k] = none(terms[k])
		case 2:
			l[k] = change(terms[k], api.Conf{Full: 1 + k, Wit: 64, Learn: 32 * (tag % 2)})
		}
	}
	return l
}

// few answers all right logs of terms up to most, of up to so many entries, behind bases of 0 and some others.
func few(most, long int) []api.Hard {
	var l []api.Hard
	for term := range most + 1 {
		for _, terms := range rising(1, term, long) {
			l = append(l, hard(term, 0, 0, mixed(len(l), terms...)...))
		}
		for baseTerm := 1; baseTerm <= term; baseTerm++ {
			for _, terms := range rising(baseTerm, term, long) {
				base := []int{1, 2, 7, maxBase - 2, maxBase}[len(l)%5]
				l = append(l, hard(term, base, baseTerm, mixed(len(l), terms...)...))
			}
		}
	}
	return l
}

func TestQuestionsOfFewEntries(t *testing.T) { // P9.1, P9.2
	for _, h := range few(4, 4) {
		checkIs(t, h, api.OK)
		asks(t, h)
		if t.Failed() {
			return
		}
	}
}

func TestCheckOfAllTerms(t *testing.T) { // P9.1
	for _, terms := range anyTerms(4, 4) {
		l := mixed(len(terms), terms...)
		for term := range 5 {
			checkIs(t, hard(term, 0, 0, l...), modelCheck(hard(term, 0, 0, l...)))
			for baseTerm := range 5 {
				h := hard(term, 3, baseTerm, l...)
				checkIs(t, h, modelCheck(h))
			}
		}
		if t.Failed() {
			return
		}
	}
}

func TestPutOfAllTerms(t *testing.T) { // P9.3
	told := map[api.Errno]int{}
	all := anyTerms(4, 3)
	for _, h := range few(3, 3) {
		for index := h.Base - 1; index <= h.Base+len(h.Log)+1; index++ {
			for k, terms := range all {
				l := mixed(10+k, terms...)
				want, e := modelPut(h, index, l)
				told[e]++
				puts(t, h, index, l, want, e)
			}
			if t.Failed() {
				return
			}
		}
	}
	if told[api.OK] < 1000 || told[api.ErrArg] < 1000 || len(told) != 2 {
		t.Errorf("the errors are %v", told)
	}
}

func TestCompactAndInstallOfAllIndexes(t *testing.T) { // P9.4
	told := map[api.Errno]int{}
	for k, h := range few(4, 3) {
		snap := filled(k % 7)
		for _, index := range around(h) {
			want, e := modelCompact(h, index, snap)
			told[e]++
			compacts(t, h, index, snap, want, e)
			for term := -1; term <= h.Term+1; term++ {
				for _, c := range []api.Conf{{Full: 9}, {Wit: 9}} {
					want, e := modelInstall(h, index, term, c, snap)
					told[e]++
					installs(t, h, index, term, c, snap, want, e)
				}
			}
		}
		if t.Failed() {
			return
		}
	}
	if told[api.OK] < 1000 || told[api.ErrArg] < 1000 || told[api.ErrConf] < 1000 || len(told) != 3 {
		t.Errorf("the errors are %v", told)
	}
}

// mustPut puts what may be put.
func mustPut(t *testing.T, h api.Hard, index int, l []api.Entry) api.Hard {
	t.Helper()
	next, e := logs.Put(h, index, l)
	if e != api.OK {
		t.Fatalf("%s, behind %d, of %s: error %d", toldList(l), index, toldHard(h), e)
	}
	return next
}

func mustCompact(t *testing.T, h api.Hard, index int) api.Hard {
	t.Helper()
	next, e := logs.Compact(h, index, []byte("compacted"))
	if e != api.OK {
		t.Fatalf("up to %d, of %s: error %d", index, toldHard(h), e)
	}
	return next
}

func same(t *testing.T, what string, a, b api.Hard) {
	t.Helper()
	if !alikeHards(a, b) {
		t.Fatalf("%s: %s\nnot %s", what, toldHard(a), toldHard(b))
	}
}

// holdPut holds what follows of a put by P9.5's words by themselves.
func holdPut(t *testing.T, h api.Hard, index int, l []api.Entry) {
	t.Helper()
	next := mustPut(t, h, index, l)
	if logs.Check(next) != api.OK {
		t.Fatalf("not right: %s", toldHard(next))
	}
	same(t, "twice", mustPut(t, next, index, l), next)
	for k := range len(l) + 1 {
		same(t, "part by part", mustPut(t, mustPut(t, h, index, l[:k]), index+k, l[k:]), next)
		if !logs.Fits(next, index+k, append([]api.Entry{{Term: logs.Term(h, index)}}, l...)[k].Term) {
			t.Fatalf("%s are not there: %s", toldList(l), toldHard(next))
		}
	}
	for i := h.Base; i <= index; i++ {
		a, isA := logs.Entry(h, i)
		if b, isB := logs.Entry(next, i); isA != isB || !alike(a, b) || logs.Term(h, i) != logs.Term(next, i) {
			t.Fatalf("ahead, at %d: %s, of %s", i, toldHard(next), toldHard(h))
		}
	}
	for k, x := range l {
		a, isA := logs.Entry(h, index+k+1)
		b, _ := logs.Entry(next, index+k+1)
		if !alike(b, x) && (!isA || !alike(a, b) || a.Term != x.Term) {
			t.Fatalf("%s is not there: %s", told(x), toldHard(next))
		}
	}
	was, _ := logs.Last(h)
	if last, _ := logs.Last(next); last != index+len(l) && (last != was || last < index+len(l)) {
		t.Fatalf("it ends with %d: %s", last, toldHard(next))
	}
	same(t, "all but the log", with(next, nil), with(h, nil))
}

func TestWhatIsPut(t *testing.T) { // P9.5
	for _, h := range few(3, 4) {
		for index := h.Base; index <= h.Base+len(h.Log); index++ {
			for k, terms := range rising(max(logs.Term(h, index), 1), h.Term, 4) {
				holdPut(t, h, index, mixed(7+k, terms...))
			}
		}
	}
}

// holdCompact holds what follows of compacting by P9.5's words by themselves.
func holdCompact(t *testing.T, h api.Hard, index int) {
	t.Helper()
	next := mustCompact(t, h, index)
	if logs.Check(next) != api.OK || next.Base != index || string(next.Snap) != "compacted" {
		t.Fatalf("up to %d: %s, of %s", index, toldHard(next), toldHard(h))
	}
	last, lastTerm := logs.Last(h)
	lastIs(t, next, last, lastTerm)
	for i := index; i <= last+2; i++ {
		termIs(t, next, i, logs.Term(h, i))
		want, _ := logs.Conf(h, i)
		if c, _ := logs.Conf(next, i); c != want {
			t.Errorf("in force at %d: %+v, not %+v", i, c, want)
		}
		if i > index {
			x, is := logs.Entry(h, i)
			entryIs(t, next, i, x, is)
			if l := logs.From(next, i, 9); !alikeLists(l, logs.From(h, i, 9)) {
				t.Errorf("from %d: %s, of %s", i, toldList(l), toldHard(h))
			}
		}
	}
	for _, i := range around(h) {
		for term := -1; term <= h.Term+1; term++ {
			newerIs(t, next, i, term, logs.Newer(h, i, term))
			if i >= index {
				fitsIs(t, next, i, term, logs.Fits(h, i, term))
			}
		}
	}
	for further := index + 1; further <= min(last, maxBase); further++ {
		same(t, "step by step", mustCompact(t, next, further), mustCompact(t, h, further))
	}
}

func TestWhatIsCompacted(t *testing.T) { // P9.5
	for _, h := range few(3, 4) {
		for index := h.Base + 1; index <= min(h.Base+len(h.Log), maxBase); index++ {
			holdCompact(t, h, index)
			if t.Failed() {
				return
			}
			for behind := index; behind <= h.Base+len(h.Log); behind++ {
				for k, terms := range rising(logs.Term(h, behind), h.Term, 2) {
					l := mixed(7+k, terms...)
					same(t, "put, and compacted", mustPut(t, mustCompact(t, h, index), behind, l), mustCompact(t, mustPut(t, h, behind, l), index))
				}
			}
		}
	}
}

// strewn answers numbers by a fixed rule.
type strewn uint64

func (s *strewn) below(n int) int {
	*s ^= *s << 13
	*s ^= *s >> 7
	*s ^= *s << 17
	return int(uint64(*s) >> 11 % uint64(n))
}

func pick[T any](s *strewn, l []T) T { return l[s.below(len(l))] }

// strewnEntry is of that term, and seldom not right.
func strewnEntry(s *strewn, term int) api.Entry {
	if s.below(40) == 0 {
		return pick(s, wrongEntries(term))
	}
	x := pick(s, rightEntries(term))
	if x.Kind == api.ECall && s.below(2) == 0 {
		x = call(term, 1+s.below(1000))
	}
	return x
}

// strewnPut picks where to put, and what: mostly terms that rise from the one that stands there.
func strewnPut(s *strewn, h api.Hard) (int, []api.Entry) {
	index := h.Base + s.below(len(h.Log)+1)
	if s.below(12) == 0 {
		index = h.Base - 1 + s.below(len(h.Log)+4)
	}
	term := max(logs.Term(h, index), 1)
	var l []api.Entry
	for range s.below(10) {
		if stands := logs.Term(h, index+1+len(l)); stands >= term && s.below(4) > 0 {
			term = stands
		} else if s.below(6) == 0 && term < h.Term {
			term++
		}
		l = append(l, strewnEntry(s, term))
	}
	if len(l) > 0 && s.below(12) == 0 {
		l[s.below(len(l))].Term = s.below(h.Term + 2)
	}
	return index, l
}

// TestRowsOfChanges lets a log grow, be cut, be compacted and put anew, and holds each step against the model.
func TestRowsOfChanges(t *testing.T) { // P9.3, P9.4, P9.5
	s := strewn(0x2545f4914f6cdd1d)
	told := map[api.Errno]int{}
	for range 40 {
		h, _ := logs.Begin(first)
		for range 250 {
			h.Vote = s.below(8) - 1
			if s.below(5) == 0 {
				h.Term++
			}
			var next api.Hard
			var e api.Errno
			switch s.below(12) {
			case 0:
				index, snap := h.Base+s.below(min(len(h.Log), 6)+2), filled(s.below(9))
				next, e = modelCompact(h, index, snap)
				compacts(t, h, index, snap, next, e)
			case 1:
				index, snap := h.Base+s.below(len(h.Log)+3), filled(s.below(9))
				term, c := pick(&s, []int{logs.Term(h, index), h.Term, h.BaseTerm, s.below(h.Term + 2)}), pick(&s, append(rightConfs(), api.Conf{}))
				next, e = modelInstall(h, index, term, c, snap)
				installs(t, h, index, term, c, snap, next, e)
			default:
				index, l := strewnPut(&s, h)
				next, e = modelPut(h, index, l)
				puts(t, h, index, l, next, e)
				if e == api.OK {
					holdPut(t, h, index, l)
				}
			}
			if t.Failed() {
				return
			}
			told[e]++
			if e == api.OK {
				h = next
			}
		}
		asks(t, h)
	}
	if told[api.OK] < 1000 || told[api.ErrArg] < 100 || told[api.ErrConf] < 10 {
		t.Errorf("the errors are %v", told)
	}
}
