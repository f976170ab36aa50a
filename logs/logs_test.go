package logs_test

import (
	"bytes"
	"fmt"
	"math"
	"slices"
	"strings"
	"testing"

	"skerry/api"
	"skerry/logs"
)

const (
	maxBase = 1 << 40
	theNaN  = 0x7ff8000000000001
)

var minus, inf, nan, otherNaN = math.Copysign(0, -1), math.Inf(1), math.Float64frombits(theNaN), math.Float64frombits(0xfff8000000000123)

func number(x float64) api.Value { return api.Value{Kind: api.Num, Num: x} }

func text(s string) api.Value { return api.Value{Kind: api.Text, Text: s} }

func put(key string, v api.Value) api.Cmd { return api.Cmd{Kind: api.OpPut, Key: key, Val: v} }

func callOf(client, seq int, c api.Cmd) api.Call { return api.Call{Client: client, Seq: seq, Cmd: c} }

func none(term int) api.Entry { return api.Entry{Term: term} }

// call is told from the others by its number.
func call(term, seq int) api.Entry {
	return api.Entry{Term: term, Kind: api.ECall, Call: callOf(1+seq%4, seq, put("a", number(float64(seq))))}
}

func change(term int, c api.Conf) api.Entry { return api.Entry{Term: term, Kind: api.EConf, Conf: c} }

// first is the configuration ahead of all entries.
var first = api.Conf{Full: 3, Wit: 4, Learn: 8, LearnWit: 16}

// entries answers calls of these terms; those of one tag are unlike those of any other one.
func entries(tag int, terms ...int) []api.Entry {
	var l []api.Entry
	for k, term := range terms {
		l = append(l, call(term, 100*tag+k+1))
	}
	return l
}

// hard is a right one, as long as the entries are.
func hard(term, base, baseTerm int, l ...api.Entry) api.Hard {
	h := api.Hard{Term: term, Vote: 2, Base: base, BaseTerm: baseTerm, BaseConf: first, Log: l}
	if base > 0 {
		h.Snap = []byte("snapshot")
	}
	return h
}

func filled(n int) []byte { return bytes.Repeat([]byte{0xa5}, n) }

func rightConfs() []api.Conf {
	return []api.Conf{{Full: 1}, {Full: 127}, {Full: 64, Wit: 63}, {Full: 1, Learn: 126}, {Full: 1, LearnWit: 126}, {Full: 1, Wit: 6, Learn: 24, LearnWit: 96}}
}

func wrongConfs() []api.Conf {
	return []api.Conf{{}, {Wit: 1}, {Learn: 1}, {LearnWit: 1}, {Full: 128}, {Full: -1}, {Full: 1, Wit: 1}, {Full: 1, Wit: 2, Learn: 2}, {Full: 1, LearnWit: 1}, {Full: 1, Wit: 128}, {Full: 1, Learn: -2}, {Full: 1, LearnWit: math.MinInt}, {Full: math.MaxInt}}
}

// alikeValues holds bits, so that no nought and no NaN is taken for another.
func alikeValues(a, b api.Value) bool {
	return a.Kind == b.Kind && math.Float64bits(a.Num) == math.Float64bits(b.Num) && a.Text == b.Text
}

func alike(a, b api.Entry) bool {
	x, y := a.Call, b.Call
	return a.Term == b.Term && a.Kind == b.Kind && a.Conf == b.Conf && x.Client == y.Client && x.Seq == y.Seq &&
		x.Cmd.Kind == y.Cmd.Kind && x.Cmd.Key == y.Cmd.Key && alikeValues(x.Cmd.Old, y.Cmd.Old) && alikeValues(x.Cmd.Val, y.Cmd.Val)
}

func alikeLists(a, b []api.Entry) bool { return slices.EqualFunc(a, b, alike) }

func alikeHards(a, b api.Hard) bool {
	return a.Term == b.Term && a.Vote == b.Vote && a.Base == b.Base && a.BaseTerm == b.BaseTerm && a.BaseConf == b.BaseConf &&
		bytes.Equal(a.Snap, b.Snap) && alikeLists(a.Log, b.Log)
}

func told(x api.Entry) string { return fmt.Sprintf("%+v", x) }

func toldList(l []api.Entry) string {
	s := fmt.Sprintf("%d entries", len(l))
	for _, x := range l[:min(len(l), 12)] {
		s += "\n\t" + told(x)
	}
	return s
}

func toldHard(h api.Hard) string {
	return fmt.Sprintf("{Term %d Vote %d Base %d BaseTerm %d BaseConf %+v Snap %d bytes %q}, %s", h.Term, h.Vote, h.Base, h.BaseTerm, h.BaseConf, len(h.Snap), h.Snap[:min(len(h.Snap), 12)], toldList(h.Log))
}

// spare stands in spare room, which nobody may touch or hand out.
var spare = api.Entry{Term: 77, Kind: 77, Call: callOf(77, 77, put("spare", text("spare")))}

// given is what a call is handed, or all the memory that it lies in.
type given struct {
	h    api.Hard
	l    []api.Entry
	snap []byte
}

func alikeGiven(a, b given) bool {
	return alikeHards(a.h, b.h) && alikeLists(a.l, b.l) && bytes.Equal(a.snap, b.snap)
}

func roomFor(l []api.Entry) []api.Entry {
	return slices.Concat([]api.Entry{spare}, l, []api.Entry{spare, spare, spare})
}

func roomForBytes(b []byte) []byte { return slices.Concat([]byte{0xee}, b, []byte("spare")) }

// withRoom answers g in memory that has room at both ends, and all of that memory.
func withRoom(g given) (room, all given) {
	all = given{g.h, roomFor(g.l), roomForBytes(g.snap)}
	all.h.Log, all.h.Snap = roomFor(g.h.Log), roomForBytes(g.h.Snap)
	room = given{g.h, all.l[1 : 1+len(g.l)], all.snap[1 : 1+len(g.snap)]}
	room.h.Log, room.h.Snap = all.h.Log[1:1+len(g.h.Log)], all.h.Snap[1:1+len(g.h.Snap)]
	return room, all
}

func copied(g given) given {
	h := g.h
	h.Log, h.Snap = slices.Clone(h.Log), slices.Clone(h.Snap)
	return given{h, slices.Clone(g.l), slices.Clone(g.snap)}
}

func scribbleList(l []api.Entry) {
	l = l[:cap(l)]
	for i := range l {
		l[i] = api.Entry{Term: 666, Kind: 6}
	}
}

func scribbleBytes(b []byte) {
	b = b[:cap(b)]
	for i := range b {
		b[i] = 0x66
	}
}

// scribble writes over all of the memory, its spare room too.
func scribble(g given) {
	scribbleList(g.h.Log)
	scribbleBytes(g.h.Snap)
	scribbleList(g.l)
	scribbleBytes(g.snap)
}

func handsOutSpares(l []api.Entry) bool {
	return slices.ContainsFunc(l[:cap(l)], func(x api.Entry) bool { return x.Kind == spare.Kind })
}

// act is a call of Put, Compact or Install.
type act func(g given) (api.Hard, api.Errno)

// holds holds what an act answers, twice; that it leaves what it is handed; and that no memory is shared.
func holds(t *testing.T, g given, do act, want api.Hard, wantE api.Errno) {
	t.Helper()
	room, all := withRoom(g)
	before := copied(all)
	one, e := do(room)
	if e != wantE || !alikeHards(one, want) {
		t.Errorf("of %s\nand %s\nis %s, error %d\nnot %s, error %d", toldHard(g.h), toldList(g.l), toldHard(one), e, toldHard(want), wantE)
	}
	if e == api.OK && logs.Check(one) != api.OK {
		t.Errorf("what is answered is not right: %s", toldHard(one))
	}
	two, _ := do(room)
	if !alikeGiven(all, before) {
		t.Errorf("what was handed in is changed: %s", toldHard(g.h))
	}
	if handsOutSpares(one.Log) || bytes.Contains(one.Snap[:cap(one.Snap)], []byte("spare")) {
		t.Errorf("spare room is handed out: %s", toldHard(g.h))
	}
	scribble(given{h: one})
	if !alikeGiven(all, before) {
		t.Errorf("an answer shares what was handed in: %s", toldHard(g.h))
	}
	scribble(all)
	if !alikeHards(two, want) {
		t.Errorf("an answer hangs on what is done with another one, or with what was handed in: %s, not %s", toldHard(two), toldHard(want))
	}
}

func puts(t *testing.T, h api.Hard, index int, l []api.Entry, want api.Hard, wantE api.Errno) {
	t.Helper()
	holds(t, given{h: h, l: l}, func(g given) (api.Hard, api.Errno) { return logs.Put(g.h, index, g.l) }, want, wantE)
}

func compacts(t *testing.T, h api.Hard, index int, snap []byte, want api.Hard, wantE api.Errno) {
	t.Helper()
	holds(t, given{h: h, snap: snap}, func(g given) (api.Hard, api.Errno) { return logs.Compact(g.h, index, g.snap) }, want, wantE)
}

func installs(t *testing.T, h api.Hard, index, term int, c api.Conf, snap []byte, want api.Hard, wantE api.Errno) {
	t.Helper()
	holds(t, given{h: h, snap: snap}, func(g given) (api.Hard, api.Errno) { return logs.Install(g.h, index, term, c, g.snap) }, want, wantE)
}

func termsOf(h api.Hard) string {
	var l []string
	for _, x := range h.Log {
		l = append(l, fmt.Sprint(x.Term))
	}
	return strings.Join(l, " ")
}

func TestExample(t *testing.T) { // P9.3
	h := api.Hard{Term: 3, Vote: -1, BaseConf: first}
	h, e := logs.Put(h, 0, []api.Entry{none(1), none(1), none(2)})
	if e != api.OK || termsOf(h) != "1 1 2" {
		t.Errorf("error %d, %s", e, toldHard(h))
	}
	h, e = logs.Put(h, 1, []api.Entry{none(1), none(3)})
	if e != api.OK || termsOf(h) != "1 1 3" {
		t.Errorf("error %d, %s", e, toldHard(h))
	}
}

func checkIs(t *testing.T, h api.Hard, want api.Errno) {
	t.Helper()
	room, all := withRoom(given{h: h})
	before := copied(all)
	if e := logs.Check(room.h); e != want {
		t.Errorf("Check of %s: error %d, not %d", toldHard(h), e, want)
	}
	if !alikeGiven(all, before) {
		t.Errorf("Check changed %s", toldHard(h))
	}
}

func badUnless(may bool) api.Errno {
	if may {
		return api.OK
	}
	return api.ErrBad
}

// edge is a number that may be, or may not.
type edge struct {
	n   int
	may bool
}

func TestCheckOfTerm(t *testing.T) { // P9.1
	for _, n := range []edge{{math.MinInt, false}, {-maxBase, false}, {-1, false}, {0, true}, {1, true}, {1 << 32, true}, {api.MaxTerm - 1, true}, {api.MaxTerm, true}, {api.MaxTerm + 1, false}, {math.MaxInt, false}} {
		checkIs(t, hard(n.n, 0, 0), badUnless(n.may))
		if n.n > 0 {
			checkIs(t, hard(n.n, 7, 1), badUnless(n.may))
			checkIs(t, hard(n.n, 7, n.n), badUnless(n.may))
			checkIs(t, hard(n.n, 0, 0, none(1), call(n.n, 2)), badUnless(n.may))
		}
	}
	checkIs(t, api.Hard{}, api.ErrBad) // its BaseConf is not right
	checkIs(t, api.Hard{BaseConf: api.Conf{Full: 1}}, api.OK)
}

func TestCheckOfVote(t *testing.T) { // P9.1
	for _, n := range []edge{{math.MinInt, false}, {-2, false}, {-1, true}, {0, true}, {3, true}, {api.MaxNodes - 1, true}, {api.MaxNodes, false}, {1<<32 + 1, false}, {math.MaxInt, false}} {
		for _, h := range []api.Hard{hard(0, 0, 0), hard(4, 7, 2, none(3))} {
			h.Vote = n.n
			checkIs(t, h, badUnless(n.may))
		}
	}
}

func TestCheckOfBase(t *testing.T) { // P9.1
	for _, n := range []edge{{math.MinInt, false}, {-maxBase, false}, {-1, false}, {1, true}, {1 << 32, true}, {maxBase - 1, true}, {maxBase, true}, {maxBase + 1, false}, {math.MaxInt, false}} {
		checkIs(t, hard(4, n.n, 2), badUnless(n.may))
		checkIs(t, hard(4, n.n, 2, none(2), call(4, 1)), badUnless(n.may))
		checkIs(t, hard(4, n.n, 0), api.ErrBad)
	}
	checkIs(t, hard(4, 0, 0), api.OK)
	checkIs(t, hard(4, 0, 0, none(2), call(4, 1)), api.OK)
}

func TestCheckOfBaseTerm(t *testing.T) { // P9.1
	for _, term := range []int{1, 2, 4, api.MaxTerm} {
		for _, n := range []edge{{math.MinInt, false}, {-1, false}, {0, false}, {1, true}, {term - 1, term > 1}, {term, true}, {term + 1, false}, {math.MaxInt, false}} {
			checkIs(t, hard(term, 1, n.n), badUnless(n.may))
			checkIs(t, hard(term, maxBase, n.n, none(term)), badUnless(n.may))
			checkIs(t, hard(term, 0, n.n), badUnless(n.n == 0))
			checkIs(t, hard(term, 0, n.n, none(term)), badUnless(n.n == 0))
		}
	}
	checkIs(t, hard(0, 7, 0), api.ErrBad)
	checkIs(t, hard(0, 7, 1), api.ErrBad)
}

func TestCheckOfSnap(t *testing.T) { // P9.1
	for _, n := range []edge{{0, true}, {1, true}, {api.MaxPayload - 1, true}, {api.MaxPayload, true}, {api.MaxPayload + 1, false}, {2 * api.MaxPayload, false}} {
		for _, h := range []api.Hard{hard(4, 7, 2), hard(4, 1, 2, none(3)), hard(4, maxBase, 4)} {
			h.Snap = filled(n.n)
			checkIs(t, h, badUnless(n.may))
		}
		for _, h := range []api.Hard{hard(4, 0, 0), hard(4, 0, 0, none(3))} {
			h.Snap = filled(n.n)
			checkIs(t, h, badUnless(n.n == 0))
		}
	}
	h := hard(4, 7, 2)
	h.Snap = nil
	checkIs(t, h, api.OK)
}

func TestCheckOfBaseConf(t *testing.T) { // P9.1
	for _, h := range []api.Hard{hard(0, 0, 0), hard(4, 0, 0, change(3, first)), hard(4, 7, 2), hard(4, 7, 2, change(2, first))} {
		for _, c := range rightConfs() {
			h.BaseConf = c
			checkIs(t, h, api.OK)
		}
		for _, c := range wrongConfs() {
			h.BaseConf = c
			checkIs(t, h, api.ErrBad)
		}
	}
}

func TestCheckOfTerms(t *testing.T) { // P9.1
	for _, c := range []struct {
		term, base, baseTerm int
		terms                []int
		may                  bool
	}{
		{3, 0, 0, []int{0}, false}, {3, 0, 0, []int{1}, true}, {3, 0, 0, []int{3}, true}, {3, 0, 0, []int{4}, false}, {3, 0, 0, []int{-1}, false}, {3, 0, 0, []int{math.MinInt}, false}, {3, 0, 0, []int{math.MaxInt}, false},
		{3, 0, 0, []int{1, 1, 2, 2, 3}, true}, {3, 0, 0, []int{1, 3}, true}, {3, 0, 0, []int{2, 1}, false}, {3, 0, 0, []int{1, 3, 2}, false}, {3, 0, 0, []int{1, 2, 1, 2}, false}, {3, 0, 0, []int{1, 0}, false}, {3, 0, 0, []int{1, 2, 3, 4}, false}, {3, 0, 0, []int{3, 3, 1}, false},
		{3, 5, 2, []int{0}, false}, {3, 5, 2, []int{1}, false}, {3, 5, 2, []int{2}, true}, {3, 5, 2, []int{3}, true}, {3, 5, 2, []int{4}, false}, {3, 5, 2, []int{2, 3}, true}, {3, 5, 2, []int{2, 1}, false}, {3, 5, 2, []int{3, 2}, false}, {3, 5, 3, []int{2}, false}, {3, 5, 3, []int{3, 3}, true},
		{0, 0, 0, []int{0}, false}, {0, 0, 0, []int{1}, false}, {api.MaxTerm, 0, 0, []int{1, api.MaxTerm}, true}, {api.MaxTerm, 0, 0, []int{api.MaxTerm, 1}, false}, {api.MaxTerm, 0, 0, []int{api.MaxTerm + 1}, false},
		{api.MaxTerm, maxBase, api.MaxTerm, []int{api.MaxTerm}, true}, {api.MaxTerm, maxBase, api.MaxTerm, []int{api.MaxTerm - 1}, false},
	} {
		checkIs(t, hard(c.term, c.base, c.baseTerm, entries(1, c.terms...)...), badUnless(c.may))
	}
	long := slices.Repeat([]int{1, 1, 1, 1}, 250) // no bound is set to how many there are
	checkIs(t, hard(3, 0, 0, entries(1, long...)...), api.OK)
	checkIs(t, hard(3, 0, 0, entries(1, append(append(long, 2), 1)...)...), api.ErrBad)
}

// callFields are changes of each field of a call by itself, to what it is not in a zero one.
func callFields() []func(c *api.Call) {
	l := []func(c *api.Call){
		func(c *api.Call) { c.Client = 1 }, func(c *api.Call) { c.Client = -1 }, func(c *api.Call) { c.Client = 1 << 32 },
		func(c *api.Call) { c.Seq = 1 }, func(c *api.Call) { c.Seq = math.MinInt }, func(c *api.Call) { c.Seq = 1 << 32 },
		func(c *api.Call) { c.Cmd.Kind = api.OpGet }, func(c *api.Call) { c.Cmd.Kind = -1 },
		func(c *api.Call) { c.Cmd.Key = "a" }, func(c *api.Call) { c.Cmd.Key = "\x00" },
	}
	for _, v := range []api.Value{{Kind: api.Num}, {Kind: api.Text}, {Kind: -1}, {Num: 1}, {Num: -inf}, {Num: math.SmallestNonzeroFloat64}, {Num: minus}, {Num: nan}, {Num: otherNaN}, {Text: "a"}, {Text: "\x00"}} {
		l = append(l, func(c *api.Call) { c.Cmd.Old = v }, func(c *api.Call) { c.Cmd.Val = v })
	}
	return l
}

// confFields are changes of each field of a configuration by itself, to what it is not in a zero one.
func confFields() []func(c *api.Conf) {
	var l []func(c *api.Conf)
	for _, n := range []int{1, 127, -1, 128, math.MinInt} {
		l = append(l, func(c *api.Conf) { c.Full = n }, func(c *api.Conf) { c.Wit = n }, func(c *api.Conf) { c.Learn = n }, func(c *api.Conf) { c.LearnWit = n })
	}
	return l
}

// rightCalls have each kind of command, and numbers at their bounds.
func rightCalls() []api.Call {
	get, del := api.Cmd{Kind: api.OpGet, Key: "12345678"}, api.Cmd{Kind: api.OpDel, Key: "\x00"}
	cas := api.Cmd{Kind: api.OpCas, Key: "a", Old: number(nan), Val: number(minus)}
	add, most := api.Cmd{Kind: api.OpAdd, Key: "a", Val: number(nan)}, api.Cmd{Kind: api.OpMax, Key: "a", Val: number(-inf)}
	return []api.Call{callOf(1, 1, get), callOf(4, 1<<40, del), callOf(2, 5, put("a", text("x"))), callOf(3, 1, put("a", number(minus))), callOf(1, 2, cas), callOf(1, 3, api.Cmd{Kind: api.OpCas, Key: "a"}), callOf(1, 4, add), callOf(1, 5, most)}
}

// wrongCalls are not right, each for one reason.
func wrongCalls() []api.Call {
	get := api.Cmd{Kind: api.OpGet, Key: "a"}
	l := []api.Call{{}, callOf(0, 1, get), callOf(5, 1, get), callOf(-1, 1, get), callOf(1, 0, get), callOf(1, -1, get), callOf(1, 1<<40+1, get), callOf(1, 1, api.Cmd{})}
	for _, c := range []api.Cmd{{Kind: 7, Key: "a"}, {Kind: api.OpGet}, {Kind: api.OpGet, Key: "123456789"}, {Kind: api.OpGet, Key: "a", Val: number(1)}, {Kind: api.OpGet, Key: "a", Old: api.Value{Num: minus}}, put("a", api.Value{}), put("a", number(otherNaN)), put("a", text(strings.Repeat("x", 33))), {Kind: api.OpAdd, Key: "a", Val: text("x")}} {
		l = append(l, callOf(1, 1, c))
	}
	return l
}

// rightEntries are of each kind, of one term.
func rightEntries(term int) []api.Entry {
	l := []api.Entry{none(term)}
	for _, c := range rightCalls() {
		l = append(l, api.Entry{Term: term, Kind: api.ECall, Call: c})
	}
	for _, c := range rightConfs() {
		l = append(l, change(term, c))
	}
	return l
}

// wrongEntries are not right, each for one reason that is not the term.
func wrongEntries(term int) []api.Entry {
	var l []api.Entry
	for _, kind := range []int{math.MinInt, -1, 3, 77, 1 << 8, 1 << 32, 1<<32 + 1, math.MaxInt} {
		l = append(l, api.Entry{Term: term, Kind: kind}, api.Entry{Term: term, Kind: kind, Call: rightCalls()[0]}, api.Entry{Term: term, Kind: kind, Conf: first})
	}
	for _, to := range callFields() {
		x, y := none(term), change(term, first)
		to(&x.Call)
		to(&y.Call)
		l = append(l, x, y)
	}
	for _, to := range confFields() {
		x, y := none(term), call(term, 1)
		to(&x.Conf)
		to(&y.Conf)
		l = append(l, x, y)
	}
	for _, c := range rightCalls() {
		l = append(l, api.Entry{Term: term, Call: c}, api.Entry{Term: term, Kind: api.EConf, Call: c, Conf: first})
	}
	for _, c := range rightConfs() {
		l = append(l, api.Entry{Term: term, Conf: c}, api.Entry{Term: term, Kind: api.ECall, Call: rightCalls()[0], Conf: c})
	}
	for _, c := range wrongCalls() {
		l = append(l, api.Entry{Term: term, Kind: api.ECall, Call: c})
	}
	for _, c := range wrongConfs() {
		l = append(l, change(term, c))
	}
	return l
}

// withEntry puts x into each place of a log of the term of x.
func withEntry(x api.Entry) []api.Hard {
	var l []api.Hard
	for at := range 4 {
		list := slices.Insert(entries(1, x.Term, x.Term, x.Term), at, x)
		l = append(l, hard(x.Term, 0, 0, list...), hard(x.Term, 9, x.Term, list...))
	}
	return append(l, hard(x.Term, 0, 0, x), hard(x.Term+1, 9, 1, x))
}

func TestCheckOfEntries(t *testing.T) { // P9.1
	for _, x := range rightEntries(3) {
		for _, h := range withEntry(x) {
			checkIs(t, h, api.OK)
		}
	}
	for _, x := range wrongEntries(3) {
		for _, h := range withEntry(x) {
			checkIs(t, h, api.ErrBad)
		}
	}
}

func TestBegin(t *testing.T) { // P9.1
	for _, c := range rightConfs() {
		h, e := logs.Begin(c)
		if e != api.OK || !alikeHards(h, api.Hard{Vote: -1, BaseConf: c}) || logs.Check(h) != api.OK {
			t.Errorf("Begin of %+v: error %d, %s", c, e, toldHard(h))
		}
	}
	for _, c := range wrongConfs() {
		if h, e := logs.Begin(c); e != api.ErrConf || !alikeHards(h, api.Hard{}) {
			t.Errorf("Begin of %+v: error %d, %s", c, e, toldHard(h))
		}
	}
}

func lastIs(t *testing.T, h api.Hard, index, term int) {
	t.Helper()
	if i, n := logs.Last(h); i != index || n != term {
		t.Errorf("Last of %s: %d, %d, not %d, %d", toldHard(h), i, n, index, term)
	}
}

func TestLast(t *testing.T) { // P9.1
	lastIs(t, api.Hard{}, 0, 0)
	lastIs(t, hard(4, 0, 0), 0, 0)
	lastIs(t, hard(4, 0, 0, none(1)), 1, 1)
	lastIs(t, hard(4, 0, 0, entries(1, 1, 2, 2)...), 3, 2)
	lastIs(t, hard(4, 7, 3), 7, 3)
	lastIs(t, hard(4, 7, 3, none(4)), 8, 4)
	lastIs(t, hard(4, 7, 3, entries(1, 3, 3, 4, 4)...), 11, 4)
	lastIs(t, hard(4, maxBase, 3), maxBase, 3)
	lastIs(t, hard(4, maxBase, 3, entries(1, 3, 4)...), maxBase+2, 4)
	lastIs(t, api.Hard{Term: -1, Base: 5, BaseTerm: -7}, 5, -7) // it need not be right
	lastIs(t, api.Hard{Base: 5, BaseTerm: 9, Log: []api.Entry{none(3), none(-2)}}, 7, -2)
	lastIs(t, api.Hard{BaseTerm: 9, Log: []api.Entry{none(3), {Term: 1, Kind: 8}}}, 2, 1)
}

func termIs(t *testing.T, h api.Hard, index, term int) {
	t.Helper()
	if n := logs.Term(h, index); n != term {
		t.Errorf("Term of %s at %d: %d, not %d", toldHard(h), index, n, term)
	}
}

// entryIs holds Entry, and what From begins with.
func entryIs(t *testing.T, h api.Hard, index int, want api.Entry, is bool) {
	t.Helper()
	if x, ok := logs.Entry(h, index); ok != is || !alike(x, want) {
		t.Errorf("Entry of %s at %d: %v, %s", toldHard(h), index, ok, told(x))
	}
	l := logs.From(h, index, 1)
	if is && (len(l) != 1 || !alike(l[0], want)) || !is && len(l) > 0 {
		t.Errorf("From of %s at %d, one: %s", toldHard(h), index, toldList(l))
	}
}

func TestTermAndEntry(t *testing.T) { // P9.1
	l := []api.Entry{none(2), call(2, 5), change(3, api.Conf{Full: 3}), call(4, 6)}
	for _, c := range []struct {
		base, term int
		l          []api.Entry
	}{{0, 0, nil}, {0, 0, l}, {1, 2, nil}, {1, 2, l}, {7, 1, nil}, {7, 2, l}, {maxBase - 1, 1, l}, {maxBase, 2, nil}, {maxBase, 2, l}} {
		h := hard(4, c.base, c.term, c.l...)
		termIs(t, h, c.base, c.term)
		entryIs(t, h, c.base, api.Entry{}, false)
		for k, x := range c.l {
			termIs(t, h, c.base+k+1, x.Term)
			entryIs(t, h, c.base+k+1, x, true)
		}
		end := c.base + len(c.l)
		for _, index := range []int{math.MinInt, math.MinInt + 1, -maxBase, -2, -1, c.base - 2, c.base - 1, end + 1, end + 2, end + 9, end + 1<<32, math.MaxInt - 1, math.MaxInt} {
			termIs(t, h, index, -1)
			entryIs(t, h, index, api.Entry{}, false)
		}
	}
}

func fromIs(t *testing.T, h api.Hard, index, most int, want []api.Entry) {
	t.Helper()
	room, all := withRoom(given{h: h})
	before := copied(all)
	one, two := logs.From(room.h, index, most), logs.From(room.h, index, most)
	if !alikeLists(one, want) {
		t.Errorf("From of %s at %d, %d: %s\nnot %s", toldHard(h), index, most, toldList(one), toldList(want))
	}
	if handsOutSpares(one) {
		t.Errorf("From of %s at %d, %d hands out spare room", toldHard(h), index, most)
	}
	scribbleList(one)
	if !alikeGiven(all, before) {
		t.Errorf("From of %s at %d, %d shares what it was handed, or changed it", toldHard(h), index, most)
	}
	scribble(all)
	if !alikeLists(two, want) {
		t.Errorf("From of %s at %d, %d hangs on what is done with other memory", toldHard(h), index, most)
	}
}

func TestFrom(t *testing.T) { // P9.1
	l := []api.Entry{none(2), call(2, 5), change(3, api.Conf{Full: 3}), call(4, 6), none(4)}
	for _, base := range []int{0, 1, 7, maxBase - 2, maxBase} {
		h := hard(4, base, min(base, 2), l...)
		empty := hard(4, base, min(base, 2))
		for _, most := range []int{math.MinInt, -1, 0, 1, 2, 3, 4, 5, 6, 64, 1 << 32, math.MaxInt - 1, math.MaxInt} {
			for k := range l {
				fromIs(t, h, base+k+1, most, l[k:min(k+min(max(most, 0), 5), 5)])
				fromIs(t, empty, base+k+1, most, nil)
			}
			for _, index := range []int{math.MinInt, math.MinInt + 1, -1, base - 1, base, base + 6, base + 7, math.MaxInt - 1, math.MaxInt} {
				fromIs(t, h, index, most, nil)
				fromIs(t, empty, index, most, nil)
			}
		}
	}
}

func confIs(t *testing.T, h api.Hard, upto int, want api.Conf, index int) {
	t.Helper()
	if c, i := logs.Conf(h, upto); c != want || i != index {
		t.Errorf("Conf of %s up to %d: %+v, %d, not %+v, %d", toldHard(h), upto, c, i, want, index)
	}
}

func TestConf(t *testing.T) { // P9.2
	a, b, c := api.Conf{Full: 1}, api.Conf{Full: 3}, api.Conf{Full: 7}
	for _, base := range []int{0, 1, 5, maxBase} {
		h := hard(4, base, min(base, 1), none(1), change(1, a), call(2, 1), change(2, b), change(4, c), none(4))
		empty := hard(4, base, min(base, 1), none(1), call(1, 1), none(4))
		for _, r := range []struct {
			upto, index int
			want        api.Conf
		}{
			{math.MinInt, base, first}, {-1, base, first}, {base - 2, base, first}, {base - 1, base, first}, {base, base, first}, {base + 1, base, first},
			{base + 2, base + 2, a}, {base + 3, base + 2, a}, {base + 4, base + 4, b}, {base + 5, base + 5, c}, {base + 6, base + 5, c}, {base + 7, base + 5, c}, {base + 1<<32, base + 5, c}, {math.MaxInt - 1, base + 5, c}, {math.MaxInt, base + 5, c},
		} {
			confIs(t, h, r.upto, r.want, r.index)
			confIs(t, empty, r.upto, first, base)
			confIs(t, hard(4, base, min(base, 1)), r.upto, first, base)
		}
	}
	confIs(t, hard(4, 3, 1, change(1, a), none(1)), 3, first, 3)
	confIs(t, hard(4, 3, 1, change(1, a), none(1)), 4, a, 4)
	confIs(t, hard(4, 3, 1, none(1), change(1, first)), 9, first, 5) // the same one again: its index is told
}

func fitsIs(t *testing.T, h api.Hard, index, term int, want bool) {
	t.Helper()
	if is := logs.Fits(h, index, term); is != want {
		t.Errorf("Fits of %s: %d, %d: %v", toldHard(h), index, term, is)
	}
}

func TestFits(t *testing.T) { // P9.2
	for _, base := range []int{0, 1, 6, maxBase} {
		baseTerm := min(base, 2)
		h := hard(5, base, baseTerm, entries(1, 2, 2, 4)...)
		for _, term := range []int{math.MinInt, -2, -1, 0, 1, 2, 3, 4, 5, 6, math.MaxInt} {
			fitsIs(t, h, base, term, term == baseTerm)
			fitsIs(t, hard(5, base, baseTerm), base, term, term == baseTerm)
			fitsIs(t, h, base+1, term, term == 2)
			fitsIs(t, h, base+2, term, term == 2)
			fitsIs(t, h, base+3, term, term == 4)
			for _, index := range []int{math.MinInt, -1, base - 1, base + 4, base + 5, math.MaxInt} {
				fitsIs(t, h, index, term, false)
				fitsIs(t, hard(5, base, baseTerm), index, term, false)
			}
			fitsIs(t, hard(5, base, baseTerm), base+1, term, false)
		}
	}
}

func newerIs(t *testing.T, h api.Hard, index, term int, want bool) {
	t.Helper()
	if is := logs.Newer(h, index, term); is != want {
		t.Errorf("Newer of %s: %d, %d: %v", toldHard(h), index, term, is)
	}
}

func TestNewer(t *testing.T) { // P9.2
	for _, base := range []int{0, 1, 6, maxBase} {
		baseTerm := min(base, 2)
		for _, c := range []struct {
			h          api.Hard
			last, term int
		}{
			{hard(5, base, baseTerm), base, baseTerm},
			{hard(5, base, baseTerm, none(3)), base + 1, 3},
			{hard(5, base, baseTerm, entries(1, 2, 2, 4)...), base + 3, 4},
		} {
			for _, index := range []int{math.MinInt, -1, 0, base - 1, base, c.last - 1, c.last, c.last + 1, c.last + 2, math.MaxInt} {
				newerIs(t, c.h, index, c.term, index >= c.last)
				for _, other := range []int{c.term + 1, c.term + 2, math.MaxInt} {
					newerIs(t, c.h, index, other, true)
				}
				for _, other := range []int{c.term - 1, c.term - 2, -1, math.MinInt} {
					newerIs(t, c.h, index, other, false)
				}
			}
		}
	}
}

// notRight are logs that are not right, whose Base is from 0 to 2^40.
func notRight() []api.Hard {
	falls := []api.Entry{none(5), change(0, api.Conf{Wit: 9}), call(-1, 2), {Term: -1, Kind: 9, Conf: first}, change(math.MinInt, api.Conf{}), {Term: math.MaxInt, Kind: api.ECall, Conf: first}, {Term: 2, Kind: -2, Call: callOf(9, -9, api.Cmd{Val: number(otherNaN)})}}
	return []api.Hard{
		{}, {Log: falls}, {Log: falls[:3]}, {Base: 3}, {Base: 3, Log: falls}, {BaseTerm: -1}, {BaseTerm: -1, Log: falls[2:4]}, {Base: 8, BaseTerm: 4, Term: -3, Vote: 99, BaseConf: api.Conf{Full: -1}, Log: falls[1:5]},
		{Base: maxBase, BaseTerm: math.MinInt, Log: falls}, {Base: maxBase, BaseTerm: math.MaxInt, Snap: filled(api.MaxPayload + 1), Log: falls[4:]}, {Term: 1, Snap: filled(3), BaseTerm: 2, Log: falls[3:]},
	}
}

func TestQuestionsOfLogsThatAreNotRight(t *testing.T) { // P9.1, P9.2
	for _, h := range notRight() {
		checkIs(t, h, api.ErrBad)
		asks(t, h)
	}
	for _, h := range wrongHards() {
		if h.Base >= 0 && h.Base <= maxBase {
			asks(t, h)
		}
	}
	h := api.Hard{Base: 3, BaseTerm: -1, Log: []api.Entry{{Term: -1, Kind: api.EConf}, {Term: 0, Conf: first}}}
	for _, index := range []int{2, 3, 4, 6} {
		termIs(t, h, index, -1)
		fitsIs(t, h, index, -1, false)
	}
	termIs(t, h, 5, 0)
	fitsIs(t, h, 5, 0, true)
	entryIs(t, h, 4, h.Log[0], true)
	confIs(t, h, 3, api.Conf{}, 3)
	confIs(t, h, 5, api.Conf{}, 4)
}

// TestAnyBase: nothing is promised of what is told there, but that it is told.
func TestAnyBase(t *testing.T) { // R1
	far := []int{math.MinInt, math.MinInt + 1, math.MinInt + 2, -maxBase, -3, -2, -1, 0, 1, maxBase + 1, maxBase + 2, math.MaxInt - 3, math.MaxInt - 2, math.MaxInt - 1, math.MaxInt}
	for _, base := range far {
		for n := range 4 {
			h := api.Hard{Term: 4, Base: base, BaseTerm: 1, BaseConf: first, Log: slices.Repeat([]api.Entry{change(1, first)}, n)}
			logs.Last(h)
			for _, index := range far {
				for _, other := range far {
					logs.Fits(h, index, other)
					logs.Newer(h, index, other)
					logs.From(h, index, other)
					logs.From(h, index+base, other)
				}
				logs.Term(h, index)
				logs.Entry(h, index)
				logs.Conf(h, index)
				if base < 0 || base > maxBase {
					puts(t, h, index, h.Log, api.Hard{}, api.ErrBad)
					compacts(t, h, index, nil, api.Hard{}, api.ErrBad)
					installs(t, h, index, 2, first, nil, api.Hard{}, api.ErrBad)
				}
			}
		}
	}
}

// wrongHards are not right, each for one reason.
func wrongHards() []api.Hard {
	var l []api.Hard
	add := func(to func(h *api.Hard)) {
		for _, h := range []api.Hard{hard(4, 5, 2), hard(4, 5, 2, none(2), call(3, 1), change(4, first))} {
			to(&h)
			l = append(l, h)
		}
	}
	for _, n := range []int{math.MinInt, -1, 0, 1, api.MaxTerm + 1, math.MaxInt} {
		add(func(h *api.Hard) { h.Term = n })
	}
	for _, n := range []int{math.MinInt, -2, api.MaxNodes, math.MaxInt} {
		add(func(h *api.Hard) { h.Vote = n })
	}
	for _, n := range []int{math.MinInt, -1, 0, maxBase + 1, math.MaxInt} {
		add(func(h *api.Hard) { h.Base = n })
		add(func(h *api.Hard) { h.Base, h.Snap = n, nil })
	}
	for _, n := range []int{math.MinInt, -1, 0, 5, math.MaxInt} {
		add(func(h *api.Hard) { h.BaseTerm = n })
	}
	add(func(h *api.Hard) { h.Snap = filled(api.MaxPayload + 1) })
	add(func(h *api.Hard) { h.Base, h.BaseTerm = 0, 0 })
	for _, c := range wrongConfs() {
		add(func(h *api.Hard) { h.BaseConf = c })
	}
	for _, terms := range [][]int{{1}, {5}, {0}, {-1}, {3, 2}, {2, 3, 2}, {4, 5}} {
		l = append(l, hard(4, 5, 2, entries(1, terms...)...), hard(4, 0, 0, entries(1, append([]int{2}, terms...)...)...))
	}
	for _, x := range wrongEntries(2) {
		l = append(l, hard(2, 5, 2, x), hard(2, 0, 0, none(1), x, none(2)))
	}
	return l
}

func TestOfWrongHards(t *testing.T) { // P9.3, P9.4: whatever else is wrong
	for _, h := range wrongHards() {
		checkIs(t, h, api.ErrBad)
		for _, index := range []int{math.MinInt, 0, 4, 5, 6, 7, 8, 9, maxBase, maxBase + 1, math.MaxInt} {
			puts(t, h, index, nil, api.Hard{}, api.ErrBad)
			puts(t, h, index, entries(2, 2), api.Hard{}, api.ErrBad)
			puts(t, h, index, entries(2, 2, 1, 9), api.Hard{}, api.ErrBad)
			compacts(t, h, index, nil, api.Hard{}, api.ErrBad)
			for _, term := range []int{-1, 0, 1, 2, 3, 5} {
				installs(t, h, index, term, first, nil, api.Hard{}, api.ErrBad)
				installs(t, h, index, term, api.Conf{}, filled(9), api.Hard{}, api.ErrBad)
			}
		}
		compacts(t, h, 6, filled(api.MaxPayload+1), api.Hard{}, api.ErrBad)
		installs(t, h, 6, 2, first, filled(api.MaxPayload+1), api.Hard{}, api.ErrBad)
	}
}
