package sess_test

import (
	"bytes"
	"encoding/binary"
	"fmt"
	"math"
	"slices"
	"strings"
	"testing"

	"skerry/api"
	"skerry/kv"
	"skerry/sess"
)

const (
	maxSeq = 1 << 40
	theNaN = 0x7ff8000000000001
)

var minus, inf, nan, otherNaN = math.Copysign(0, -1), math.Inf(1), math.Float64frombits(theNaN), math.Float64frombits(0xfff8000000000123)

var longest, longer = strings.Repeat("k", api.MaxKey), strings.Repeat("k", api.MaxKey+1)

func none() api.Value { return api.Value{} }

func number(x float64) api.Value { return api.Value{Kind: api.Num, Num: x} }

func text(s string) api.Value { return api.Value{Kind: api.Text, Text: s} }

func pair(key string, v api.Value) api.Pair { return api.Pair{Key: key, Val: v} }

func get(key string) api.Cmd { return api.Cmd{Kind: api.OpGet, Key: key} }

func put(key string, v api.Value) api.Cmd { return api.Cmd{Kind: api.OpPut, Key: key, Val: v} }

func cas(key string, old, v api.Value) api.Cmd {
	return api.Cmd{Kind: api.OpCas, Key: key, Old: old, Val: v}
}

func add(key string, v api.Value) api.Cmd { return api.Cmd{Kind: api.OpAdd, Key: key, Val: v} }

// rightValues begin with None.
func rightValues() []api.Value {
	l := []api.Value{none()}
	for _, x := range []float64{-inf, -math.MaxFloat64, -2.5, -math.SmallestNonzeroFloat64, minus, 0, 0.1, 1, math.MaxFloat64, inf, nan} {
		l = append(l, number(x))
	}
	for _, s := range []string{"", "\x00", "a", "ab", "\x80\xff", strings.Repeat("x", api.MaxText), strings.Repeat("é", api.MaxText/2)} {
		l = append(l, text(s))
	}
	return l
}

// wrongValues are not right: a kind that is none, a text that is too long, what the kind does not name, another NaN.
func wrongValues() []api.Value {
	return []api.Value{
		{Kind: -1}, {Kind: 3}, {Kind: math.MinInt}, {Kind: math.MaxInt}, {Kind: 1<<32 + api.Num}, {Kind: 1<<8 + api.Num, Num: 1},
		text(strings.Repeat("x", api.MaxText+1)), text(strings.Repeat("é", api.MaxText/2) + "x"),
		{Num: 1}, {Num: minus}, {Num: nan}, {Text: "a"}, {Num: 1, Text: "a"},
		{Kind: api.Num, Text: "a"}, {Kind: api.Num, Num: 1, Text: "a"}, number(otherNaN), number(math.Float64frombits(theNaN + 1)),
		{Kind: api.Text, Num: 1}, {Kind: api.Text, Num: minus, Text: "a"}, {Kind: api.Text, Num: nan},
	}
}

// filled answers n pairs.
func filled(n int) []api.Pair {
	var l []api.Pair
	for i := range n {
		l = append(l, pair(fmt.Sprintf("k%03d", 2*i+1), number(float64(i))))
	}
	return l
}

// wrongPairs are not right, each for one reason.
func wrongPairs() [][]api.Pair {
	falls, same := filled(3), filled(3)
	falls[1], falls[2] = falls[2], falls[1]
	same[2].Key = same[1].Key
	l := [][]api.Pair{falls, same, filled(33), filled(1000), {pair("", number(1))}, {pair(longer, number(1))}, append(filled(2), pair(longer, text(""))), {pair("a", none())}}
	for _, v := range wrongValues() {
		l = append(l, []api.Pair{pair("a", v)})
	}
	return l
}

// last is a Sess of that client.
func last(client, seq int, e api.Errno, v api.Value) api.Sess {
	return api.Sess{Client: client, Seq: seq, Reply: api.Reply{Code: e, Val: v}}
}

// four are right ones of all clients.
func four() []api.Sess {
	return []api.Sess{last(1, 3, api.OK, number(minus)), last(2, 1, api.ErrOther, text("x")), last(3, maxSeq, api.ErrLine, none()), last(4, 7, api.ErrFull, number(nan))}
}

func machine(l []api.Pair, row ...api.Sess) api.Machine { return api.Machine{Pairs: l, Sess: row} }

func call(client, seq int, c api.Cmd) api.Call { return api.Call{Client: client, Seq: seq, Cmd: c} }

// alike holds bits, so that no nought and no NaN is taken for another.
func alike(a, b api.Value) bool {
	return a.Kind == b.Kind && math.Float64bits(a.Num) == math.Float64bits(b.Num) && a.Text == b.Text
}

func alikeReplies(a, b api.Reply) bool { return a.Code == b.Code && alike(a.Val, b.Val) }

func alikePairs(a, b []api.Pair) bool {
	return slices.EqualFunc(a, b, func(p, q api.Pair) bool { return p.Key == q.Key && alike(p.Val, q.Val) })
}

func alikeRows(a, b []api.Sess) bool {
	return slices.EqualFunc(a, b, func(x, y api.Sess) bool {
		return x.Client == y.Client && x.Seq == y.Seq && alikeReplies(x.Reply, y.Reply)
	})
}

func alikeMachines(a, b api.Machine) bool {
	return alikePairs(a.Pairs, b.Pairs) && alikeRows(a.Sess, b.Sess)
}

func told(v api.Value) string {
	return fmt.Sprintf("{%d %016x %q}", v.Kind, math.Float64bits(v.Num), v.Text)
}

func toldReply(r api.Reply) string { return fmt.Sprintf("reply %d %s", r.Code, told(r.Val)) }

func toldMachine(m api.Machine) string {
	s := fmt.Sprintf("a machine of %d pairs", len(m.Pairs))
	for _, p := range m.Pairs[:min(len(m.Pairs), 34)] {
		s += fmt.Sprintf(" %q %s", p.Key, told(p.Val))
	}
	s += fmt.Sprintf(", %d clients", len(m.Sess))
	for _, x := range m.Sess[:min(len(m.Sess), 8)] {
		s += fmt.Sprintf(" %d %d %s", x.Client, x.Seq, toldReply(x.Reply))
	}
	return s
}

func toldCall(c api.Call) string {
	return fmt.Sprintf("call %d %d, command %d %q old %s val %s", c.Client, c.Seq, c.Cmd.Kind, c.Cmd.Key, told(c.Cmd.Old), told(c.Cmd.Val))
}

func copied(m api.Machine) api.Machine {
	return machine(slices.Clone(m.Pairs), slices.Clone(m.Sess)...)
}

// does holds what Do answers, and that what it was handed stays.
func does(t *testing.T, m api.Machine, c api.Call, want api.Machine, wantReply api.Reply) {
	t.Helper()
	before := copied(m)
	next, reply := sess.Do(m, c)
	if !alikeMachines(next, want) || !alikeReplies(reply, wantReply) {
		t.Errorf("%s, of %s:\n%s, %s\nnot %s, %s", toldCall(c), toldMachine(m), toldReply(reply), toldMachine(next), toldReply(wantReply), toldMachine(want))
	}
	if !alikeMachines(m, before) {
		t.Errorf("%s changed the machine that it was handed", toldCall(c))
	}
}

// fails holds an error beside which there is no machine.
func fails(t *testing.T, m api.Machine, c api.Call, e api.Errno) {
	t.Helper()
	does(t, m, c, api.Machine{}, api.Reply{Code: e})
}

func TestExample(t *testing.T) { // P7.2, P7.4
	c := call(1, 1, add("a", number(2)))
	once := machine([]api.Pair{pair("a", number(2))}, last(1, 1, api.OK, number(2)))
	does(t, api.Machine{}, c, once, api.Reply{Val: number(2)})
	does(t, once, c, once, api.Reply{Val: number(2)})
}

func holdCheck(t *testing.T, m api.Machine, want api.Errno) {
	t.Helper()
	if e := sess.Check(m); e != want {
		t.Errorf("Check of %s: error %d, not %d", toldMachine(m), e, want)
	}
}

func TestCheckOfPairs(t *testing.T) { // P7.1
	holdCheck(t, api.Machine{}, api.OK)
	holdCheck(t, api.Machine{Pairs: []api.Pair{}, Sess: []api.Sess{}}, api.OK)
	for n := range 33 {
		holdCheck(t, machine(filled(n)), api.OK)
		holdCheck(t, machine(filled(n), four()...), api.OK)
	}
	for _, v := range rightValues()[1:] {
		holdCheck(t, machine([]api.Pair{pair(longest, v)}), api.OK)
	}
	for _, l := range wrongPairs() {
		holdCheck(t, machine(l), api.ErrBad)
		holdCheck(t, machine(l, four()...), api.ErrBad)
	}
}

// TestCheckOfClients meets all rows of up to five clients.
func TestCheckOfClients(t *testing.T) { // P7.1
	rows := [][]int{nil}
	for i := 0; i < len(rows); i++ {
		row, want := rows[i], api.OK
		var l []api.Sess
		for k, client := range row {
			l = append(l, last(client, 1, api.OK, none()))
			if client < 1 || client > api.MaxClients || k > 0 && row[k-1] >= client {
				want = api.ErrBad
			}
		}
		holdCheck(t, machine(nil, l...), want)
		holdCheck(t, machine(filled(2), l...), want)
		for client := 0; client <= api.MaxClients+1 && len(row) < 5; client++ {
			rows = append(rows, append(slices.Clone(row), client))
		}
	}
	for _, client := range []int{math.MinInt, -1, 1<<32 + 1, math.MaxInt} {
		holdCheck(t, machine(nil, last(client, 1, api.OK, none())), api.ErrBad)
	}
}

// edge is a number that may be, or may not.
type edge struct {
	n   int
	may bool
}

func seqEdges() []edge {
	return []edge{{math.MinInt, false}, {-maxSeq, false}, {-1, false}, {0, false}, {1, true}, {2, true}, {1 << 32, true}, {maxSeq - 1, true}, {maxSeq, true}, {maxSeq + 1, false}, {math.MaxInt, false}}
}

func clientEdges() []edge {
	return []edge{{math.MinInt, false}, {-1, false}, {0, false}, {1, true}, {2, true}, {3, true}, {api.MaxClients, true}, {api.MaxClients + 1, false}, {1<<32 + 1, false}, {math.MaxInt, false}}
}

func codeEdges() []edge {
	return []edge{{math.MinInt, false}, {-1, false}, {int(api.OK), true}, {1, true}, {int(api.ErrLine), true}, {int(api.ErrLine) + 1, false}, {1 << 32, false}, {math.MaxInt, false}}
}

func badUnless(is bool) api.Errno {
	if is {
		return api.OK
	}
	return api.ErrBad
}

// TestCheckOfASess has each of four clients' ones be at each edge.
func TestCheckOfASess(t *testing.T) { // P7.1
	for at := range four() {
		hold := func(change func(x *api.Sess), want api.Errno) {
			t.Helper()
			row := four()
			change(&row[at])
			holdCheck(t, machine(filled(1), row...), want)
			holdCheck(t, machine(nil, row[at]), want)
		}
		for _, seq := range seqEdges() {
			hold(func(x *api.Sess) { x.Seq = seq.n }, badUnless(seq.may))
		}
		for _, code := range codeEdges() {
			hold(func(x *api.Sess) { x.Reply.Code = api.Errno(code.n) }, badUnless(code.may))
		}
		for _, v := range rightValues() {
			hold(func(x *api.Sess) { x.Reply.Val = v }, api.OK)
		}
		for _, v := range wrongValues() {
			hold(func(x *api.Sess) { x.Reply.Val = v }, api.ErrBad)
		}
	}
}

// TestCheckOfAnyReply: a right reply is not asked whether a command could have made it.
func TestCheckOfAnyReply(t *testing.T) { // P7.1
	for e := api.OK; e <= api.ErrLine; e++ {
		for _, v := range rightValues() {
			holdCheck(t, machine(nil, last(2, 1, e, v)), api.OK)
		}
	}
}

func holdRight(t *testing.T, c api.Call, want api.Errno) {
	t.Helper()
	if e := sess.Right(c); e != want {
		t.Errorf("Right of %s: error %d, not %d", toldCall(c), e, want)
	}
}

// wrongCmds have each error of a command.
func wrongCmds() []api.Cmd {
	l := []api.Cmd{{}, {Kind: -1, Key: "a"}, {Kind: api.OpMax + 1, Key: longer}, get(longer), put(longer, none()), get(""), put("a", none()), add("a", text("1")), {Kind: api.OpGet, Key: "a", Old: number(1)}}
	for _, v := range wrongValues() {
		l = append(l, put("a", v), cas("a", v, none()))
	}
	return l
}

func rightCmds() []api.Cmd {
	return []api.Cmd{get("a"), get(longest), put("a", text("x")), {Kind: api.OpDel, Key: "a"}, cas("a", none(), none()), cas("a", number(nan), text("")), add("a", number(minus)), {Kind: api.OpMax, Key: "a", Val: number(inf)}}
}

func TestRight(t *testing.T) { // P7.1
	codes := map[api.Errno]int{}
	for _, client := range clientEdges() {
		for _, seq := range seqEdges() {
			for _, c := range rightCmds() {
				want := api.ErrArg
				if client.may && seq.may {
					want = api.OK
				}
				holdRight(t, call(client.n, seq.n, c), want)
			}
			for _, c := range wrongCmds() {
				want := api.ErrArg
				if client.may && seq.may {
					want = kv.Right(c)
				}
				codes[want]++
				holdRight(t, call(client.n, seq.n, c), want)
			}
		}
	}
	if codes[api.OK] > 0 || codes[api.ErrKind] == 0 || codes[api.ErrLong] == 0 || codes[api.ErrType] == 0 {
		t.Errorf("wrong commands have the errors %v", codes)
	}
}

func TestLast(t *testing.T) { // P7.1
	twice := machine(filled(33), last(4, 9, api.OK, number(1)), last(2, 5, api.ErrOther, text("first")), last(2, 6, api.OK, text("second")), last(0, -7, -3, number(otherNaN)), last(-1, 0, 99, api.Value{Kind: 8, Text: "x"}), last(1, maxSeq+1, api.OK, none()), last(3, 0, api.OK, number(2)), last(3, 2, api.OK, none()))
	for _, c := range []struct {
		m    api.Machine
		want api.Sess
	}{
		{api.Machine{}, last(1, 0, api.OK, none())}, {machine(filled(3)), last(0, 0, api.OK, none())},
		{machine(nil, four()...), four()[0]}, {machine(nil, four()...), four()[1]}, {machine(nil, four()...), four()[2]}, {machine(filled(2), four()...), four()[3]},
		{machine(nil, four()...), last(0, 0, api.OK, none())}, {machine(nil, four()...), last(5, 0, api.OK, none())}, {machine(nil, four()...), last(math.MinInt, 0, api.OK, none())},
		{machine(nil, four()[1], four()[3]), last(1, 0, api.OK, none())}, {machine(nil, four()[1], four()[3]), last(3, 0, api.OK, none())}, {machine(nil, four()[:3]...), last(4, 0, api.OK, none())},
		{twice, twice.Sess[0]}, {twice, twice.Sess[1]}, {twice, twice.Sess[3]}, {twice, twice.Sess[4]}, {twice, twice.Sess[5]}, {twice, twice.Sess[6]}, {twice, last(5, 0, api.OK, none())},
	} {
		seq, reply := sess.Last(c.m, c.want.Client)
		if seq != c.want.Seq || !alikeReplies(reply, c.want.Reply) {
			t.Errorf("Last of client %d in %s: %d %s", c.want.Client, toldMachine(c.m), seq, toldReply(reply))
		}
	}
}

// TestLastOfManySess: any machine may have more than there are clients.
func TestLastOfManySess(t *testing.T) { // P7.1
	var row []api.Sess
	for i := range 300 {
		row = append(row, last(300-i, i+1, api.Errno(i), number(float64(i))))
	}
	for _, x := range row {
		if seq, reply := sess.Last(machine(nil, row...), x.Client); seq != x.Seq || !alikeReplies(reply, x.Reply) {
			t.Errorf("Last of client %d: %d %s", x.Client, seq, toldReply(reply))
		}
	}
}

func TestDoOfWrongCalls(t *testing.T) { // P7.2
	machines := append(rightMachines(), wrongMachines()...)
	for _, m := range machines {
		for _, c := range wrongCmds() {
			for _, seq := range []int{1, 2, 3, maxSeq} {
				fails(t, m, call(1, seq, c), kv.Right(c))
			}
			fails(t, m, call(0, 1, c), api.ErrArg)
			fails(t, m, call(1, 0, c), api.ErrArg)
		}
		for _, n := range clientEdges() {
			if !n.may {
				fails(t, m, call(n.n, 1, put("a", number(1))), api.ErrArg)
			}
		}
		for _, n := range seqEdges() {
			if !n.may {
				fails(t, m, call(1, n.n, put("a", number(1))), api.ErrArg)
			}
		}
	}
}

// rightMachines have every kind of value in each place.
func rightMachines() []api.Machine {
	l := []api.Machine{{}, machine(filled(1)), machine(filled(32)), machine(nil, four()...), machine(filled(32), four()...), machine(nil, last(3, 2, api.ErrBad, text("abc")))}
	for _, v := range rightValues() {
		l = append(l, machine(nil, last(1, 3, api.ErrOther, v)), machine(filled(2), last(2, maxSeq, api.OK, v), last(4, 64, api.ErrLine, v)))
		if v.Kind != api.None {
			l = append(l, machine([]api.Pair{pair("a", v)}), machine([]api.Pair{pair("\x00", text("")), pair(longest, v), pair("\xff", v)}, last(1, 63, api.ErrFull, v)))
		}
	}
	return l
}

// wrongMachines are not right, each for one reason.
func wrongMachines() []api.Machine {
	var l []api.Machine
	for _, pairs := range wrongPairs() {
		l = append(l, machine(pairs), machine(pairs, four()...))
	}
	for at := range four() {
		for _, change := range wrongChanges() {
			row := four()
			change(&row[at])
			l = append(l, machine(nil, row...), machine(filled(3), row...), machine(nil, row[at]))
		}
	}
	falls, same := four(), four()
	falls[1], falls[2] = falls[2], falls[1]
	same[2].Client = same[1].Client
	return append(l, machine(nil, falls...), machine(nil, same...), machine(filled(2), append(four(), four()[3])...), machine(nil, append(four(), last(5, 1, api.OK, none()))...), machine(nil, slices.Repeat(four(), 100)...))
}

func wrongChanges() []func(x *api.Sess) {
	var l []func(x *api.Sess)
	for _, n := range clientEdges() {
		if !n.may {
			l = append(l, func(x *api.Sess) { x.Client = n.n })
		}
	}
	for _, n := range seqEdges() {
		if !n.may {
			l = append(l, func(x *api.Sess) { x.Seq = n.n })
		}
	}
	for _, n := range codeEdges() {
		if !n.may {
			l = append(l, func(x *api.Sess) { x.Reply.Code = api.Errno(n.n) })
		}
	}
	for _, v := range wrongValues() {
		l = append(l, func(x *api.Sess) { x.Reply.Val = v })
	}
	return l
}

func TestDoOfWrongMachines(t *testing.T) { // P7.2
	for _, m := range wrongMachines() {
		holdCheck(t, m, api.ErrBad)
		for client := 1; client <= api.MaxClients; client++ {
			for _, seq := range []int{1, 2, 3, 7, maxSeq} {
				for _, c := range rightCmds() {
					fails(t, m, call(client, seq, c), api.ErrBad)
				}
			}
		}
	}
}

func TestTheOrderOfErrors(t *testing.T) { // P7.2
	m := machine(filled(32), last(1, 5, api.ErrOther, text("x")))
	wrong := machine(append(filled(1), filled(1)...), last(1, 5, api.ErrOther, text("x")))
	for _, seq := range []int{4, 5, 6} {
		fails(t, wrong, call(0, seq, api.Cmd{}), api.ErrArg)
		fails(t, m, call(5, seq, get("")), api.ErrArg)
		fails(t, wrong, call(1, seq, api.Cmd{Key: longer}), api.ErrKind)
		fails(t, m, call(1, seq, api.Cmd{Key: longer}), api.ErrKind)
		fails(t, m, call(1, seq, put(longer, none())), api.ErrLong)
		fails(t, m, call(1, seq, put("z", none())), api.ErrType)
		fails(t, wrong, call(1, seq, put("z", number(1))), api.ErrBad)
	}
	does(t, m, call(1, 4, put("z", number(1))), m, api.Reply{Code: api.ErrStale})
	does(t, m, call(1, 5, put("z", number(1))), m, api.Reply{Code: api.ErrOther, Val: text("x")})
	does(t, m, call(1, 6, put("z", number(1))), machine(filled(32), last(1, 6, api.ErrFull, none())), api.Reply{Code: api.ErrFull})
}

// endings are pairs, and commands on them that end in each way that a right one can.
func endings() (l []api.Pair, all []api.Cmd) {
	l = append(filled(31), pair("t", text("x")))
	return l, []api.Cmd{
		get("k001"), get("z"), get("t"), put("k001", text("")), put("t", number(nan)), {Kind: api.OpDel, Key: "t"}, {Kind: api.OpDel, Key: "z"}, cas("t", text("x"), none()), cas("z", none(), none()), cas("k001", number(0), number(minus)), add("k003", number(0.5)), {Kind: api.OpMax, Key: "k003", Val: number(0.5)},
		cas("t", text("y"), number(1)), cas("k001", number(minus), number(1)), cas("z", number(1), number(1)), add("t", number(1)), {Kind: api.OpMax, Key: "t", Val: number(1)}, put("z", number(1)), cas("a", none(), text("a")), add("a", number(1)),
	}
}

// TestDoOfNewCalls: what kv.Do tells is told, kept, and told again, whatever its Code.
func TestDoOfNewCalls(t *testing.T) { // P7.2, P7.4
	l, all := endings()
	codes := map[api.Errno]int{}
	for _, cmd := range all {
		pairs, reply := kv.Do(l, cmd)
		codes[reply.Code]++
		for at := range 4 {
			for _, seq := range []int{1, 2, 5, maxSeq - 1} {
				row := four()
				row[2].Seq = 8
				before := slices.Delete(slices.Clone(row), at, at+1)
				row[at] = api.Sess{Client: at + 1, Seq: seq, Reply: reply}
				c := call(at+1, seq, cmd)
				does(t, machine(l, before...), c, machine(pairs, row...), reply)
				does(t, machine(pairs, row...), c, machine(pairs, row...), reply)
				other := call(at+1, seq, put("k007", text("other")))
				does(t, machine(pairs, row...), other, machine(pairs, row...), reply)
			}
		}
	}
	if codes[api.OK] == 0 || codes[api.ErrOther] == 0 || codes[api.ErrType] == 0 || codes[api.ErrFull] == 0 {
		t.Errorf("the replies are %v", codes)
	}
}

// TestDoOfNumbers has each client's call be below, at and above its last one.
func TestDoOfNumbers(t *testing.T) { // P7.2
	numbers := []int{1, 2, 3, 4, 255, 256, 1 << 31, 1 << 32, 1<<32 + 1, maxSeq - 1, maxSeq}
	for client := 1; client <= api.MaxClients; client++ {
		for _, s := range numbers {
			was := four()
			was[client-1] = last(client, s, api.ErrOther, text("kept"))
			m := machine([]api.Pair{pair("a", number(1))}, was...)
			for _, seq := range numbers {
				for _, cmd := range []api.Cmd{add("a", number(1)), get("a"), put("a", text("x"))} {
					c := call(client, seq, cmd)
					switch {
					case seq < s:
						does(t, m, c, m, api.Reply{Code: api.ErrStale})
					case seq == s:
						does(t, m, c, m, api.Reply{Code: api.ErrOther, Val: text("kept")})
					default:
						pairs, reply := kv.Do(m.Pairs, cmd)
						row := slices.Clone(was)
						row[client-1] = api.Sess{Client: client, Seq: seq, Reply: reply}
						does(t, m, c, machine(pairs, row...), reply)
					}
				}
			}
		}
	}
}

// TestFirstCalls lets clients come in every order, till as many as may be are there.
func TestFirstCalls(t *testing.T) { // P7.2
	for order := range 256 {
		m := api.Machine{}
		row := map[int]api.Sess{}
		for k := range 4 {
			client := 1 + order>>(2*k)&3
			seq := row[client].Seq + 1 + k
			next, reply := sess.Do(m, call(client, seq, add("a", number(1))))
			row[client] = last(client, seq, api.OK, number(float64(k+1)))
			want := machine([]api.Pair{pair("a", number(float64(k+1)))})
			for own := 1; own <= api.MaxClients; own++ {
				if x, is := row[own]; is {
					want.Sess = append(want.Sess, x)
				}
			}
			if !alikeMachines(next, want) || !alikeReplies(reply, row[client].Reply) {
				t.Fatalf("%s, not %s; %s", toldMachine(next), toldMachine(want), toldReply(reply))
			}
			m = next
		}
	}
}

// TestWhatIsNotNewLeavesAll: also what a command might have looked at is not touched.
func TestWhatIsNotNewLeavesAll(t *testing.T) { // P7.2, P7.4
	for _, m := range rightMachines() {
		for _, x := range m.Sess {
			for _, cmd := range rightCmds() {
				does(t, m, call(x.Client, x.Seq, cmd), m, x.Reply)
				if x.Seq > 1 {
					does(t, m, call(x.Client, x.Seq-1, cmd), m, api.Reply{Code: api.ErrStale})
					does(t, m, call(x.Client, 1, cmd), m, api.Reply{Code: api.ErrStale})
				}
			}
		}
	}
}

func TestOnceAndNoMore(t *testing.T) { // P7.4
	m, sum := api.Machine{}, 0.0
	for seq := 1; seq <= 20; seq++ {
		for client := 1; client <= api.MaxClients; client++ {
			c := call(client, seq, add("sum", number(float64(client))))
			sum += float64(client)
			for range 3 {
				next, reply := sess.Do(m, c)
				if !alikeReplies(reply, api.Reply{Val: number(sum)}) || !alike(kv.Get(next.Pairs, "sum"), number(sum)) {
					t.Fatalf("%s: %s, %s, not %v", toldCall(c), toldReply(reply), toldMachine(next), sum)
				}
				m = next
			}
			if seq > 1 {
				does(t, m, call(client, seq-1, c.Cmd), m, api.Reply{Code: api.ErrStale})
			}
		}
	}
}

// sparePair and spareSess stand in spare room, which nobody may touch or hand out.
var sparePair, spareSess = pair("spare", text("spare")), last(77, 77, 7, text("spare"))

// withRoom answers m in memory that has room at both ends, and all of that memory.
func withRoom(m api.Machine) (room, all api.Machine) {
	all.Pairs = slices.Concat([]api.Pair{sparePair}, m.Pairs, slices.Repeat([]api.Pair{sparePair}, 40))
	all.Sess = slices.Concat([]api.Sess{spareSess}, m.Sess, slices.Repeat([]api.Sess{spareSess}, 8))
	return machine(all.Pairs[1:1+len(m.Pairs)], all.Sess[1:1+len(m.Sess)]...), all
}

// scribble writes over all of m's memory, its spare room too.
func scribble(m api.Machine) {
	for i := range m.Pairs[:cap(m.Pairs)] {
		m.Pairs[:cap(m.Pairs)][i] = pair("wrong", number(666))
	}
	for i := range m.Sess[:cap(m.Sess)] {
		m.Sess[:cap(m.Sess)][i] = last(66, 66, 6, text("wrong"))
	}
}

func handsOutSpares(m api.Machine) bool {
	return slices.Contains(m.Pairs[:cap(m.Pairs)], sparePair) || slices.Contains(m.Sess[:cap(m.Sess)], spareSess)
}

// callsOfAllEnds are wrong, stale, told again and new.
func callsOfAllEnds() []api.Call {
	l := []api.Call{{}, call(1, 1, api.Cmd{}), call(5, 1, get("a"))}
	_, all := endings()
	for _, cmd := range append(all, rightCmds()...) {
		for client := 1; client <= api.MaxClients; client++ {
			l = append(l, call(client, 1, cmd), call(client, 3, cmd), call(client, 64, cmd), call(client, maxSeq, cmd))
		}
	}
	return l
}

func TestWhatIsHandedInStays(t *testing.T) { // P7.2, R2
	l, _ := endings()
	machines := append(rightMachines(), wrongMachines()[0], machine(nil, slices.Repeat(four(), 2)...), machine(l, four()...), machine(l, four()[1], four()[3]), machine(l))
	for _, m := range machines {
		for _, c := range callsOfAllEnds() {
			room, all := withRoom(m)
			before := copied(all)
			first, reply := sess.Do(room, c)
			second, again := sess.Do(room, c)
			want := copied(first)
			if !alikeMachines(second, first) || !alikeReplies(again, reply) {
				t.Fatalf("%s, of %s: not the same the second time", toldCall(c), toldMachine(m))
			}
			if handsOutSpares(first) {
				t.Fatalf("%s, of %s: what lies behind the length is handed out", toldCall(c), toldMachine(m))
			}
			scribble(second)
			if !alikeMachines(all, before) || !alikeMachines(first, want) {
				t.Fatalf("%s, of %s: an answer shares memory with what was handed in, or with another answer", toldCall(c), toldMachine(m))
			}
			scribble(all)
			if !alikeMachines(first, want) {
				t.Fatalf("%s, of %s: an answer hangs on what is done later with what was handed in", toldCall(c), toldMachine(m))
			}
		}
	}
}

func TestTheOtherCallsTouchNothing(t *testing.T) { // P7.1, P7.3, R2, R6
	for _, m := range append(rightMachines(), wrongMachines()...) {
		room, all := withRoom(m)
		before := copied(all)
		seq, reply := sess.Last(room, spareSess.Client)
		if seq != 0 || !alikeReplies(reply, api.Reply{}) {
			t.Fatalf("Last read behind the length: %d", seq)
		}
		first, e := sess.Encode(room)
		if e != sess.Check(room) || e != sess.Check(m) {
			t.Fatalf("Encode of %s: error %d", toldMachine(m), e)
		}
		second, _ := sess.Encode(room)
		want := bytes.Clone(first)
		for i := range second[:cap(second)] {
			second[:cap(second)][i] = 0xee
		}
		if !bytes.Equal(first, want) || !alikeMachines(all, before) {
			t.Fatalf("Encode of %s shares memory, or changed it", toldMachine(m))
		}
	}
}

func holdEncode(t *testing.T, m api.Machine, want []byte, wantE api.Errno) {
	t.Helper()
	if b, e := sess.Encode(m); !bytes.Equal(b, want) || e != wantE {
		t.Errorf("Encode of %s: % x, error %d\nnot % x, %d", toldMachine(m), b, e, want, wantE)
	}
}

func TestEncodeByHand(t *testing.T) { // P7.3
	for _, c := range []struct {
		m    api.Machine
		want []byte
	}{
		{api.Machine{}, []byte{0, 0}},
		{api.Machine{Pairs: []api.Pair{}, Sess: []api.Sess{}}, []byte{0, 0}},
		{machine([]api.Pair{pair("a", text(""))}), []byte{2, 2, 'a', 4, 0, 0}},
		{machine([]api.Pair{pair("ab", text("x\xff"))}), []byte{2, 4, 'a', 'b', 4, 4, 'x', 0xff, 0}},
		{machine([]api.Pair{pair("a", number(minus))}), []byte{2, 2, 'a', 2, 0x80, 0, 0, 0, 0, 0, 0, 0, 0}},
		{machine(nil, last(1, 1, api.OK, none())), []byte{0, 2, 2, 2, 0, 0}},
		{machine(nil, last(4, 64, api.ErrLine, number(nan))), []byte{0, 2, 8, 0x80, 1, 32, 2, 0x7f, 0xf8, 0, 0, 0, 0, 0, 1}},
		{machine([]api.Pair{pair("a", number(1)), pair("b", text("y"))}, last(2, 3, api.ErrOther, text("z")), last(3, maxSeq, api.ErrArg, number(0))),
			[]byte{4, 2, 'a', 2, 0x3f, 0xf0, 0, 0, 0, 0, 0, 0, 2, 'b', 4, 2, 'y', 4, 4, 6, 18, 4, 2, 'z', 6, 0x80, 0x80, 0x80, 0x80, 0x80, 0x40, 2, 2, 0, 0, 0, 0, 0, 0, 0, 0}},
	} {
		holdEncode(t, c.m, c.want, api.OK)
		if holdDecode(t, c.want) != api.OK {
			t.Errorf("Decode of % x", c.want)
		}
	}
}

func TestEncodeOfMachines(t *testing.T) { // P7.3, P7.4
	for _, m := range rightMachines() {
		b := spell(m).b
		holdEncode(t, m, b, api.OK)
		got, e := sess.Decode(b)
		if e != api.OK || !alikeMachines(got, m) {
			t.Errorf("Decode of % x: error %d, %s, not %s", b, e, toldMachine(got), toldMachine(m))
		}
	}
	for _, m := range wrongMachines() {
		holdEncode(t, m, nil, api.ErrBad)
	}
}

// TestDecodeOfWrongMachines: their bytes may be those of a right one, where what is wrong is not written.
func TestDecodeOfWrongMachines(t *testing.T) { // P7.3
	refused := 0
	for _, m := range wrongMachines() {
		if holdDecode(t, spell(m).b) == api.ErrBad {
			refused++
		}
	}
	if refused < len(wrongMachines())/2 {
		t.Errorf("only %d were refused", refused)
	}
	for _, m := range []api.Machine{
		machine(filled(33)), machine([]api.Pair{pair("b", number(1)), pair("a", number(1))}), machine([]api.Pair{pair("a", number(1)), pair("a", number(1))}), machine([]api.Pair{pair("", number(1))}), machine([]api.Pair{pair(longer, number(1))}), machine([]api.Pair{pair("a", none())}), machine([]api.Pair{pair("a", number(otherNaN))}),
		machine(nil, last(2, 1, 0, none()), last(1, 1, 0, none())), machine(nil, last(2, 1, 0, none()), last(2, 1, 0, none())), machine(nil, last(0, 1, 0, none())), machine(nil, last(5, 1, 0, none())), machine(nil, append(four(), last(5, 1, 0, none()))...), machine(nil, append(four(), last(4, 1, 0, none()))...),
		machine(nil, last(1, 0, 0, none())), machine(nil, last(1, maxSeq+1, 0, none())), machine(nil, last(1, 1, -1, none())), machine(nil, last(1, 1, 17, none())), machine(nil, last(1, 1, 0, text(strings.Repeat("x", 33)))), machine(nil, last(1, 1, 0, api.Value{Kind: 3})), machine(nil, last(1, 1, 0, api.Value{Kind: -1})), machine(nil, last(1, 1, 0, number(otherNaN))),
	} {
		if b := spell(m).b; holdDecode(t, b) != api.ErrBad {
			t.Errorf("Decode of % x, of %s", b, toldMachine(m))
		}
	}
}

func TestDecodeOfBeginningsAndMore(t *testing.T) { // P7.3
	for _, m := range rightMachines() {
		b := spell(m).b
		for n := range len(b) {
			if holdDecode(t, b[:n:n]) != api.ErrBad || holdDecode(t, b[:n]) != api.ErrBad {
				t.Errorf("Decode of % x, a beginning of % x", b[:n], b)
			}
		}
		for more := range 256 {
			if holdDecode(t, append(bytes.Clone(b), byte(more))) != api.ErrBad {
				t.Errorf("Decode of % x, and %02x", b, more)
			}
		}
		if holdDecode(t, append(bytes.Clone(b), b...)) != api.ErrBad {
			t.Errorf("Decode of % x, twice", b)
		}
	}
}

// TestDecodeOfFewBytes meets all of up to two bytes, and of three beside a count of nought.
func TestDecodeOfFewBytes(t *testing.T) { // P7.3
	hold := func(b ...byte) {
		t.Helper()
		want := badUnless(bytes.Equal(b, []byte{0, 0}))
		if e := holdDecode(t, b); e != want {
			t.Errorf("Decode of % x: error %d", b, e)
		}
	}
	hold()
	for x := range 256 {
		hold(byte(x))
		for y := range 256 {
			hold(byte(x), byte(y))
			hold(0, byte(x), byte(y))
			hold(byte(x), byte(y), 0)
		}
	}
}

// TestDecodeOfEachByteChanged: what is taken nevertheless is another machine.
func TestDecodeOfEachByteChanged(t *testing.T) { // P7.3, P7.4
	machines := []api.Machine{
		{}, machine([]api.Pair{pair("b", text("xy")), pair("d", number(1)), pair("f", text(""))}, last(2, 300, api.ErrOther, text("z")), last(4, maxSeq, api.OK, number(nan))),
		machine(filled(2), four()...), machine(filled(32), four()...),
	}
	for _, m := range machines {
		right := spell(m).b
		for at := range right {
			for x := range 256 {
				b := bytes.Clone(right)
				b[at] = byte(x)
				if holdDecode(t, b) != api.OK || b[at] == right[at] {
					continue
				}
				if got, _ := sess.Decode(b); alikeMachines(got, m) {
					t.Fatalf("% x and % x are one machine", b, right)
				}
			}
		}
	}
}

// replaced answers s's bytes, in which others stand for its number at from to to.
func (s *spelling) replaced(place [2]int, others ...byte) []byte {
	return slices.Concat(s.b[:place[0]], others, s.b[place[1]:])
}

func TestDecodeOfNumbersThatAreWrittenLonger(t *testing.T) { // P7.3
	for _, m := range rightMachines() {
		s := spell(m)
		for _, place := range s.numbers {
			groups := bytes.Clone(s.b[place[0]:place[1]])
			for len(groups) < 12 {
				groups[len(groups)-1] |= 0x80
				groups = append(groups, 0)
				if b := s.replaced(place, groups...); holdDecode(t, b) != api.ErrBad {
					t.Errorf("Decode of % x", b)
				}
			}
			for _, wrong := range [][]byte{{}, {0x80}, {0xff, 0xff, 0xff, 0xff, 0xff, 0xff, 0xff, 0xff, 0xff, 2}, {0xff, 0xff, 0xff, 0xff, 0xff, 0xff, 0xff, 0xff, 0xff, 0xff, 1}} {
				holdDecode(t, s.replaced(place, wrong...))
			}
		}
	}
}

// TestDecodeOfOtherNumbers: a count, a length, a kind or a number of a call that is another one.
func TestDecodeOfOtherNumbers(t *testing.T) { // P7.3
	for _, m := range rightMachines() {
		s := spell(m)
		for _, place := range s.numbers {
			was, _ := binary.Varint(s.b[place[0]:place[1]])
			for _, n := range []int64{math.MinInt64, -1 << 32, -1, 0, 1, 2, 3, 4, 5, 8, 9, 16, 17, 31, 32, 33, 34, was - 1, was + 1, -was, 1<<14 - 1, 1 << 14, 1<<14 + 1, 1 << 31, 1 << 32, 1<<32 + was, 1<<40 - 1, 1 << 40, 1<<40 + 1, 1 << 62, math.MaxInt64} {
				holdDecode(t, s.replaced(place, binary.AppendVarint(nil, n)...))
			}
		}
	}
}

func TestDecodeOfCountsThatAreFarTooGreat(t *testing.T) { // P7.3
	pairs := spell(machine(filled(33))).b[1:]
	for _, n := range []int64{33, 34, 64, 1 << 16, 1 << 31, 1 << 32, 1 << 40, 1 << 62, math.MaxInt64, math.MinInt64, -33, -1} {
		count := binary.AppendVarint(nil, n)
		for _, b := range [][]byte{
			count, append(bytes.Clone(count), 0), slices.Concat(count, pairs), slices.Concat([]byte{0}, count), slices.Concat([]byte{0}, count, []byte{2, 2, 0, 0}), slices.Concat(count, make([]byte, 1<<16)), slices.Concat([]byte{0}, count, make([]byte, 1<<16)), slices.Concat([]byte{2}, count, make([]byte, 1<<16)),
			slices.Concat([]byte{2, 2, 'a', 4}, count, make([]byte, 1<<16)), slices.Concat(count, slices.Repeat([]byte{2, 'a', 4, 0}, 1<<12)),
		} {
			if holdDecode(t, b) != api.ErrBad {
				t.Errorf("a count of %d: taken", n)
			}
		}
	}
	long := slices.Concat([]byte{2, 2, 'a', 4}, binary.AppendVarint(nil, api.MaxPayload+1), make([]byte, api.MaxPayload+2))
	if holdDecode(t, long) != api.ErrBad || holdDecode(t, make([]byte, 1<<20)) != api.ErrBad {
		t.Error("long bytes: taken")
	}
}

func TestDecodeOfNaNs(t *testing.T) { // P7.3
	for _, m := range rightMachines() {
		s := spell(m)
		for _, at := range s.floats {
			for _, bits := range []uint64{theNaN, theNaN + 1, theNaN - 1, 0x7ff0000000000001, 0xfff8000000000001, math.MaxUint64, 0x7fffffffffffffff, 0x7ff0000000000000, 0xfff0000000000000, 0x8000000000000000, 0} {
				b := s.replaced([2]int{at, at + 8}, binary.BigEndian.AppendUint64(nil, bits)...)
				want := badUnless(!math.IsNaN(math.Float64frombits(bits)) || bits == theNaN)
				if e := holdDecode(t, b); e != want {
					t.Errorf("a float of the bits %016x: error %d", bits, e)
				}
			}
		}
	}
}

func TestDecodeKeepsNothing(t *testing.T) { // P7.3, R2, R6
	for _, m := range rightMachines() {
		right := spell(m).b
		all := slices.Concat(right, []byte{2, 2, 'a', 4, 0, 0})
		first, e := sess.Decode(all[:len(right)])
		second, _ := sess.Decode(all[:len(right)])
		if e != api.OK || !bytes.Equal(all, slices.Concat(right, []byte{2, 2, 'a', 4, 0, 0})) {
			t.Fatalf("Decode of % x: error %d, % x", right, e, all)
		}
		scribble(second)
		for i := range all {
			all[i] = 0xee
		}
		if !alikeMachines(first, m) {
			t.Fatalf("what Decode answered hangs on what is done later: %s, not %s", toldMachine(first), toldMachine(m))
		}
	}
}
