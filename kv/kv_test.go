package kv_test

import (
	"fmt"
	"math"
	"slices"
	"strings"
	"testing"

	"skerry/api"
	"skerry/kv"
)

const (
	maxPairs = 32
	theNaN   = 0x7ff8000000000001
	most     = math.MaxFloat64
	tiniest  = math.SmallestNonzeroFloat64
)

var minus, inf, nan, otherNaN = math.Copysign(0, -1), math.Inf(1), math.Float64frombits(theNaN), math.Float64frombits(0xfff8000000000123)

var longest, longer = strings.Repeat("k", api.MaxKey), strings.Repeat("k", api.MaxKey+1)

func none() api.Value { return api.Value{} }

func number(x float64) api.Value { return api.Value{Kind: api.Num, Num: x} }

func text(s string) api.Value { return api.Value{Kind: api.Text, Text: s} }

func pair(key string, v api.Value) api.Pair { return api.Pair{Key: key, Val: v} }

func get(key string) api.Cmd { return api.Cmd{Kind: api.OpGet, Key: key} }

func put(key string, v api.Value) api.Cmd { return api.Cmd{Kind: api.OpPut, Key: key, Val: v} }

func del(key string) api.Cmd { return api.Cmd{Kind: api.OpDel, Key: key} }

func cas(key string, old, v api.Value) api.Cmd {
	return api.Cmd{Kind: api.OpCas, Key: key, Old: old, Val: v}
}

func add(key string, v api.Value) api.Cmd { return api.Cmd{Kind: api.OpAdd, Key: key, Val: v} }

func greater(key string, v api.Value) api.Cmd { return api.Cmd{Kind: api.OpMax, Key: key, Val: v} }

// rightValues has no None.
func rightValues() []api.Value {
	var l []api.Value
	for _, x := range []float64{-inf, -most, -2.5, -tiniest, minus, 0, tiniest, 0.1, 1, most, inf, nan} {
		l = append(l, number(x))
	}
	for _, s := range []string{"", "\x00", "a", "ab", "\xff", strings.Repeat("x", api.MaxText), strings.Repeat("é", api.MaxText/2)} {
		l = append(l, text(s))
	}
	return l
}

// wrongValues are neither right nor zero: a kind that is none, a text that is too long, what the kind does not name.
func wrongValues() []api.Value {
	return []api.Value{
		{Kind: -1}, {Kind: 3}, {Kind: math.MinInt}, {Kind: math.MaxInt}, {Kind: 1 << 32}, {Kind: 1<<8 + api.Num, Num: 1},
		text(strings.Repeat("x", api.MaxText+1)), text(strings.Repeat("é", api.MaxText/2) + "x"),
		{Num: 1}, {Num: minus}, {Num: nan}, {Num: otherNaN}, {Num: inf}, {Text: "a"}, {Text: "\x00"}, {Num: 1, Text: "a"},
		{Kind: api.Num, Text: "a"}, {Kind: api.Num, Num: 1, Text: "a"}, number(otherNaN), number(math.Float64frombits(theNaN + 1)),
		{Kind: api.Text, Num: 1}, {Kind: api.Text, Num: minus, Text: "a"}, {Kind: api.Text, Num: nan}, {Kind: api.Text, Num: 1, Text: strings.Repeat("x", api.MaxText+1)},
	}
}

func kindsThatAreNone() []int {
	return []int{math.MinInt, -api.OpGet, -1, api.OpGet - 1, api.OpMax + 1, 1<<8 + api.OpGet, 1<<32 + api.OpPut, math.MaxInt}
}

// filled answers n pairs, with room for one key ahead of, behind, and between any two of them.
func filled(n int) []api.Pair {
	var l []api.Pair
	for i := range n {
		l = append(l, pair(fmt.Sprintf("k%03d", 2*i+1), number(float64(i))))
	}
	return l
}

// alike holds bits, so that no nought and no NaN is taken for another.
func alike(a, b api.Value) bool {
	return a.Kind == b.Kind && math.Float64bits(a.Num) == math.Float64bits(b.Num) && a.Text == b.Text
}

func alikePairs(a, b []api.Pair) bool {
	return slices.EqualFunc(a, b, func(p, q api.Pair) bool { return p.Key == q.Key && alike(p.Val, q.Val) })
}

func alikeReplies(a, b api.Reply) bool { return a.Code == b.Code && alike(a.Val, b.Val) }

func told(v api.Value) string {
	return fmt.Sprintf("{%d %016x %q}", v.Kind, math.Float64bits(v.Num), v.Text)
}

func toldPairs(l []api.Pair) string {
	s := fmt.Sprintf("%d pairs", len(l))
	for _, p := range l[:min(len(l), maxPairs+2)] {
		s += fmt.Sprintf(" %q %s", p.Key, told(p.Val))
	}
	return s
}

func toldCmd(c api.Cmd) string {
	return fmt.Sprintf("command %d %q old %s val %s", c.Kind, c.Key, told(c.Old), told(c.Val))
}

// does holds what Do answers, and that what it was handed stays.
func does(t *testing.T, l []api.Pair, c api.Cmd, want []api.Pair, wantReply api.Reply) {
	t.Helper()
	before := slices.Clone(l)
	next, reply := kv.Do(l, c)
	if !alikePairs(next, want) || !alikeReplies(reply, wantReply) {
		t.Errorf("%s, of %s:\nreply %d %s, %s\nnot %d %s, %s", toldCmd(c), toldPairs(l), reply.Code, told(reply.Val), toldPairs(next), wantReply.Code, told(wantReply.Val), toldPairs(want))
	}
	if !alikePairs(l, before) {
		t.Errorf("%s changed the pairs that it was handed", toldCmd(c))
	}
}

// fails holds an error beside which Val is zero.
func fails(t *testing.T, l []api.Pair, c api.Cmd, e api.Errno) {
	t.Helper()
	does(t, l, c, l, api.Reply{Code: e})
}

func TestExamples(t *testing.T) { // P6.2
	does(t, nil, add("a", number(2)), []api.Pair{pair("a", number(2))}, api.Reply{Val: number(2)})
	does(t, nil, cas("a", none(), text("x")), []api.Pair{pair("a", text("x"))}, api.Reply{})
}

func holdCheck(t *testing.T, what string, l []api.Pair, want api.Errno) {
	t.Helper()
	if e := kv.Check(l); e != want {
		t.Errorf("Check of %s: error %d, not %d", what, e, want)
	}
}

func TestCheckOfHowManyPairs(t *testing.T) { // P6.1
	holdCheck(t, "nil", nil, api.OK)
	holdCheck(t, "an empty list", []api.Pair{}, api.OK)
	for n := range maxPairs + 1 {
		holdCheck(t, fmt.Sprint(n, " pairs"), filled(n), api.OK)
	}
	for _, n := range []int{33, 34, 64, 256, 288, 10000, 1<<16 + 1} {
		holdCheck(t, fmt.Sprint(n, " pairs"), filled(n), api.ErrBad)
	}
	holdCheck(t, "32 pairs, one more behind the length", filled(maxPairs + 1)[:maxPairs], api.OK)
}

// risingKeys are as they stand byte by byte.
func risingKeys() []string {
	return []string{"\x00", "\x00\x00", "\x00a", "A", "B", "a", "a\x00", "aB", "aa", "ab", "b", longest[1:], longest, "\x7f", "\x80", "é", "éééé", "\xff", "\xff\x00", strings.Repeat("\xff", api.MaxKey)}
}

func TestCheckOfTheOrderOfKeys(t *testing.T) { // P6.1
	keys := risingKeys()
	var all []api.Pair
	for _, key := range keys {
		all = append(all, pair(key, number(1)))
		holdCheck(t, fmt.Sprintf("the key %q", key), all[len(all)-1:], api.OK)
	}
	holdCheck(t, "all keys", all, api.OK)
	for i, first := range keys {
		for k, second := range keys {
			want := api.ErrBad
			if i < k {
				want = api.OK
			}
			holdCheck(t, fmt.Sprintf("%q, %q", first, second), []api.Pair{pair(first, text("a")), pair(second, text("a"))}, want)
		}
	}
}

func TestCheckOfKeysThatDoNotRiseSomewhere(t *testing.T) { // P6.1
	for at := range maxPairs - 1 {
		l := filled(maxPairs)
		l[at+1].Key = l[at].Key
		holdCheck(t, fmt.Sprint("a key that is the same, at ", at), l, api.ErrBad)
		l = filled(maxPairs)
		l[at], l[at+1] = l[at+1], l[at]
		holdCheck(t, fmt.Sprint("a key that falls, at ", at), l, api.ErrBad)
	}
	l := filled(3)
	slices.Reverse(l)
	holdCheck(t, "keys that fall", l, api.ErrBad)
}

func TestCheckOfWrongKeys(t *testing.T) { // P6.1
	for _, v := range rightValues() {
		holdCheck(t, "an empty key", []api.Pair{pair("", v)}, api.ErrBad)
		holdCheck(t, "an empty key ahead", append([]api.Pair{pair("", v)}, filled(2)...), api.ErrBad)
		holdCheck(t, "a key of 8 bytes", []api.Pair{pair(longest, v)}, api.OK)
		holdCheck(t, "a key of 9 bytes", []api.Pair{pair(longer, v)}, api.ErrBad)
		holdCheck(t, "a key of 8 bytes behind", append(filled(2), pair("kkkkkkkk", v)), api.OK)
		holdCheck(t, "a key of 9 bytes behind", append(filled(2), pair(longer, v)), api.ErrBad)
		holdCheck(t, "a key of 5 runes and 9 bytes", []api.Pair{pair("ééééa", v)}, api.ErrBad)
	}
}

func TestCheckOfValues(t *testing.T) { // P6.1
	for at := range maxPairs {
		for _, v := range rightValues() {
			l := filled(maxPairs)
			l[at].Val = v
			holdCheck(t, told(v), l, api.OK)
		}
		for _, v := range append(wrongValues(), none()) {
			l := filled(maxPairs)
			l[at].Val = v
			holdCheck(t, told(v), l, api.ErrBad)
			holdCheck(t, told(v), l[:at+1], api.ErrBad)
			holdCheck(t, "the pairs ahead", l[:at], api.OK)
			holdCheck(t, "the pairs behind", l[at+1:], api.OK)
		}
	}
}

func holdRight(t *testing.T, c api.Cmd, want api.Errno) {
	t.Helper()
	if e := kv.Right(c); e != want {
		t.Errorf("Right of %s: error %d, not %d", toldCmd(c), e, want)
	}
}

// rightCmds have each kind, and each value that it may name.
func rightCmds(key string) []api.Cmd {
	l := []api.Cmd{get(key), del(key), cas(key, none(), none())}
	for _, v := range rightValues() {
		l = append(l, put(key, v), cas(key, none(), v), cas(key, v, none()))
		for _, old := range rightValues() {
			l = append(l, cas(key, old, v))
		}
		if v.Kind == api.Num {
			l = append(l, add(key, v), greater(key, v))
		}
	}
	return l
}

func TestRightOfRightCommands(t *testing.T) { // P6.1
	for _, key := range risingKeys() {
		for _, c := range rightCmds(key) {
			holdRight(t, c, api.OK)
		}
	}
}

func TestRightOfKinds(t *testing.T) { // P6.1
	for _, kind := range kindsThatAreNone() {
		for _, key := range []string{"a", "", longer} {
			for _, v := range append(wrongValues(), none(), number(1), text("a")) {
				holdRight(t, api.Cmd{Kind: kind, Key: key, Val: v}, api.ErrKind)
				holdRight(t, api.Cmd{Kind: kind, Key: key, Old: v}, api.ErrKind)
			}
		}
	}
}

func TestRightOfKeys(t *testing.T) { // P6.1
	for _, c := range rightCmds("") {
		holdRight(t, c, api.ErrType)
	}
	for _, key := range []string{longer, "ééééa", strings.Repeat("\x00", 9), strings.Repeat("k", 256), strings.Repeat("k", 1<<16+1)} {
		for _, c := range rightCmds(key) {
			holdRight(t, c, api.ErrLong)
			for _, v := range wrongValues() {
				c.Val = v
				holdRight(t, c, api.ErrLong)
			}
		}
	}
}

func TestRightOfWrongValues(t *testing.T) { // P6.1
	for _, right := range rightCmds("a") {
		for _, v := range wrongValues() {
			c := right
			c.Old = v
			holdRight(t, c, api.ErrType)
			c.Key = ""
			holdRight(t, c, api.ErrType)
			c = right
			c.Val = v
			holdRight(t, c, api.ErrType)
			c.Old = v
			holdRight(t, c, api.ErrType)
		}
	}
}

func TestRightOfValuesThatAreNotNamed(t *testing.T) { // P6.1
	for _, v := range rightValues() {
		for _, c := range []api.Cmd{get("a"), put("a", number(1)), put("a", text("a")), del("a"), add("a", number(1)), greater("a", number(1))} {
			c.Old = v
			holdRight(t, c, api.ErrType)
		}
		for _, c := range []api.Cmd{get("a"), del("a")} {
			c.Val = v
			holdRight(t, c, api.ErrType)
			c.Old = v
			holdRight(t, c, api.ErrType)
		}
	}
}

func TestRightOfValuesOfAnotherKind(t *testing.T) { // P6.1
	holdRight(t, put("a", none()), api.ErrType)
	for _, v := range append(rightValues(), none()) {
		if v.Kind != api.Num {
			holdRight(t, add("a", v), api.ErrType)
			holdRight(t, greater("a", v), api.ErrType)
		}
	}
}

func TestGet(t *testing.T) { // P6.1
	right := []api.Pair{pair("b", number(1)), pair("d", text("x")), pair("f", number(minus))}
	twice := []api.Pair{pair("z", number(1)), pair("a", text("first")), pair("m", number(2)), pair("a", text("second")), pair("", number(3)), pair("", number(4)), pair(longer, number(otherNaN))}
	for _, c := range []struct {
		what string
		l    []api.Pair
		key  string
		want api.Value
	}{
		{"no pairs", nil, "a", none()}, {"no pairs, an empty key", []api.Pair{}, "", none()},
		{"the first", right, "b", number(1)}, {"the one between", right, "d", text("x")}, {"the last", right, "f", number(minus)},
		{"ahead of all", right, "a", none()}, {"between", right, "c", none()}, {"behind all", right, "g", none()}, {"the empty one", right, "", none()},
		{"a beginning", []api.Pair{pair("ab", number(1))}, "a", none()}, {"a longer key", []api.Pair{pair("a", number(1))}, "a\x00", none()}, {"another case", []api.Pair{pair("a", number(1))}, "A", none()},
		{"one that is there twice", twice, "a", text("first")}, {"keys that fall", twice, "m", number(2)}, {"the first of keys that fall", twice, "z", number(1)}, {"the empty one, twice", twice, "", number(3)}, {"a key that is too long", twice, longer, number(otherNaN)},
		{"a None ahead of a value", []api.Pair{pair("a", none()), pair("a", number(1))}, "a", none()},
		{"behind the length", right[:2], "f", none()},
	} {
		if got := kv.Get(c.l, c.key); !alike(got, c.want) {
			t.Errorf("Get, %s: %s, not %s", c.what, told(got), told(c.want))
		}
	}
}

func TestGetOfAnyPairs(t *testing.T) { // P6.1
	for _, v := range append(wrongValues(), rightValues()...) {
		l := []api.Pair{pair("b", v), pair("a", number(1)), pair("b", number(2))}
		if got := kv.Get(l, "b"); !alike(got, v) {
			t.Errorf("Get: %s, not %s", told(got), told(v))
		}
	}
	long := filled(400)
	for _, p := range long {
		if got, other := kv.Get(long, p.Key), kv.Get(long, p.Key+"x"); !alike(got, p.Val) || !alike(other, none()) {
			t.Fatalf("Get of %q in 400 pairs: %s; of one that is not there: %s", p.Key, told(got), told(other))
		}
	}
}

func TestChanges(t *testing.T) { // P6.1
	for kind := api.OpPut; kind <= api.OpMax; kind++ {
		if !kv.Changes(api.Cmd{Kind: kind}) || !kv.Changes(api.Cmd{Kind: kind, Key: "a", Val: number(1)}) {
			t.Errorf("kind %d", kind)
		}
	}
	for _, kind := range kindsThatAreNone() {
		if !kv.Changes(api.Cmd{Kind: kind}) || !kv.Changes(api.Cmd{Kind: kind, Key: "a"}) {
			t.Errorf("kind %d, which is none", kind)
		}
	}
	for _, c := range []api.Cmd{get("a"), get(""), get(longer), {Kind: api.OpGet, Key: "a", Old: number(1), Val: wrongValues()[0]}} {
		if kv.Changes(c) {
			t.Errorf("%s", toldCmd(c))
		}
	}
}

// place is a key, the pairs ahead of it, and those behind.
type place struct {
	key           string
	ahead, behind []api.Pair
}

func places() []place {
	b, d, f := pair("b", number(minus)), pair("d", text("x")), pair("f", number(nan))
	l := []place{
		{"a", nil, nil}, {"\x00", nil, []api.Pair{b, d, f}}, {"b\x00", []api.Pair{b}, []api.Pair{d, f}}, {"e", []api.Pair{b, d}, []api.Pair{f}}, {"ff", []api.Pair{b, d, f}, nil},
		{longest, []api.Pair{b, d, f}, []api.Pair{pair("\xff", text(""))}},
	}
	full := filled(maxPairs - 1)
	for at := range maxPairs {
		l = append(l, place{fmt.Sprintf("k%03d", 2*at), full[:at], full[at:]})
	}
	return l
}

// with are the place's pairs, where its key has v.
func (p place) with(v api.Value) []api.Pair {
	if v.Kind == api.None {
		return slices.Concat(p.ahead, p.behind)
	}
	return slices.Concat(p.ahead, []api.Pair{pair(p.key, v)}, p.behind)
}

func TestDoOfEachKindAtEachPlace(t *testing.T) { // P6.2
	values := append(rightValues(), none())
	for _, p := range places() {
		for _, was := range values {
			l := p.with(was)
			does(t, l, get(p.key), l, api.Reply{Val: was})
			does(t, l, del(p.key), p.with(none()), api.Reply{Val: was})
			for _, v := range values {
				does(t, l, cas(p.key, was, v), p.with(v), api.Reply{Val: was})
				if v.Kind != api.None {
					does(t, l, put(p.key, v), p.with(v), api.Reply{Val: was})
				}
			}
		}
	}
}

func TestAddAndMaxAtEachPlace(t *testing.T) { // P6.2
	for _, p := range places() {
		for _, v := range rightValues() {
			if v.Kind != api.Num {
				continue
			}
			does(t, p.with(none()), add(p.key, v), p.with(v), api.Reply{Val: v})
			does(t, p.with(none()), greater(p.key, v), p.with(v), api.Reply{Val: v})
			for _, was := range rightValues() {
				if was.Kind == api.Text {
					fails(t, p.with(was), add(p.key, v), api.ErrType)
					fails(t, p.with(was), greater(p.key, v), api.ErrType)
				}
			}
		}
		does(t, p.with(number(1.5)), add(p.key, number(-4)), p.with(number(-2.5)), api.Reply{Val: number(-2.5)})
		does(t, p.with(number(1.5)), greater(p.key, number(-4)), p.with(number(1.5)), api.Reply{Val: number(1.5)})
		does(t, p.with(number(-4)), greater(p.key, number(1.5)), p.with(number(1.5)), api.Reply{Val: number(1.5)})
	}
}

func TestCasOfSomethingElse(t *testing.T) { // P6.2
	values := append(rightValues(), none())
	for _, p := range places() {
		for _, was := range values {
			for _, old := range values {
				if !alike(was, old) {
					l := p.with(was)
					does(t, l, cas(p.key, old, number(7)), l, api.Reply{Code: api.ErrOther, Val: was})
					does(t, l, cas(p.key, old, was), l, api.Reply{Code: api.ErrOther, Val: was})
					does(t, l, cas(p.key, old, none()), l, api.Reply{Code: api.ErrOther, Val: was})
				}
			}
		}
	}
}

func TestCasOfNoughtsAndNaNs(t *testing.T) { // P6.2
	has := func(x float64) []api.Pair { return []api.Pair{pair("a", number(x))} }
	does(t, has(0), cas("a", number(minus), number(1)), has(0), api.Reply{Code: api.ErrOther, Val: number(0)})
	does(t, has(minus), cas("a", number(0), number(1)), has(minus), api.Reply{Code: api.ErrOther, Val: number(minus)})
	does(t, has(minus), cas("a", number(minus), number(0)), has(0), api.Reply{Val: number(minus)})
	does(t, has(nan), cas("a", number(nan), number(1)), has(1), api.Reply{Val: number(nan)})
	fails(t, has(nan), cas("a", number(otherNaN), number(1)), api.ErrType)
	fails(t, has(nan), cas("a", number(nan), number(otherNaN)), api.ErrType)
	fails(t, has(otherNaN), cas("a", number(nan), number(1)), api.ErrBad)
}

func TestAddAndMaxAtTheEdges(t *testing.T) { // P6.2
	for _, c := range []struct{ was, by, sum, greater float64 }{
		{1, 2, 3, 2}, {2, 1, 3, 2}, {-1, -2, -3, -1}, {0.1, 0.2, 0.30000000000000004, 0.2}, {1 << 53, 1, 1 << 53, 1 << 53}, {1, 0x1p-53, 1, 1},
		{0, 0, 0, 0}, {minus, minus, minus, minus}, {0, minus, 0, 0}, {minus, 0, 0, 0}, {3, -3, 0, 3}, {-tiniest, minus, -tiniest, minus}, {tiniest, -tiniest, 0, tiniest},
		{most, most, inf, most}, {-most, -most, -inf, -most}, {inf, inf, inf, inf}, {-inf, -inf, -inf, -inf}, {inf, -inf, nan, inf}, {-inf, inf, nan, inf}, {inf, 1, inf, inf}, {1, -inf, -inf, 1},
		{nan, nan, nan, nan}, {nan, 1, nan, nan}, {1, nan, nan, nan}, {nan, inf, nan, nan}, {inf, nan, nan, nan}, {nan, minus, nan, nan},
	} {
		l := []api.Pair{pair("a", number(c.was)), pair("b", text("x"))}
		does(t, l, add("a", number(c.by)), []api.Pair{pair("a", number(c.sum)), l[1]}, api.Reply{Val: number(c.sum)})
		does(t, l, greater("a", number(c.by)), []api.Pair{pair("a", number(c.greater)), l[1]}, api.Reply{Val: number(c.greater)})
	}
}

// wrongCmds are held by what Right tells of them: each of its errors.
func wrongCmds() []api.Cmd {
	l := []api.Cmd{get(""), get(longer), put("k001", none()), add("k001", text("1")), add("k001", none()), greater("k001", none()), greater("k001", number(otherNaN)), {Kind: api.OpGet, Key: longer, Val: number(1)}}
	for _, kind := range kindsThatAreNone() {
		l = append(l, api.Cmd{Kind: kind}, api.Cmd{Kind: kind, Key: "k001"}, api.Cmd{Kind: kind, Key: longer, Val: number(1)})
	}
	for _, v := range wrongValues() {
		l = append(l, put("k001", v), cas("k001", v, number(1)), cas("k001", number(0), v), add("k001", v), greater("k001", v), api.Cmd{Kind: api.OpDel, Key: "k001", Old: v}, api.Cmd{Kind: api.OpGet, Key: "k001", Val: v})
	}
	return l
}

func TestDoOfWrongCommands(t *testing.T) { // P6.2
	for _, c := range wrongCmds() {
		e := kv.Right(c)
		if e == api.OK {
			t.Errorf("%s is right", toldCmd(c))
		}
		for _, l := range [][]api.Pair{nil, {}, filled(1), filled(maxPairs), {pair("k001", text("x"))}} {
			fails(t, l, c, e)
		}
		for _, l := range wrongPairs() {
			fails(t, l, c, e)
		}
	}
}

// wrongPairs have k001 in them, or not; and pairs that would be right but for one thing.
func wrongPairs() [][]api.Pair {
	falls, same := filled(3), filled(3)
	falls[1], falls[2] = falls[2], falls[1]
	same[2].Key = same[1].Key
	l := [][]api.Pair{falls, same, filled(33), filled(40), filled(256), {pair("", number(1))}, append([]api.Pair{pair("", number(1))}, filled(2)...), {pair(longer, number(1))}, append(filled(1), pair(longer, number(1))), {pair("a", none())}, {pair("k001", none())}}
	for _, v := range wrongValues() {
		last := filled(3)
		last[2].Val = v
		l = append(l, []api.Pair{pair("k001", v)}, last)
	}
	return l
}

func TestDoOfWrongPairs(t *testing.T) { // P6.2
	for _, l := range wrongPairs() {
		for _, key := range []string{"a", "k001", "k003", "k006", "z", longest} {
			for _, c := range rightCmds(key) {
				fails(t, l, c, api.ErrBad)
			}
		}
	}
	for _, c := range []api.Cmd{get("k001"), put("k001", number(1)), del("k001"), cas("k001", number(0), none())} {
		fails(t, filled(maxPairs+1), c, api.ErrBad)
		fails(t, filled(1<<16), c, api.ErrBad)
	}
}

func TestDoOfAFullStore(t *testing.T) { // P6.2
	full := filled(maxPairs)
	for at := range maxPairs + 1 {
		key := fmt.Sprintf("k%03d", 2*at)
		for _, c := range []api.Cmd{put(key, number(1)), put(key, text("")), cas(key, none(), number(1)), add(key, number(1)), greater(key, number(1))} {
			fails(t, full, c, api.ErrFull)
		}
		for _, c := range []api.Cmd{get(key), del(key), cas(key, none(), none())} {
			does(t, full, c, full, api.Reply{})
		}
		does(t, full, cas(key, number(1), number(2)), full, api.Reply{Code: api.ErrOther})
		does(t, full, cas(key, number(1), none()), full, api.Reply{Code: api.ErrOther})
	}
}

func TestDoOfAKeyInAFullStore(t *testing.T) { // P6.2
	full := filled(maxPairs)
	for at, was := range full {
		has := func(v api.Value) []api.Pair {
			l := slices.Clone(full)
			l[at].Val = v
			return l
		}
		does(t, full, put(was.Key, text("x")), has(text("x")), api.Reply{Val: was.Val})
		does(t, full, cas(was.Key, was.Val, text("x")), has(text("x")), api.Reply{Val: was.Val})
		does(t, full, add(was.Key, number(0.5)), has(number(float64(at)+0.5)), api.Reply{Val: number(float64(at) + 0.5)})
		does(t, full, greater(was.Key, number(99)), has(number(99)), api.Reply{Val: number(99)})
		does(t, full, cas(was.Key, none(), number(1)), full, api.Reply{Code: api.ErrOther, Val: was.Val})
		fails(t, has(text("x")), add(was.Key, number(1)), api.ErrType)
	}
}

func TestDoWhereRoomWasMade(t *testing.T) { // P6.2
	full := filled(maxPairs)
	fails(t, full, put("k000", number(1)), api.ErrFull)
	for _, was := range full {
		for _, c := range []api.Cmd{del(was.Key), cas(was.Key, was.Val, none())} {
			room, reply := kv.Do(full, c)
			if len(room) != maxPairs-1 || !alikeReplies(reply, api.Reply{Val: was.Val}) {
				t.Fatalf("%s: %s, error %d", toldCmd(c), toldPairs(room), reply.Code)
			}
			does(t, room, put(was.Key, was.Val), full, api.Reply{})
			does(t, room, add("k000", number(1)), append([]api.Pair{pair("k000", number(1))}, room...), api.Reply{Val: number(1)})
			does(t, room, cas("z", none(), text("z")), append(slices.Clone(room), pair("z", text("z"))), api.Reply{})
		}
	}
}

func TestTheOrderOfErrors(t *testing.T) { // P6.2
	wrong, full := []api.Pair{pair("a", text("x")), pair("a", text("x"))}, filled(maxPairs)
	fails(t, wrong, api.Cmd{Kind: 7, Key: longer, Val: text(longer)}, api.ErrKind)
	fails(t, wrong, put(longer, none()), api.ErrLong)
	fails(t, wrong, put("a", none()), api.ErrType)
	fails(t, wrong, put("a", text(strings.Repeat("x", api.MaxText+1))), api.ErrType)
	fails(t, wrong, put("a", api.Value{Kind: 3}), api.ErrType)
	fails(t, wrong, add("a", number(1)), api.ErrBad)
	fails(t, wrong, cas("a", number(1), number(2)), api.ErrBad)
	fails(t, filled(33), put("z", number(1)), api.ErrBad)
	fails(t, full, put("z", none()), api.ErrType)
	does(t, full, cas("z", number(1), number(2)), full, api.Reply{Code: api.ErrOther})
}

// sentinel stands in spare room, which nobody may touch.
var sentinel = pair("spare", text("spare"))

// withRoom answers l in memory that has room at both ends, and all of that memory.
func withRoom(l []api.Pair) (room, all []api.Pair) {
	all = slices.Concat([]api.Pair{sentinel}, l, slices.Repeat([]api.Pair{sentinel}, 40))
	return all[1 : 1+len(l)], all
}

func scribble(l []api.Pair) {
	l = l[:cap(l)]
	for i := range l {
		l[i] = pair("wrong", number(666))
	}
}

// cmdsOfAllEnds end in each way: done, with and without a change, and with each error.
func cmdsOfAllEnds() []api.Cmd {
	l := append(wrongCmds(), get("k001"), get("a"), del("k001"), del("a"), del("k005"), put("k001", text("x")), put("a", number(1)), put("k004", number(1)), put("z", number(1)))
	for _, v := range []api.Value{none(), number(0), number(1), text("x")} {
		l = append(l, cas("k001", v, text("y")), cas("k001", v, none()), cas("a", v, number(1)), cas("a", v, none()))
	}
	return append(l, add("k001", number(1)), add("a", number(1)), greater("k001", number(1)), greater("k001", number(-1)), greater("z", number(1)))
}

func TestWhatIsHandedInStays(t *testing.T) { // P6.2, R2
	lists := append(wrongPairs(), nil, filled(1), filled(3), filled(31), filled(maxPairs), []api.Pair{pair("k001", text("x"))})
	for _, l := range lists {
		for _, c := range cmdsOfAllEnds() {
			room, all := withRoom(l)
			before := slices.Clone(all)
			first, reply := kv.Do(room, c)
			second, again := kv.Do(room, c)
			want := slices.Clone(first)
			if !alikePairs(second, first) || !alikeReplies(again, reply) {
				t.Fatalf("%s, of %s: not the same the second time", toldCmd(c), toldPairs(l))
			}
			if slices.Contains(first[:cap(first)], sentinel) {
				t.Fatalf("%s, of %s: what lies behind the length is handed out", toldCmd(c), toldPairs(l))
			}
			scribble(second)
			if !alikePairs(all, before) || !alikePairs(first, want) {
				t.Fatalf("%s, of %s: an answer shares memory with what was handed in, or with another answer", toldCmd(c), toldPairs(l))
			}
			scribble(all)
			if !alikePairs(first, want) {
				t.Fatalf("%s, of %s: an answer hangs on what is done later with what was handed in", toldCmd(c), toldPairs(l))
			}
		}
	}
}

func TestCheckAndGetTouchNothing(t *testing.T) { // P6.1, R2
	for _, l := range wrongPairs() {
		room, all := withRoom(l)
		before := slices.Clone(all)
		kv.Check(room)
		kv.Get(room, "k001")
		kv.Get(room, "spare")
		if !alikePairs(all, before) {
			t.Errorf("%s were changed", toldPairs(l))
		}
	}
}

func TestWhatLiesBehindTheLengthIsNotRead(t *testing.T) { // P6.2, R6
	all := filled(5)
	does(t, all[:2], get(all[2].Key), all[:2], api.Reply{})
	does(t, all[:2], add(all[3].Key, number(9)), []api.Pair{all[0], all[1], pair(all[3].Key, number(9))}, api.Reply{Val: number(9)})
	does(t, all[:2], del(all[0].Key), all[1:2], api.Reply{Val: number(0)})
}
