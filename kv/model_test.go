package kv_test

import (
	"maps"
	"math"
	"slices"
	"testing"

	"skerry/api"
	"skerry/kv"
)

// The chapter told plainly, by maps and bits, without package value: what Do is held against.

func isRight(v api.Value) bool {
	bits := math.Float64bits(v.Num)
	switch v.Kind {
	case api.None:
		return bits == 0 && v.Text == ""
	case api.Num:
		return v.Text == "" && (!math.IsNaN(v.Num) || bits == theNaN)
	case api.Text:
		return bits == 0 && len(v.Text) <= 32
	}
	return false
}

func areRight(l []api.Pair) bool {
	keys := map[string]int{}
	for _, p := range l {
		keys[p.Key]++
		if len(p.Key) < 1 || len(p.Key) > 8 || p.Val.Kind == api.None || !isRight(p.Val) {
			return false
		}
	}
	return len(l) <= 32 && len(keys) == len(l) && slices.IsSortedFunc(l, func(p, q api.Pair) int { return slices.Compare([]byte(p.Key), []byte(q.Key)) })
}

// mayName says of each kind, as package api lists it, which kinds of values Old and Val may have.
func mayName(kind int) (old, val []int) {
	switch kind {
	case api.OpPut:
		return []int{api.None}, []int{api.Num, api.Text}
	case api.OpCas:
		return []int{api.None, api.Num, api.Text}, []int{api.None, api.Num, api.Text}
	case api.OpAdd, api.OpMax:
		return []int{api.None}, []int{api.Num}
	}
	return []int{api.None}, []int{api.None}
}

func modelRight(c api.Cmd) api.Errno {
	if !slices.Contains([]int{api.OpGet, api.OpPut, api.OpDel, api.OpCas, api.OpAdd, api.OpMax}, c.Kind) {
		return api.ErrKind
	}
	if len(c.Key) > 8 {
		return api.ErrLong
	}
	old, val := mayName(c.Kind)
	if len(c.Key) == 0 || !isRight(c.Old) || !isRight(c.Val) || !slices.Contains(old, c.Old.Kind) || !slices.Contains(val, c.Val.Kind) {
		return api.ErrType
	}
	return api.OK
}

func modelSum(x, y float64) float64 {
	if sum := x + y; !math.IsNaN(sum) {
		return sum
	}
	return nan
}

func modelGreater(x, y float64) float64 {
	if math.IsNaN(x) || math.IsNaN(y) {
		return nan
	}
	return math.Max(x, y)
}

// modelDo has errors end it where the chapter names them.
func modelDo(l []api.Pair, c api.Cmd) ([]api.Pair, api.Reply) {
	if e := modelRight(c); e != api.OK {
		return l, api.Reply{Code: e}
	}
	if !areRight(l) {
		return l, api.Reply{Code: api.ErrBad}
	}
	has := map[string]api.Value{}
	for _, p := range l {
		has[p.Key] = p.Val
	}
	was := has[c.Key]
	reply := api.Reply{Val: was}
	switch c.Kind {
	case api.OpPut:
		has[c.Key] = c.Val
	case api.OpDel:
		delete(has, c.Key)
	case api.OpCas:
		if !alike(was, c.Old) {
			return l, api.Reply{Code: api.ErrOther, Val: was}
		}
		has[c.Key] = c.Val
		if c.Val.Kind == api.None {
			delete(has, c.Key)
		}
	case api.OpAdd, api.OpMax:
		switch {
		case was.Kind == api.Text:
			return l, api.Reply{Code: api.ErrType}
		case was.Kind == api.None:
			has[c.Key] = c.Val
		case c.Kind == api.OpAdd:
			has[c.Key] = number(modelSum(was.Num, c.Val.Num))
		default:
			has[c.Key] = number(modelGreater(was.Num, c.Val.Num))
		}
		reply.Val = has[c.Key]
	}
	if len(has) > 32 {
		return l, api.Reply{Code: api.ErrFull}
	}
	var next []api.Pair
	for _, key := range slices.Sorted(maps.Keys(has)) {
		next = append(next, pair(key, has[key]))
	}
	return next, reply
}

// TestDoOfAllCommands meets each kind, key and two values, right or not, with right and wrong pairs.
func TestDoOfAllCommands(t *testing.T) { // P6.1, P6.2
	lists := [][]api.Pair{
		nil, {pair("a", number(1))}, {pair("a", text("x")), pair("b", number(minus))}, {pair("A", number(nan)), pair("a", number(0)), pair(longest, text(""))}, filled(31), filled(maxPairs),
		filled(33), {pair("b", number(1)), pair("a", number(1))}, {pair("a", number(1)), pair("a", number(1))}, {pair("a", none())}, {pair("a", number(otherNaN))}, {pair("", number(1))}, {pair("a", number(1)), pair(longer, number(1))},
	}
	values := append(rightValues(), none())
	values = append(values, wrongValues()...)
	for _, kind := range append(kindsThatAreNone(), api.OpGet, api.OpPut, api.OpDel, api.OpCas, api.OpAdd, api.OpMax) {
		for _, key := range []string{"", "a", "k000", "k001", longest, longer} {
			for _, old := range values {
				for _, v := range values {
					c := api.Cmd{Kind: kind, Key: key, Old: old, Val: v}
					if e := modelRight(c); kv.Right(c) != e {
						t.Fatalf("Right of %s: error %d, not %d", toldCmd(c), kv.Right(c), e)
					}
					for _, l := range lists {
						next, reply := kv.Do(l, c)
						want, wantReply := modelDo(l, c)
						if !alikePairs(next, want) || !alikeReplies(reply, wantReply) {
							t.Fatalf("%s, of %s: reply %d %s, %s", toldCmd(c), toldPairs(l), reply.Code, told(reply.Val), toldPairs(next))
						}
					}
				}
			}
		}
	}
}

// strewn answers numbers by a fixed rule.
type strewn uint64

func (s *strewn) below(n int) int {
	*s ^= *s << 13
	*s ^= *s >> 7
	*s ^= *s << 17
	return int(uint64(*s) >> 11 % uint64(n))
}

func pick[T any](s *strewn, l []T) T { return l[s.below(len(l))] }

// strewnCmd is mostly right, and often asks of OpCas just what is there.
func strewnCmd(s *strewn, l []api.Pair, keys []string) api.Cmd {
	values := append(rightValues(), none(), number(1), number(2))
	c := api.Cmd{Kind: api.OpGet + s.below(api.OpMax), Key: pick(s, keys)}
	switch c.Kind {
	case api.OpPut:
		c.Val = pick(s, rightValues())
	case api.OpCas:
		c.Old, c.Val = pick(s, values), pick(s, values)
		if s.below(4) > 0 {
			c.Old = kv.Get(l, c.Key)
		}
	case api.OpAdd, api.OpMax:
		c.Val = number(pick(s, []float64{-inf, -2.5, minus, 0, tiniest, 1, most, inf, nan}))
	}
	switch s.below(40) {
	case 0:
		c.Val = pick(s, wrongValues())
	case 1:
		c.Old = pick(s, wrongValues())
	case 2:
		c.Key = pick(s, []string{"", longer})
	case 3:
		c.Kind = pick(s, kindsThatAreNone())
	}
	return c
}

// TestRowsOfCommands lets few keys meet often, and many keys fill the store.
func TestRowsOfCommands(t *testing.T) { // P6.2, P6.3
	var many []string
	for _, p := range filled(40) {
		many = append(many, p.Key)
	}
	for _, keys := range [][]string{{"a"}, {"b", "a", "ab"}, risingKeys(), append(many, risingKeys()...), many[:33]} {
		s := strewn(0x2545f4914f6cdd1d)
		var l []api.Pair
		codes, greatest := map[api.Errno]int{}, 0
		for range 20000 {
			c := strewnCmd(&s, l, keys)
			// More is put than is taken, so that the store fills.
			if len(keys) > maxPairs && (c.Kind == api.OpDel || c.Val.Kind == api.None) && s.below(8) > 0 {
				c = get(c.Key)
			}
			next, reply := kv.Do(l, c)
			want, wantReply := modelDo(l, c)
			if !alikePairs(next, want) || !alikeReplies(reply, wantReply) {
				t.Fatalf("%s, of %s: reply %d %s, %s", toldCmd(c), toldPairs(l), reply.Code, told(reply.Val), toldPairs(next))
			}
			holdWhatFollows(t, l, next, c, reply)
			codes[reply.Code]++
			l, greatest = next, max(greatest, len(next))
		}
		if codes[api.OK] == 0 || codes[api.ErrOther] == 0 || codes[api.ErrType] == 0 || codes[api.ErrKind] == 0 || codes[api.ErrLong] == 0 || codes[api.ErrBad] > 0 {
			t.Errorf("%d keys: the replies are %v", len(keys), codes)
		}
		if len(keys) > maxPairs && (codes[api.ErrFull] == 0 || greatest != maxPairs) {
			t.Errorf("%d keys: %d pairs at most, the replies are %v", len(keys), greatest, codes)
		}
	}
}

// holdWhatFollows holds P6.3's sentences by themselves.
func holdWhatFollows(t *testing.T, l, next []api.Pair, c api.Cmd, reply api.Reply) {
	t.Helper()
	what := toldCmd(c) + ", of " + toldPairs(l)
	if kv.Check(next) != api.OK {
		t.Fatalf("%s: %s are not right", what, toldPairs(next))
	}
	if (reply.Code != api.OK || !kv.Changes(c)) && !alikePairs(next, l) {
		t.Fatalf("%s, error %d: %s are others", what, reply.Code, toldPairs(next))
	}
	isOwn := func(p api.Pair) bool { return p.Key == c.Key }
	if !alikePairs(slices.DeleteFunc(slices.Clone(next), isOwn), slices.DeleteFunc(slices.Clone(l), isOwn)) {
		t.Fatalf("%s: another key was touched: %s", what, toldPairs(next))
	}
}

func TestGetsLeaveAll(t *testing.T) { // P6.3
	for n := range maxPairs + 1 {
		l := filled(n)
		for i, p := range filled(maxPairs) {
			want := p.Val
			if i >= n {
				want = none()
			}
			does(t, l, get(p.Key), l, api.Reply{Val: want})
			does(t, l, get(p.Key+"x"), l, api.Reply{})
		}
	}
}
