package sess_test

import (
	"bytes"
	"encoding/binary"
	"math"
	"slices"
	"testing"

	"skerry/api"
	"skerry/kv"
	"skerry/sess"
)

// The chapter told plainly, without package pack: what sess is held against. (Commands are kv's: its own tests hold them.)

func isRight(v api.Value) bool {
	bits := math.Float64bits(v.Num)
	switch v.Kind {
	case api.None:
		return bits == 0 && v.Text == ""
	case api.Num:
		return v.Text == "" && (!math.IsNaN(v.Num) || bits == theNaN)
	case api.Text:
		return bits == 0 && len(v.Text) <= 32
	}
	return false
}

func modelCheck(m api.Machine) api.Errno {
	ahead := 0
	for _, s := range m.Sess {
		if s.Client <= ahead || s.Client > 4 || s.Seq <= 0 || s.Seq > 1099511627776 || s.Reply.Code < 0 || s.Reply.Code > 16 || !isRight(s.Reply.Val) {
			return api.ErrBad
		}
		ahead = s.Client
	}
	return kv.Check(m.Pairs)
}

func modelRight(c api.Call) api.Errno {
	if !slices.Contains([]int{1, 2, 3, 4}, c.Client) || c.Seq <= 0 || c.Seq > 1099511627776 {
		return api.ErrArg
	}
	return kv.Right(c.Cmd)
}

// modelDo has each case end it where the chapter names it.
func modelDo(m api.Machine, c api.Call) (api.Machine, api.Reply) {
	if e := modelRight(c); e != api.OK {
		return api.Machine{}, api.Reply{Code: e}
	}
	if modelCheck(m) != api.OK {
		return api.Machine{}, api.Reply{Code: api.ErrBad}
	}
	all := map[int]api.Sess{}
	for _, s := range m.Sess {
		all[s.Client] = s
	}
	if was := all[c.Client]; c.Seq == was.Seq {
		return m, was.Reply
	} else if c.Seq < was.Seq {
		return m, api.Reply{Code: api.ErrStale}
	}
	pairs, reply := kv.Do(m.Pairs, c.Cmd)
	all[c.Client] = api.Sess{Client: c.Client, Seq: c.Seq, Reply: reply}
	next := api.Machine{Pairs: pairs}
	for client := 1; client <= 4; client++ {
		if s, is := all[client]; is {
			next.Sess = append(next.Sess, s)
		}
	}
	return next, reply
}

// spelling is a machine's bytes, and where in them whole numbers and floats stand.
type spelling struct {
	b       []byte
	numbers [][2]int
	floats  []int
}

func (s *spelling) number(n int) {
	from := len(s.b)
	s.b = binary.AppendVarint(s.b, int64(n))
	s.numbers = append(s.numbers, [2]int{from, len(s.b)})
}

func (s *spelling) text(x string) {
	s.number(len(x))
	s.b = append(s.b, x...)
}

func (s *spelling) value(v api.Value) {
	s.number(v.Kind)
	switch v.Kind {
	case api.Num:
		s.floats = append(s.floats, len(s.b))
		s.b = binary.BigEndian.AppendUint64(s.b, math.Float64bits(v.Num))
	case api.Text:
		s.text(v.Text)
	}
}

// spell spells any machine, right or not.
func spell(m api.Machine) *spelling {
	s := &spelling{}
	s.number(len(m.Pairs))
	for _, p := range m.Pairs {
		s.text(p.Key)
		s.value(p.Val)
	}
	s.number(len(m.Sess))
	for _, x := range m.Sess {
		s.number(x.Client)
		s.number(x.Seq)
		s.number(int(x.Reply.Code))
		s.value(x.Reply.Val)
	}
	return s
}

// source is read from the beginning on; it panics where it can't be.
type source struct{ b []byte }

func (s *source) take(n int) []byte {
	b := s.b[:n:n]
	s.b = s.b[n:]
	return b
}

func (s *source) number() int {
	n, size := binary.Varint(s.b)
	if size <= 0 || len(binary.AppendVarint(nil, n)) != size {
		panic("no number")
	}
	s.take(size)
	return int(n)
}

func (s *source) count(most int) int {
	n := s.number()
	if n < 0 || n > most {
		panic("no count")
	}
	return n
}

func (s *source) value() api.Value {
	v := api.Value{Kind: s.number()}
	switch v.Kind {
	case api.Num:
		v.Num = math.Float64frombits(binary.BigEndian.Uint64(s.take(8)))
	case api.Text:
		v.Text = string(s.take(s.count(32)))
	}
	return v
}

func modelDecode(b []byte) (m api.Machine, e api.Errno) {
	defer func() {
		if recover() != nil {
			m, e = api.Machine{}, api.ErrBad
		}
	}()
	s := &source{b}
	for range s.count(32) {
		key := string(s.take(s.count(8)))
		m.Pairs = append(m.Pairs, pair(key, s.value()))
	}
	for range s.count(4) {
		x := api.Sess{Client: s.number(), Seq: s.number()}
		x.Reply.Code = api.Errno(s.number())
		x.Reply.Val = s.value()
		m.Sess = append(m.Sess, x)
	}
	if len(s.b) > 0 || modelCheck(m) != api.OK {
		panic("no machine")
	}
	return m, api.OK
}

// holdDecode holds Decode against the model, and that what it takes has just those bytes.
func holdDecode(t *testing.T, b []byte) api.Errno {
	t.Helper()
	before := bytes.Clone(b)
	m, e := sess.Decode(b)
	want, wantE := modelDecode(b)
	if e != wantE || !alikeMachines(m, want) {
		t.Fatalf("Decode of % x: error %d, %s\nnot %d, %s", b, e, toldMachine(m), wantE, toldMachine(want))
	}
	if !bytes.Equal(b, before) {
		t.Fatalf("Decode changed % x", before)
	}
	if e == api.OK {
		if again, e := sess.Encode(m); e != api.OK || !bytes.Equal(again, b) {
			t.Fatalf("Encode of what Decode took: error %d, % x, not % x", e, again, b)
		}
	}
	return e
}

// strewn answers numbers by a fixed rule.
type strewn uint64

func (s *strewn) below(n int) int {
	*s ^= *s << 13
	*s ^= *s >> 7
	*s ^= *s << 17
	return int(uint64(*s) >> 11 % uint64(n))
}

func pick[T any](s *strewn, l []T) T { return l[s.below(len(l))] }

func strewnCmd(s *strewn, l []api.Pair, keys []string) api.Cmd {
	key, v := pick(s, keys), pick(s, rightValues()[1:])
	switch s.below(8) {
	case 0:
		return get(key)
	case 1, 2:
		return put(key, v)
	case 3:
		return api.Cmd{Kind: api.OpDel, Key: key}
	case 4:
		return cas(key, kv.Get(l, key), pick(s, rightValues()))
	case 5:
		return cas(key, v, pick(s, rightValues()))
	case 6:
		return api.Cmd{Kind: api.OpMax, Key: key, Val: number(float64(s.below(9)))}
	}
	return add(key, number(float64(s.below(9)-4)))
}

// strewnCall is mostly the client's next one, or its last one again, often with another command.
func strewnCall(s *strewn, m api.Machine, keys []string) api.Call {
	c := api.Call{Client: 1 + s.below(api.MaxClients), Cmd: strewnCmd(s, m.Pairs, keys)}
	last, _ := sess.Last(m, c.Client)
	switch s.below(8) {
	case 0, 1:
		c.Seq = last
	case 2:
		c.Seq = s.below(last + 1)
	case 3:
		c.Seq = last + 1 + s.below(5)
	default:
		c.Seq = last + 1
	}
	switch s.below(60) {
	case 0:
		c.Client = pick(s, []int{0, -1, api.MaxClients + 1})
	case 1:
		c.Seq = pick(s, []int{0, -1, maxSeq + 1})
	case 2:
		c.Cmd = pick(s, []api.Cmd{{}, get(""), get(longer), put("a", none())})
	}
	return c
}

// TestRowsOfCalls lets calls come again and again, and holds each against the model.
func TestRowsOfCalls(t *testing.T) { // P7.2, P7.3, P7.4
	many := filled(40)
	var manyKeys []string
	for _, p := range many {
		manyKeys = append(manyKeys, p.Key)
	}
	for _, keys := range [][]string{{"a"}, {"b", "a", "ab"}, manyKeys} {
		s := strewn(0x2545f4914f6cdd1d)
		var m api.Machine
		codes := map[api.Errno]int{}
		for range 12000 {
			c := strewnCall(&s, m, keys)
			next, reply := sess.Do(m, c)
			want, wantReply := modelDo(m, c)
			if !alikeMachines(next, want) || !alikeReplies(reply, wantReply) {
				t.Fatalf("%s, of %s:\n%s, %s\nnot %s, %s", toldCall(c), toldMachine(m), toldReply(reply), toldMachine(next), toldReply(wantReply), toldMachine(want))
			}
			codes[reply.Code]++
			if sess.Right(c) != api.OK {
				continue
			}
			holdWhatFollows(t, next, c, reply)
			m = next
		}
		for _, e := range []api.Errno{api.OK, api.ErrArg, api.ErrLong, api.ErrType, api.ErrOther, api.ErrStale, api.ErrKind} {
			if codes[e] == 0 {
				t.Errorf("%d keys: the replies are %v", len(keys), codes)
			}
		}
		if len(keys) > 32 && codes[api.ErrFull] == 0 || codes[api.ErrBad] > 0 {
			t.Errorf("%d keys: the replies are %v", len(keys), codes)
		}
	}
}

// holdWhatFollows holds P7.4's sentences by themselves, where c has just made m.
func holdWhatFollows(t *testing.T, m api.Machine, c api.Call, reply api.Reply) {
	t.Helper()
	b, e := sess.Encode(m)
	if sess.Check(m) != api.OK || e != api.OK || holdDecode(t, b) != api.OK {
		t.Fatalf("%s made %s: error %d", toldCall(c), toldMachine(m), e)
	}
	next, again := sess.Do(m, c)
	if !alikeMachines(next, m) || !alikeReplies(again, reply) {
		t.Fatalf("%s, again: %s, not %s; %s, not %s", toldCall(c), toldReply(again), toldReply(reply), toldMachine(next), toldMachine(m))
	}
}

// TestUnlikeMachines meets all that a few small ones can be.
func TestUnlikeMachines(t *testing.T) { // P7.4
	var lists [][]api.Pair
	for _, v := range rightValues()[1:] {
		for _, key := range []string{"a", "b", "\x00", "\x02", "aa"} {
			lists = append(lists, []api.Pair{pair(key, v)}, []api.Pair{pair(key, v), pair("c", v)}, []api.Pair{pair(key, v), pair("c", number(77))})
		}
	}
	lists = append(lists, nil)
	var rows [][]api.Sess
	for _, v := range rightValues() {
		for _, own := range []api.Sess{{Client: 1, Seq: 1}, {Client: 1, Seq: 2}, {Client: 2, Seq: 1}, {Client: 1, Seq: 1, Reply: api.Reply{Code: 1}}} {
			own.Reply.Val = v
			rows = append(rows, []api.Sess{own}, []api.Sess{own, {Client: 3, Seq: 1, Reply: api.Reply{Val: v}}})
		}
	}
	rows = append(rows, nil)
	all := map[string]int{}
	for _, l := range lists {
		for _, row := range rows {
			b, e := sess.Encode(api.Machine{Pairs: l, Sess: row})
			if e != api.OK {
				t.Fatalf("error %d", e)
			}
			all[string(b)]++
		}
	}
	if len(all) != len(lists)*len(rows) {
		t.Errorf("%d machines have %d kinds of bytes", len(lists)*len(rows), len(all))
	}
}

// TestDecodeOfStrewnBytes changes right bytes in a few places.
func TestDecodeOfStrewnBytes(t *testing.T) { // P7.3
	s := strewn(0x9e3779b97f4a7c15)
	taken := 0
	for _, m := range rightMachines() {
		right := spell(m).b
		for range 2000 {
			b := bytes.Clone(right)
			for range 1 + s.below(3) {
				at := s.below(len(b) + 1)
				switch s.below(3) {
				case 0:
					b = slices.Insert(b, at, byte(s.below(256)))
				case 1:
					b = slices.Delete(b, min(at, len(b)), min(at+1, len(b)))
				default:
					b = append(b, 0)
					b[at] = byte(s.below(20))
					b = b[:len(b)-1]
				}
			}
			if holdDecode(t, b) == api.OK {
				taken++
			}
		}
	}
	if taken < 100 {
		t.Errorf("only %d were taken", taken)
	}
}
