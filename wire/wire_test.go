package wire_test

import (
	"bytes"
	"encoding/hex"
	"fmt"
	"math"
	"slices"
	"strings"
	"testing"
	"unsafe"

	"skerry/api"
	"skerry/wire"
)

const (
	theNaN   = 0x7ff8000000000001
	maxInner = 16
)

var minus, inf, nan, otherNaN = math.Copysign(0, -1), math.Inf(1), math.Float64frombits(theNaN), math.Float64frombits(0xfff8000000000123)

func number(x float64) api.Value { return api.Value{Kind: api.Num, Num: x} }

func text(s string) api.Value { return api.Value{Kind: api.Text, Text: s} }

func put(key string, v api.Value) api.Cmd { return api.Cmd{Kind: api.OpPut, Key: key, Val: v} }

func cas(key string, old, v api.Value) api.Cmd {
	return api.Cmd{Kind: api.OpCas, Key: key, Old: old, Val: v}
}

func none(term int) api.Entry { return api.Entry{Term: term} }

func call(term, client, seq int, c api.Cmd) api.Entry {
	return api.Entry{Term: term, Kind: api.ECall, Call: api.Call{Client: client, Seq: seq, Cmd: c}}
}

func change(term int, c api.Conf) api.Entry { return api.Entry{Term: term, Kind: api.EConf, Conf: c} }

// alikeValues holds bits, so that no nought and no NaN is taken for another.
func alikeValues(a, b api.Value) bool {
	return a.Kind == b.Kind && math.Float64bits(a.Num) == math.Float64bits(b.Num) && a.Text == b.Text
}

func alikeEntries(a, b api.Entry) bool {
	x, y := a.Call, b.Call
	return a.Term == b.Term && a.Kind == b.Kind && a.Conf == b.Conf && x.Client == y.Client && x.Seq == y.Seq &&
		x.Cmd.Kind == y.Cmd.Kind && x.Cmd.Key == y.Cmd.Key && alikeValues(x.Cmd.Old, y.Cmd.Old) && alikeValues(x.Cmd.Val, y.Cmd.Val)
}

func alikeHards(a, b api.Hard) bool {
	return a.Term == b.Term && a.Vote == b.Vote && a.Base == b.Base && a.BaseTerm == b.BaseTerm && a.BaseConf == b.BaseConf &&
		bytes.Equal(a.Snap, b.Snap) && slices.EqualFunc(a.Log, b.Log, alikeEntries)
}

func alikeMsgs(a, b api.Msg) bool {
	return a.Kind == b.Kind && a.From == b.From && a.To == b.To && a.Term == b.Term && a.Index == b.Index && a.LogTerm == b.LogTerm &&
		a.Commit == b.Commit && a.Round == b.Round && a.Yes == b.Yes && slices.EqualFunc(a.Entries, b.Entries, alikeEntries) &&
		a.Conf == b.Conf && bytes.Equal(a.Snap, b.Snap) && slices.EqualFunc(a.Inner, b.Inner, alikeMsgs)
}

// lists are all of a thing: its own ones, and those within.
type lists struct {
	entries [][]api.Entry
	bytes   [][]byte
	inner   [][]api.Msg
}

func listsOfEntry(api.Entry) lists { return lists{} }

func listsOfHard(h api.Hard) lists {
	return lists{entries: [][]api.Entry{h.Log}, bytes: [][]byte{h.Snap}}
}

func listsOfMsg(m api.Msg) lists {
	l := lists{[][]api.Entry{m.Entries}, [][]byte{m.Snap}, [][]api.Msg{m.Inner}}
	for _, x := range m.Inner {
		within := listsOfMsg(x)
		l = lists{append(l.entries, within.entries...), append(l.bytes, within.bytes...), append(l.inner, within.inner...)}
	}
	return l
}

// lay says how a list is laid into new memory.
type lay struct{ room, whole bool }

var (
	withRoom = lay{room: true}  // with room behind it, where spares stand
	whole    = lay{whole: true} // with the room that is behind it as a part of it
)

func laid[T any](l []T, how lay, spare T) []T {
	if how.whole {
		l = l[:cap(l)]
	}
	if how.room {
		return slices.Concat(l, []T{spare, spare})[:len(l)]
	}
	return slices.Clone(l)
}

var spareEntry = call(77, 77, 77, put("spare", text("spare")))

func laidEntry(x api.Entry, how lay) api.Entry { return x }

func laidHard(h api.Hard, how lay) api.Hard {
	h.Snap = laid(h.Snap, how, 0xee)
	h.Log = laid(h.Log, how, spareEntry)
	return h
}

func laidMsg(m api.Msg, how lay) api.Msg {
	m.Entries = laid(m.Entries, how, spareEntry)
	m.Snap = laid(m.Snap, how, 0xee)
	m.Inner = laid(m.Inner, how, api.Msg{Kind: 77, Snap: []byte("spare")})
	for i := range m.Inner {
		m.Inner[i] = laidMsg(m.Inner[i], how)
	}
	return m
}

func scribbleList[T any](l []T, over T) {
	l = l[:cap(l)]
	for i := range l {
		l[i] = over
	}
}

// scribble writes over all lists, their room too.
func (l lists) scribble() {
	for _, x := range l.entries {
		scribbleList(x, api.Entry{Term: 666, Kind: 6})
	}
	for _, x := range l.bytes {
		scribbleList(x, 0x66)
	}
	for _, x := range l.inner {
		scribbleList(x, api.Msg{Kind: 666})
	}
}

// span is memory, from one address up to another one.
type span struct{ from, to uintptr }

func spanOf[T any](l []T) span {
	var one T
	from := uintptr(unsafe.Pointer(unsafe.SliceData(l)))
	return span{from, from + uintptr(cap(l))*unsafe.Sizeof(one)}
}

// spans answers where the lists lie, their room too.
func (l lists) spans() []span {
	var all []span
	for _, x := range l.entries {
		all = append(all, spanOf(x))
	}
	for _, x := range l.bytes {
		all = append(all, spanOf(x))
	}
	for _, x := range l.inner {
		all = append(all, spanOf(x))
	}
	return all
}

// shares says whether two of the spans have memory in common.
func shares(all []span) bool {
	all = slices.DeleteFunc(all, func(s span) bool { return s.from == s.to })
	slices.SortFunc(all, func(a, b span) int { return int(int64(a.from) - int64(b.from)) })
	for i := 1; i < len(all); i++ {
		if all[i].from < all[i-1].to {
			return true
		}
	}
	return false
}

// kind is one of the three things that are written and read.
type kind[T any] struct {
	name  string
	write func(T) ([]byte, api.Errno)
	read  func([]byte) (T, api.Errno)
	alike func(a, b T) bool
	lists func(T) lists
	laid  func(T, lay) T
}

var entries = kind[api.Entry]{"Entry", wire.Entry, wire.ReadEntry, alikeEntries, listsOfEntry, laidEntry}

var hards = kind[api.Hard]{"Hard", wire.Hard, wire.ReadHard, alikeHards, listsOfHard, laidHard}

var msgs = kind[api.Msg]{"Msg", wire.Msg, wire.ReadMsg, alikeMsgs, listsOfMsg, laidMsg}

func (k kind[T]) told(x T) string {
	s := fmt.Sprintf("%s %+v", k.name, x)
	return s[:min(len(s), 600)]
}

func toldBytes(b []byte) string {
	return fmt.Sprintf("%d bytes %x", len(b), b[:min(len(b), 200)])
}

// writes holds what is written of x, twice; that x is left as it is; and that no memory is shared.
func (k kind[T]) writes(t *testing.T, x T, want []byte, wantE api.Errno) {
	t.Helper()
	room := k.laid(x, withRoom)
	before := k.laid(room, whole)
	one, e := k.write(room)
	if e != wantE || !bytes.Equal(one, want) {
		t.Errorf("%s\nis %s, error %d\nnot %s, error %d", k.told(x), toldBytes(one), e, toldBytes(want), wantE)
	}
	two, _ := k.write(room)
	if !k.alike(k.laid(room, whole), before) {
		t.Errorf("what was handed in is changed: %s", k.told(x))
	}
	if shares(append(k.lists(room).spans(), spanOf(one), spanOf(two))) {
		t.Errorf("memory is shared by what is written of %s", k.told(x))
	}
	scribbleList(one, 0x66)
	if !k.alike(k.laid(room, whole), before) {
		t.Errorf("the bytes share what was handed in: %s", k.told(x))
	}
	k.lists(room).scribble()
	if !bytes.Equal(two, want) {
		t.Errorf("the bytes of %s hang on what is done with others, or with what was handed in", k.told(x))
	}
}

// reads holds what is read of b, twice; that b is left as it is; and that no memory is shared.
func (k kind[T]) reads(t *testing.T, b []byte, want T, wantE api.Errno) {
	t.Helper()
	room := laid(b, withRoom, 0xee)
	before := laid(room, whole, 0)
	one, e := k.read(room)
	if e != wantE || !k.alike(one, want) {
		t.Errorf("%s of %s\nis error %d, %s\nnot error %d, %s", k.name, toldBytes(b), e, k.told(one), wantE, k.told(want))
	}
	two, _ := k.read(room)
	if !bytes.Equal(laid(room, whole, 0), before) {
		t.Errorf("what was handed in is changed: %s of %s", k.name, toldBytes(b))
	}
	if shares(slices.Concat(k.lists(one).spans(), k.lists(two).spans(), []span{spanOf(room)})) {
		t.Errorf("memory is shared by what is read: %s of %s", k.name, toldBytes(b))
	}
	k.lists(one).scribble()
	if !bytes.Equal(laid(room, whole, 0), before) {
		t.Errorf("what is read shares what was handed in: %s of %s", k.name, toldBytes(b))
	}
	scribbleList(room, 0x66)
	if !k.alike(two, want) {
		t.Errorf("what is read hangs on what is done with others, or with what was handed in: %s of %s", k.name, toldBytes(b))
	}
}

// is holds both ways between x and its bytes.
func (k kind[T]) is(t *testing.T, x T, b []byte) {
	t.Helper()
	k.writes(t, x, b, api.OK)
	k.reads(t, b, x, api.OK)
}

// not holds that x is not right to be written.
func (k kind[T]) not(t *testing.T, x T) {
	t.Helper()
	k.writes(t, x, nil, api.ErrPack)
}

// noneOf holds that b are the bytes of none.
func (k kind[T]) noneOf(t *testing.T, b []byte) {
	t.Helper()
	var zero T
	k.reads(t, b, zero, api.ErrPack)
}

// hexed answers the bytes that are written out by hexadecimal digits, with spaces and strokes between.
func hexed(s string) []byte {
	b, err := hex.DecodeString(strings.NewReplacer(" ", "", "|", "", "\n", "", "\t", "").Replace(s))
	if err != nil {
		panic(err)
	}
	return b
}

func zeros(n int) string { return strings.Repeat("00 ", n) }

func TestExample(t *testing.T) { // P10.1
	b, e := wire.Entry(api.Entry{Term: 1, Kind: api.ENone})
	if e != api.OK || !bytes.Equal(b, []byte{2, 0}) {
		t.Errorf("error %d, %x", e, b)
	}
}

// entryBytes are worked out by hand.
func TestBytesOfEntries(t *testing.T) { // P10.1
	for _, c := range []struct {
		x    api.Entry
		want string
	}{
		{api.Entry{}, "00 00"},
		{none(1), "02 00"},
		{none(-1), "01 00"},
		{none(300), "d8 04 00"},
		{none(api.MaxTerm), "80 80 80 80 80 40 00"},
		{api.Entry{Kind: api.ECall}, "00 02 | 00 00 | 00 00 00 00"},
		{call(3, 2, 5, put("ab", number(1))), "06 02 | 04 0a | 04 04 6162 00 02 3ff0000000000000"},
		{call(300, 1, 64, cas("k", text("é"), api.Value{})), "d804 02 | 02 8001 | 08 02 6b 04 04 c3a9 00"},
		{call(1, 4, 1, cas("kkkkkkkk", number(-2.5), text("abc"))), "02 02 | 08 02 | 08 10 6b6b6b6b6b6b6b6b 02 c004000000000000 04 06 616263"},
		{call(1, 1, 2, api.Cmd{Kind: api.OpGet, Key: "a"}), "02 02 | 02 04 | 02 02 61 00 00"},
		{call(1, 1, 2, api.Cmd{Kind: api.OpDel, Key: "a"}), "02 02 | 02 04 | 06 02 61 00 00"},
		{call(1, 1, 2, api.Cmd{Kind: api.OpAdd, Key: "a", Val: number(2)}), "02 02 | 02 04 | 0a 02 61 00 02 4000000000000000"},
		{call(1, 1, 2, api.Cmd{Kind: api.OpMax, Key: "a", Val: number(minus)}), "02 02 | 02 04 | 0c 02 61 00 02 8000000000000000"},
		{call(-64, -65, -1, api.Cmd{Kind: -2, Old: text(""), Val: text("")}), "7f 02 | 8101 01 | 03 00 04 00 04 00"},
		{change(2, api.Conf{Full: 3, Wit: 4, Learn: 8, LearnWit: 16}), "04 04 | 06 08 10 20"},
		{change(2, api.Conf{}), "04 04 | 00 00 00 00"},
		{change(63, api.Conf{Full: 127, Wit: -1, Learn: 64, LearnWit: 63}), "7e 04 | fe01 01 8001 7e"},
	} {
		entries.is(t, c.x, hexed(c.want))
	}
}

// numbers are whole ones, and how they are written.
var numbers = []struct {
	n    int
	text string
}{
	{0, "00"}, {-1, "01"}, {1, "02"}, {63, "7e"}, {64, "8001"}, {-64, "7f"}, {-65, "8101"}, {127, "fe01"}, {128, "8002"},
	{8191, "fe7f"}, {8192, "808001"}, {-8192, "ff7f"}, {-8193, "818001"}, {1 << 31, "8080808010"}, {-1 << 31, "ffffffff0f"}, {1 << 32, "8080808020"},
	{api.MaxTerm, "808080808040"}, {1<<62 - 1, "feffffffffffffff7f"}, {1 << 62, "80808080808080808001"},
	{math.MinInt, "ffffffffffffffffff01"}, {math.MaxInt, "feffffffffffffffff01"}, {math.MinInt + 1, "fdffffffffffffffff01"}, {math.MaxInt - 1, "fcffffffffffffffff01"},
}

func TestNumbersOfEntries(t *testing.T) { // P10.1
	for _, n := range numbers {
		for _, c := range []struct {
			x             api.Entry
			ahead, behind string
		}{
			{api.Entry{Term: n.n}, "", "00"},
			{api.Entry{Term: n.n, Kind: api.ECall}, "", "02 00 00 00 00 00 00"},
			{api.Entry{Term: n.n, Kind: api.EConf}, "", "04 00 00 00 00"},
			{call(0, n.n, 0, api.Cmd{}), "00 02", "00 00 00 00 00"},
			{call(0, 0, n.n, api.Cmd{}), "00 02 00", "00 00 00 00"},
			{call(0, 0, 0, api.Cmd{Kind: n.n}), "00 02 00 00", "00 00 00"},
			{change(0, api.Conf{Full: n.n}), "00 04", "00 00 00"},
			{change(0, api.Conf{Wit: n.n}), "00 04 00", "00 00"},
			{change(0, api.Conf{Learn: n.n}), "00 04 00 00", "00"},
			{change(0, api.Conf{LearnWit: n.n}), "00 04 00 00 00", ""},
		} {
			entries.is(t, c.x, hexed(c.ahead+n.text+c.behind))
		}
	}
}

// floats are bits as they are written; those that have another order of bytes would be other ones.
var floats = []uint64{
	0, 1 << 63, 1, 1<<63 | 1, 0x000fffffffffffff, 0x0010000000000000, 0x3ff0000000000000, 0xbff0000000000000, 0x3ff0000000000001, 0x3fb999999999999a, 0x0102030405060708, 0xf1e2d3c4b5a69788,
	math.Float64bits(math.MaxFloat64), math.Float64bits(-math.MaxFloat64), math.Float64bits(inf), math.Float64bits(-inf), theNaN,
}

func TestFloatsOfEntries(t *testing.T) { // P10.1, P10.2
	for _, bits := range floats {
		x := math.Float64frombits(bits)
		entries.is(t, call(0, 0, 0, api.Cmd{Old: number(x)}), hexed(fmt.Sprintf("00 02 00 00 00 00 | 02 %016x | 00", bits)))
		entries.is(t, call(0, 0, 0, api.Cmd{Val: number(x)}), hexed(fmt.Sprintf("00 02 00 00 00 00 | 00 | 02 %016x", bits)))
		entries.is(t, call(0, 0, 0, api.Cmd{Old: number(x), Val: number(-1)}), hexed(fmt.Sprintf("00 02 00 00 00 00 | 02 %016x | 02 bff0000000000000", bits)))
	}
}

func TestTextsOfEntries(t *testing.T) { // P10.1, P10.2
	for _, c := range []struct{ s, head string }{
		{"", "00"}, {"a", "02"}, {"\x00", "02"}, {"\x80", "02"}, {"\xff\xfe\x80", "06"}, {"é", "04"}, {"kkkkkkkk", "10"}, {"kkkkkkkkk", "12"},
		{strings.Repeat("x", api.MaxText), "40"}, {strings.Repeat("x", api.MaxText+1), "42"}, {strings.Repeat("\xc3", 63), "7e"}, {strings.Repeat("y", 64), "8001"},
		{strings.Repeat("y", 8191), "fe7f"}, {strings.Repeat("z", 8192), "808001"}, {strings.Repeat("z", 16000), "80fa01"},
	} {
		s := c.head + hex.EncodeToString([]byte(c.s))
		entries.is(t, call(0, 0, 0, api.Cmd{Key: c.s}), hexed("00 02 00 00 00 | "+s+" | 00 00"))
		entries.is(t, call(0, 0, 0, api.Cmd{Old: text(c.s)}), hexed("00 02 00 00 00 00 | 04"+s+" | 00"))
		entries.is(t, call(0, 0, 0, api.Cmd{Val: text(c.s)}), hexed("00 02 00 00 00 00 | 00 | 04"+s))
	}
}

// three are entries of each Kind, and their bytes.
var three = []api.Entry{none(1), call(1, 2, 5, put("ab", text("c"))), change(2, api.Conf{Full: 3, Wit: 4, Learn: 8, LearnWit: 16})}

const bytesOfThree = "02 00 | 02 02 04 0a 04 04 6162 00 04 02 63 | 04 04 06 08 10 20"

func TestBytesOfHards(t *testing.T) { // P10.1, P10.2
	conf := api.Conf{Full: 1, Wit: 2, Learn: 4, LearnWit: 8}
	for _, c := range []struct {
		h    api.Hard
		want string
	}{
		{api.Hard{}, zeros(10)},
		{api.Hard{Snap: []byte{}, Log: []api.Entry{}}, zeros(10)},
		{api.Hard{Term: 3, Vote: -1, BaseConf: api.Conf{Full: 3, Wit: 4}}, "06 01 00 00 | 06 08 00 00 | 00 | 00"},
		{api.Hard{Term: 3, Vote: 2, Base: 64, BaseTerm: 1, BaseConf: conf, Snap: []byte{0, 0xff, 0x80}}, "06 04 8001 02 | 02 04 08 10 | 06 00ff80 | 00"},
		{api.Hard{Term: 3, Vote: 2, BaseConf: conf, Log: three}, "06 04 00 00 | 02 04 08 10 | 00 | 06 " + bytesOfThree},
		{api.Hard{Term: 3, Vote: 2, Base: 64, BaseTerm: 1, BaseConf: conf, Snap: []byte{9}, Log: three}, "06 04 8001 02 | 02 04 08 10 | 02 09 | 06 " + bytesOfThree},
		{api.Hard{Log: []api.Entry{{}}}, zeros(9) + "02 00 00"},
		{api.Hard{Log: make([]api.Entry, 100)}, zeros(9) + "c801" + zeros(200)},
		{api.Hard{Snap: bytes.Repeat([]byte{0xa5}, 64)}, zeros(8) + "8001" + strings.Repeat("a5", 64) + "00"},
	} {
		hards.is(t, c.h, hexed(c.want))
	}
}

func TestNumbersOfHards(t *testing.T) { // P10.1
	for _, n := range numbers {
		for i, h := range []api.Hard{
			{Term: n.n}, {Vote: n.n}, {Base: n.n}, {BaseTerm: n.n},
			{BaseConf: api.Conf{Full: n.n}}, {BaseConf: api.Conf{Wit: n.n}}, {BaseConf: api.Conf{Learn: n.n}}, {BaseConf: api.Conf{LearnWit: n.n}},
		} {
			hards.is(t, h, hexed(zeros(i)+n.text+zeros(9-i)))
		}
	}
}

// fields are the places of a message's fields among its bytes, one of each.
var fields = []func(m *api.Msg, n int){
	func(m *api.Msg, n int) { m.Kind = n },
	func(m *api.Msg, n int) { m.From = n },
	func(m *api.Msg, n int) { m.To = n },
	func(m *api.Msg, n int) { m.Term = n },
	func(m *api.Msg, n int) { m.Index = n },
	func(m *api.Msg, n int) { m.LogTerm = n },
	func(m *api.Msg, n int) { m.Commit = n },
	func(m *api.Msg, n int) { m.Round = n },
	func(m *api.Msg, n int) { m.Yes = n%2 == 1 },
	func(m *api.Msg, n int) { m.Entries = make([]api.Entry, n) },
	func(m *api.Msg, n int) { m.Conf.Full = n },
	func(m *api.Msg, n int) { m.Conf.Wit = n },
	func(m *api.Msg, n int) { m.Conf.Learn = n },
	func(m *api.Msg, n int) { m.Conf.LearnWit = n },
	func(m *api.Msg, n int) { m.Snap = bytes.Repeat([]byte{7}, n) },
	func(m *api.Msg, n int) { m.Inner = make([]api.Msg, n) },
}

const (
	yesField     = 8
	entriesField = 9
	snapField    = 14
	innerField   = 15
)

func TestNumbersOfMsgs(t *testing.T) { // P10.1
	for _, n := range numbers {
		for i, set := range fields {
			if i == yesField || i == entriesField || i == snapField || i == innerField {
				continue
			}
			var m api.Msg
			set(&m, n.n)
			msgs.is(t, m, hexed(zeros(i)+n.text+zeros(15-i)))
			msgs.is(t, api.Msg{Inner: []api.Msg{{}, m}}, hexed(zeros(15)+"04"+zeros(16)+zeros(i)+n.text+zeros(15-i)))
		}
	}
}

func TestBytesOfMsgs(t *testing.T) { // P10.1, P10.2
	one := map[int]string{yesField: "01", entriesField: "02 00 00", snapField: "02 07", innerField: "02" + zeros(16)}
	for kind := range 12 {
		head := fmt.Sprintf("%02x", 2*kind)
		msgs.is(t, api.Msg{Kind: kind}, hexed(head+zeros(15)))
		for i, set := range fields[1:] {
			m := api.Msg{Kind: kind}
			set(&m, 1)
			as, is := one[i+1]
			if !is {
				as = "02"
			}
			msgs.is(t, m, hexed(head+zeros(i)+as+zeros(14-i)))
		}
	}
	conf := api.Conf{Full: 1, Wit: 2, Learn: 4, LearnWit: 8}
	all := api.Msg{Kind: api.MRelay, From: 1, To: 2, Term: 3, Index: 64, LogTerm: -1, Commit: 5, Round: 6, Yes: true, Entries: three, Conf: conf, Snap: []byte("sn")}
	const bytesOfAll = "12 02 04 06 8001 01 0a 0c 01 | 06 " + bytesOfThree + "| 02 04 08 10 | 04 736e"
	msgs.is(t, all, hexed(bytesOfAll+"00"))
	outer := all
	outer.Inner = []api.Msg{{Kind: api.MAsk, From: 6}, all, {}}
	msgs.is(t, outer, hexed(bytesOfAll+"| 06 | 02 0c"+zeros(14)+"|"+bytesOfAll+"00 |"+zeros(16)))
	msgs.is(t, api.Msg{Entries: []api.Entry{}, Snap: []byte{}, Inner: []api.Msg{}}, hexed(zeros(16)))
	msgs.is(t, api.Msg{Inner: []api.Msg{{Entries: []api.Entry{}, Snap: []byte{}, Inner: []api.Msg{}}}}, hexed(zeros(15)+"02"+zeros(16)))
}

// TestMostOfMsgs holds as many entries and inner ones as there may be, and one more.
func TestMostOfMsgs(t *testing.T) { // P10.1
	for n := range 40 {
		m := api.Msg{Kind: api.MAppend, Entries: make([]api.Entry, n)}
		of := api.Msg{Kind: api.MRelay, Inner: []api.Msg{{}, m}}
		relay := api.Msg{Kind: api.MRelay, Inner: make([]api.Msg, n)}
		count := fmt.Sprintf("%02x", 2*n)
		b := hexed("0a" + zeros(8) + count + zeros(2*n) + zeros(6))
		bytesOf := slices.Concat(hexed("12"+zeros(14)+"04"+zeros(16)), b)
		bytesRelay := hexed("12" + zeros(14) + count + zeros(16*n))
		if n <= api.MaxBatch {
			msgs.is(t, m, b)
			msgs.is(t, of, bytesOf)
		} else {
			msgs.not(t, m)
			msgs.not(t, of)
			msgs.noneOf(t, b)
			msgs.noneOf(t, bytesOf)
		}
		if n <= maxInner {
			msgs.is(t, relay, bytesRelay)
		} else {
			msgs.not(t, relay)
			msgs.noneOf(t, bytesRelay)
		}
	}
}
