package wire_test

import (
	"bytes"
	"fmt"
	"math"
	"slices"
	"strings"
	"testing"

	"skerry/api"
	"skerry/wire"
)

func rightValues() []api.Value {
	l := []api.Value{{}, text(""), text("a"), text("\x00\xff"), text(strings.Repeat("é", 300))}
	for _, bits := range floats {
		l = append(l, number(math.Float64frombits(bits)))
	}
	return l
}

// wrongValues are not right to be written, each for one reason.
func wrongValues() []api.Value {
	l := []api.Value{
		{Kind: -1}, {Kind: 3}, {Kind: 4}, {Kind: math.MinInt}, {Kind: math.MaxInt}, {Kind: 1<<32 + api.Num, Num: 1}, {Kind: 1<<8 + api.Text, Text: "a"}, {Kind: 3, Num: 1}, {Kind: 3, Text: "a"},
		{Kind: api.Num, Text: "a"}, {Kind: api.Num, Num: 1, Text: "a"}, {Kind: api.Num, Num: nan, Text: "\x00"},
	}
	for _, x := range []float64{1, -1, minus, math.SmallestNonzeroFloat64, inf, -inf, nan, otherNaN} {
		l = append(l, api.Value{Kind: api.Text, Num: x}, api.Value{Kind: api.Text, Num: x, Text: "a"}, api.Value{Num: x})
	}
	l = append(l, api.Value{Text: "a"}, api.Value{Text: "\x00"}, api.Value{Num: 1, Text: "a"})
	for _, bits := range wrongNaNs {
		l = append(l, number(math.Float64frombits(bits)))
	}
	return l
}

var wrongNaNs = []uint64{0x7ff8000000000000, 0x7ff8000000000002, 0xfff8000000000001, 0xfff8000000000000, 0x7ff0000000000001, 0x7ff8000000000101, 0x7fffffffffffffff, 0xffffffffffffffff, 0x7ffc000000000001}

// someCalls are other than zero, each by one field.
func someCalls() []api.Call {
	l := []api.Call{
		{Client: 1}, {Client: -1}, {Client: 1 << 40}, {Seq: 1}, {Seq: math.MinInt}, {Cmd: api.Cmd{Kind: 1}}, {Cmd: api.Cmd{Kind: -7}}, {Cmd: api.Cmd{Key: "a"}}, {Cmd: api.Cmd{Key: "\x00"}},
	}
	for _, v := range slices.Concat(rightValues()[1:], wrongValues()) {
		l = append(l, api.Call{Cmd: api.Cmd{Old: v}}, api.Call{Cmd: api.Cmd{Val: v}})
	}
	return l
}

func someConfs() []api.Conf {
	return []api.Conf{{Full: 1}, {Wit: 1}, {Learn: 1}, {LearnWit: 1}, {Full: -1}, {Wit: 1 << 40}, {Learn: math.MinInt}, {LearnWit: math.MaxInt}}
}

// wrongEntries are not right to be written, each for one reason.
func wrongEntries() []api.Entry {
	var l []api.Entry
	for _, kind := range []int{-1, 3, 4, 1 << 8, 1<<32 + 1, math.MinInt, math.MaxInt} {
		l = append(l, api.Entry{Kind: kind}, api.Entry{Term: 1, Kind: kind, Call: three[1].Call}, api.Entry{Term: 1, Kind: kind, Conf: three[2].Conf})
	}
	for _, c := range someCalls() {
		l = append(l, api.Entry{Term: 1, Kind: api.ENone, Call: c}, api.Entry{Term: 1, Kind: api.EConf, Call: c}, api.Entry{Term: 1, Kind: api.EConf, Call: c, Conf: three[2].Conf})
	}
	for _, c := range someConfs() {
		l = append(l, api.Entry{Term: 1, Kind: api.ENone, Conf: c}, api.Entry{Term: 1, Kind: api.ECall, Conf: c}, api.Entry{Term: 1, Kind: api.ECall, Call: three[1].Call, Conf: c})
	}
	for _, v := range wrongValues() {
		l = append(l, call(1, 1, 1, cas("a", v, api.Value{})), call(1, 1, 1, cas("a", api.Value{}, v)), call(1, 1, 1, cas("a", text("b"), v)), call(1, 1, 1, cas("a", v, number(2))))
	}
	return l
}

func TestWrongEntries(t *testing.T) { // P10.1
	for _, x := range wrongEntries() {
		entries.not(t, x)
		for _, l := range [][]api.Entry{{x}, slices.Concat(three, []api.Entry{x}), slices.Concat([]api.Entry{x}, three), slices.Concat(three, []api.Entry{x}, three)} {
			hards.not(t, api.Hard{Log: l})
			hards.not(t, api.Hard{Term: 3, Base: 1, BaseTerm: 1, Snap: []byte("snap"), Log: l})
			msgs.not(t, api.Msg{Entries: l})
			msgs.not(t, api.Msg{Kind: api.MRelay, Inner: []api.Msg{{Entries: l}}})
			msgs.not(t, api.Msg{Kind: api.MRelay, Entries: three, Inner: []api.Msg{{Entries: three}, {Entries: l}, {}}})
		}
	}
}

func TestRightValues(t *testing.T) { // P10.1
	for _, v := range rightValues() {
		for _, w := range rightValues() {
			x := call(1, 2, 3, cas("k", v, w))
			b, e := wire.Entry(x)
			if e != api.OK || !bytes.Equal(b, plainEntry(x)) {
				t.Errorf("%+v: error %d, %s", x, e, toldBytes(b))
			}
			if y, e := wire.ReadEntry(b); e != api.OK || !alikeEntries(x, y) {
				t.Errorf("%+v: error %d, %+v", x, e, y)
			}
		}
	}
}

func TestInnerOfInner(t *testing.T) { // P10.1
	for n := 1; n <= maxInner; n++ {
		for _, at := range []int{0, n / 2, n - 1} {
			m := api.Msg{Kind: api.MRelay, Inner: make([]api.Msg, n)}
			for _, within := range [][]api.Msg{{{}}, {{Kind: api.MVote}, {}}, make([]api.Msg, maxInner), make([]api.Msg, maxInner+1)} {
				m.Inner[at] = api.Msg{Kind: api.MRelay, Inner: within}
				msgs.not(t, m)
				msgs.noneOf(t, plainMsg(m))
			}
		}
	}
	deep := api.Msg{}
	for range 1000 {
		deep = api.Msg{Inner: []api.Msg{deep}}
	}
	if b, e := wire.Msg(deep); e != api.ErrPack || len(b) > 0 {
		t.Errorf("error %d, %s", e, toldBytes(b))
	}
	msgs.noneOf(t, plainMsg(deep))
	self := make([]api.Msg, 1)
	self[0].Inner = self
	if b, e := wire.Msg(api.Msg{Inner: self}); e != api.ErrPack || len(b) > 0 {
		t.Errorf("error %d, %s", e, toldBytes(b))
	}
}

// filled are n bytes, as a text, too.
func filled(n int) []byte { return bytes.Repeat([]byte("y"), n) }

// full are things that have a text of n bytes somewhere.
type full[T any] struct {
	name string
	of   func(n int) T
}

func fullEntries() []full[api.Entry] {
	return []full[api.Entry]{
		{"a key", func(n int) api.Entry { return call(0, 0, 0, api.Cmd{Key: string(filled(n))}) }},
		{"a text in Old", func(n int) api.Entry { return call(0, 0, 0, api.Cmd{Old: text(string(filled(n)))}) }},
		{"a text in Val", func(n int) api.Entry { return call(0, 0, 0, api.Cmd{Val: text(string(filled(n)))}) }},
		{"three texts", func(n int) api.Entry {
			return call(0, 0, 0, cas(string(filled(3000)), text(string(filled(4000))), text(string(filled(n)))))
		}},
		{"a text behind a number", func(n int) api.Entry {
			return call(-1, 1<<40, 1<<50, api.Cmd{Old: number(1), Val: text(string(filled(n)))})
		}},
	}
}

func fullHards() []full[api.Hard] {
	x := call(0, 0, 0, api.Cmd{Key: string(filled(2990))})
	return []full[api.Hard]{
		{"a snapshot", func(n int) api.Hard { return api.Hard{Snap: filled(n)} }},
		{"a snapshot and entries", func(n int) api.Hard { return api.Hard{Term: 1 << 40, Snap: filled(n), Log: three} }},
		{"a long entry", func(n int) api.Hard {
			return api.Hard{Log: []api.Entry{call(0, 0, 0, api.Cmd{Key: string(filled(n))})}}
		}},
		{"long entries", func(n int) api.Hard {
			return api.Hard{Log: []api.Entry{x, x, call(0, 0, 0, api.Cmd{Key: string(filled(n))})}}
		}},
		{"many entries", func(n int) api.Hard {
			return api.Hard{Snap: filled(n), Log: make([]api.Entry, 5000)}
		}},
	}
}

func fullMsgs() []full[api.Msg] {
	return []full[api.Msg]{
		{"a snapshot", func(n int) api.Msg { return api.Msg{Snap: filled(n)} }},
		{"an inner snapshot", func(n int) api.Msg { return api.Msg{Inner: []api.Msg{{}, {Snap: filled(n)}}} }},
		{"two snapshots", func(n int) api.Msg {
			return api.Msg{Snap: filled(9000), Inner: []api.Msg{{Snap: filled(n)}}}
		}},
		{"a long entry", func(n int) api.Msg {
			return api.Msg{Entries: []api.Entry{call(0, 0, 0, api.Cmd{Key: string(filled(n))})}}
		}},
		{"an inner entry", func(n int) api.Msg {
			return api.Msg{Inner: []api.Msg{{Entries: []api.Entry{none(1), call(0, 0, 0, api.Cmd{Val: text(string(filled(n)))})}}}}
		}},
	}
}

// sized answers a full one of n bytes.
func sized[T any](f full[T], n int, plain func(T) []byte) T {
	k := n
	for range 20 {
		k -= len(plain(f.of(k))) - n
	}
	return f.of(k)
}

func fills[T any](t *testing.T, k kind[T], l []full[T], plain func(T) []byte) {
	t.Helper()
	for _, f := range l {
		for _, n := range []int{16000, api.MaxPayload - 2, api.MaxPayload - 1, api.MaxPayload, api.MaxPayload + 1, api.MaxPayload + 2, api.MaxPayload + 40, 2 * api.MaxPayload} {
			x := sized(f, n, plain)
			b := plain(x)
			if len(b) != n {
				t.Fatalf("%s of %d bytes has %d", f.name, n, len(b))
			}
			if n <= api.MaxPayload {
				k.is(t, x, b)
				continue
			}
			k.writes(t, x, nil, api.ErrLong)
			k.noneOf(t, b)
		}
	}
}

func TestLong(t *testing.T) { // P10.1
	fills(t, entries, fullEntries(), plainEntry)
	fills(t, hards, fullHards(), plainHard)
	fills(t, msgs, fullMsgs(), plainMsg)
}

// TestManyEntries holds entries of two bytes each, and some of three, behind nine bytes and the two of their number.
func TestManyEntries(t *testing.T) { // P10.1
	many := func(n, longer int) api.Hard {
		h := api.Hard{Log: make([]api.Entry, n)}
		for i := range longer {
			h.Log[i].Term = 64
		}
		return h
	}
	hards.is(t, many(8186, 0), hexed(zeros(9)+"f47f"+zeros(2*8186)))
	hards.is(t, many(8186, 1), hexed(zeros(9)+"f47f"+"800100"+zeros(2*8185))) // api.MaxPayload
	for _, h := range []api.Hard{many(8186, 2), many(8187, 0), many(8188, 0), many(50000, 0)} {
		hards.writes(t, h, nil, api.ErrLong)
		hards.noneOf(t, plainHard(h))
	}
}

// TestLongTexts holds texts that are longer than any payload.
func TestLongTexts(t *testing.T) { // P10.1
	for _, n := range []int{api.MaxPayload - 3, api.MaxPayload, api.MaxPayload + 1, 1 << 16, 1 << 20} {
		s := string(filled(n))
		for _, c := range []api.Cmd{{Key: s}, {Old: text(s)}, {Val: text(s)}, {Key: s, Old: text(s), Val: text(s)}} {
			x := call(1, 1, 1, c)
			entries.writes(t, x, nil, api.ErrLong)
			hards.writes(t, api.Hard{Log: []api.Entry{none(1), x, none(1)}}, nil, api.ErrLong)
			msgs.writes(t, api.Msg{Entries: []api.Entry{x}}, nil, api.ErrLong)
			msgs.writes(t, api.Msg{Inner: []api.Msg{{Entries: []api.Entry{x}}, {}}}, nil, api.ErrLong)
		}
		hards.writes(t, api.Hard{Snap: filled(n)}, nil, api.ErrLong)
		hards.writes(t, api.Hard{Snap: filled(n), Log: three}, nil, api.ErrLong)
		msgs.writes(t, api.Msg{Snap: filled(n)}, nil, api.ErrLong)
		msgs.writes(t, api.Msg{Inner: []api.Msg{{Snap: filled(n)}, {}}}, nil, api.ErrLong)
	}
	x := call(0, 0, 0, api.Cmd{Key: string(filled(3000))})
	msgs.writes(t, api.Msg{Entries: []api.Entry{x, x, x, x, x, x}}, nil, api.ErrLong)
	hards.writes(t, api.Hard{Log: make([]api.Entry, 100000)}, nil, api.ErrLong)
	entries.noneOf(t, plainEntry(call(0, 0, 0, api.Cmd{Key: string(filled(1 << 16))})))
}

// TestWrongAheadOfLong holds that what is not right is told ahead of what is long, wherever the one and the other stand.
func TestWrongAheadOfLong(t *testing.T) { // P10.1
	for _, n := range []int{api.MaxPayload - 5, api.MaxPayload, api.MaxPayload + 1, 1 << 16} {
		s := string(filled(n))
		for _, v := range []api.Value{{Kind: 3}, {Kind: -1}, {Num: 1}, number(otherNaN), {Kind: api.Text, Num: minus}} {
			for _, c := range []api.Cmd{{Key: s, Old: v}, {Key: s, Val: v}, {Old: text(s), Val: v}, {Old: v, Val: text(s)}} {
				entries.not(t, call(1, 1, 1, c))
			}
			wrong := call(1, 1, 1, api.Cmd{Val: v})
			right := call(1, 1, 1, api.Cmd{Key: s})
			for _, l := range [][]api.Entry{{wrong, right}, {right, wrong}, {right, right, wrong}} {
				hards.not(t, api.Hard{Log: l})
				msgs.not(t, api.Msg{Entries: l})
				msgs.not(t, api.Msg{Inner: []api.Msg{{Entries: l}}})
			}
			hards.not(t, api.Hard{Snap: filled(n), Log: []api.Entry{wrong}})
			msgs.not(t, api.Msg{Snap: filled(n), Inner: []api.Msg{{Entries: []api.Entry{wrong}}}})
			msgs.not(t, api.Msg{Inner: []api.Msg{{Snap: filled(n)}, {Entries: []api.Entry{wrong}}}})
		}
		entries.not(t, api.Entry{Kind: api.ENone, Call: api.Call{Cmd: api.Cmd{Key: s}}})
		entries.not(t, api.Entry{Kind: api.EConf, Call: api.Call{Cmd: api.Cmd{Val: text(s)}}})
		entries.not(t, api.Entry{Kind: api.ECall, Call: api.Call{Cmd: api.Cmd{Key: s}}, Conf: api.Conf{Full: 1}})
		entries.not(t, api.Entry{Kind: 3, Call: api.Call{Cmd: api.Cmd{Key: s}}})
		msgs.not(t, api.Msg{Snap: filled(n), Entries: make([]api.Entry, api.MaxBatch+1)})
		msgs.not(t, api.Msg{Snap: filled(n), Inner: make([]api.Msg, maxInner+1)})
		msgs.not(t, api.Msg{Snap: filled(n), Inner: []api.Msg{{Inner: []api.Msg{{}}}}})
		msgs.not(t, api.Msg{Inner: []api.Msg{{Snap: filled(n)}, {Inner: []api.Msg{{}}}}})
		msgs.not(t, api.Msg{Inner: []api.Msg{{Snap: filled(n)}, {Entries: make([]api.Entry, api.MaxBatch+1)}}})
	}
	l := append(make([]api.Entry, 20000), api.Entry{Kind: 3})
	hards.not(t, api.Hard{Log: l})
}

// some are right ones, in which all there is to be written stands somewhere.
func someEntries() []api.Entry {
	l := slices.Clone(three)
	for _, v := range rightValues()[1:] {
		l = append(l, call(64, -65, 8192, cas("key", v, text("v"))))
	}
	return append(l, call(math.MinInt, math.MaxInt, math.MinInt, cas("", number(minus), number(nan))), change(1<<40, api.Conf{Full: 64, Wit: -64, Learn: 1 << 62, LearnWit: -65}))
}

func someHards() []api.Hard {
	c := api.Conf{Full: 67, Wit: 4, Learn: 8, LearnWit: 16}
	return []api.Hard{
		{}, {Term: 3, Vote: -1, BaseConf: c}, {Term: 300, Vote: 2, Base: 64, BaseTerm: 299, BaseConf: c, Snap: []byte("snapshot"), Log: three},
		{Term: api.MaxTerm, Vote: 6, Base: math.MaxInt, BaseTerm: math.MinInt, BaseConf: c, Snap: []byte{0x80}, Log: []api.Entry{call(9, 9, 9, cas("k", number(-1), text("tt")))}},
		{Snap: filled(70)}, {Log: someEntries()[:9]},
	}
}

func someMsgs() []api.Msg {
	c := api.Conf{Full: 67, Wit: 4, Learn: 8, LearnWit: 16}
	all := api.Msg{Kind: api.MAppend, From: 1, To: 2, Term: 300, Index: 64, LogTerm: -1, Commit: 5, Round: 8192, Yes: true, Entries: three, Conf: c, Snap: []byte("snap")}
	relay := api.Msg{Kind: api.MRelay, From: 3, To: 4, Inner: []api.Msg{all, {}, {Kind: api.MAsked, Yes: true}}}
	return []api.Msg{{}, all, relay, {Kind: math.MinInt, From: math.MaxInt, Snap: filled(64)}, {Inner: make([]api.Msg, maxInner)}, {Entries: someEntries()[3:11]}}
}

// cuts holds each strict beginning of right bytes, and what has more behind.
func cuts[T any](t *testing.T, k kind[T], l []T) {
	t.Helper()
	for _, x := range l {
		b, e := k.write(x)
		if e != api.OK {
			t.Fatalf("error %d, %s", e, k.told(x))
		}
		k.is(t, x, b)
		for n := range b {
			k.noneOf(t, b[:n])
		}
		for _, more := range [][]byte{{0}, {1}, {0xff}, {0, 0}, {2, 0}, b} {
			k.noneOf(t, slices.Concat(b, more))
		}
	}
	k.noneOf(t, nil)
	k.noneOf(t, []byte{})
}

func TestCuts(t *testing.T) { // P10.1, P10.2
	cuts(t, entries, someEntries())
	cuts(t, hards, someHards())
	cuts(t, msgs, someMsgs())
}

// respelled holds right bytes, of which one thing that is written is written otherwise.
func respelled[T any](t *testing.T, k kind[T], l []T, plain func(T) []byte, items func(T) []item) {
	t.Helper()
	for _, x := range l {
		row := items(x)
		if !bytes.Equal(joined(row), plain(x)) {
			t.Fatalf("items of %s", k.told(x))
		}
		for i, one := range row {
			with := func(b []byte) []byte {
				other := slices.Clone(row)
				other[i].b = b
				return joined(other)
			}
			switch one.is {
			case aNumber, aKind, aCount:
				for _, b := range longer(one.b) {
					k.noneOf(t, with(b))
				}
			case aMark:
				for _, b := range []byte{2, 3, 0x7f, 0x80, 0x81, 0xff} {
					k.noneOf(t, with([]byte{b}))
				}
			case aFloat:
				for _, bits := range wrongNaNs {
					k.noneOf(t, with(plainFloat(bits)))
				}
			}
			if one.is == aKind {
				for _, n := range []int{-1, -2, 3, 4, 64, 1 << 8, 1 << 32, math.MinInt, math.MaxInt} {
					k.noneOf(t, with(plainInt(n)))
				}
			}
			if one.is == aCount {
				for _, n := range []int{-1, -2, -64, math.MinInt, api.MaxPayload, api.MaxPayload + 1, 1 << 20, 1 << 31, 1 << 32, 1 << 40, math.MaxInt32, math.MaxInt - 1, math.MaxInt} {
					k.noneOf(t, with(plainInt(n)))
				}
			}
		}
	}
}

// longer spells a number in more groups than it needs, or in more than 64 bits.
func longer(b []byte) [][]byte {
	open := slices.Clone(b)
	open[len(open)-1] |= 0x80
	var l [][]byte
	for n := range 11 {
		l = append(l, slices.Concat(open, bytes.Repeat([]byte{0x80}, n), []byte{0}))
	}
	return append(l, append(bytes.Repeat([]byte{0xff}, 9), 2), append(bytes.Repeat([]byte{0xff}, 9), 0x81, 0), append(bytes.Repeat([]byte{0x80}, 9), 3), append(bytes.Repeat([]byte{0xff}, 10), 1))
}

func TestRespelled(t *testing.T) { // P10.1, P10.2
	respelled(t, entries, someEntries(), plainEntry, itemsOfEntry)
	respelled(t, hards, someHards(), plainHard, itemsOfHard)
	respelled(t, msgs, someMsgs(), plainMsg, itemsOfMsg)
}

// TestBytesOfWrongEntries holds bytes of what is not right to be written, as far as bytes may say it.
func TestBytesOfWrongEntries(t *testing.T) { // P10.1
	for _, c := range []string{
		"00 06", "00 01", "00 ffffffffffffffffff01", "00 8002", "02 08 00 00 00 00", // kinds that are none
		"00 02 00 00 00 00 06 00", "00 02 00 00 00 00 01 00", "00 02 00 00 00 00 00 06", "00 02 00 00 00 00 00 01", "00 02 00 00 00 00 00 06 00", "00 02 00 00 00 00 06 3ff0000000000000 00",
		"00 00 00", "00 00 00 00 00 00 00 00", "00 00 02 00 00 00", // what the kind does not name
		"00 02 00 00 00 00 00 00 00 00 00 00", "00 04 00 00 00", "00 04 00 00 00 00 00",
		"00 02 00 00 00 00 00 02 7ff8000000000000", "00 02 00 00 00 00 02 fff8000000000001 00", "00 02 00 00 00 00 00 02 7ff00000000001", "00 02 00 00 00 00 00 02",
		"00 02 00 00 00 01 00 00", "00 02 00 00 00 02 00 00", "00 02 00 00 00 08 61 00 00", "00 02 00 00 00 00 04 01 00", "00 02 00 00 00 00 00 04 02", "00 02 00 00 00 00 00 04 04 61",
	} {
		entries.noneOf(t, hexed(c))
		hards.noneOf(t, slices.Concat(hexed(zeros(9)+"02"), hexed(c)))
		msgs.noneOf(t, slices.Concat(hexed(zeros(9)+"02"), hexed(c), hexed(zeros(6))))
		msgs.noneOf(t, slices.Concat(hexed(zeros(15)+"02"+zeros(9)+"02"), hexed(c), hexed(zeros(6))))
	}
	for _, x := range wrongEntries() {
		b := plainEntry(x)
		y, e := modelReadEntry(b)
		entries.reads(t, b, y, e)
	}
}

// TestCounts holds lists that say that they have more, or fewer, than there are.
func TestCounts(t *testing.T) { // P10.1
	for said := -3; said < 200; said++ {
		for there := range 12 {
			count := fmt.Sprintf("%x", plainInt(said))
			b := hexed(zeros(9) + count + zeros(2*there))
			if said == there {
				hards.reads(t, b, api.Hard{Log: make([]api.Entry, said)}, api.OK)
			} else {
				hards.noneOf(t, b)
			}
			b = hexed(zeros(9) + count + zeros(2*there) + zeros(6))
			if m, e := modelReadMsg(b); said == there && said <= api.MaxBatch {
				msgs.reads(t, b, api.Msg{Entries: make([]api.Entry, said)}, api.OK)
			} else {
				msgs.reads(t, b, m, e)
			}
			b = hexed(zeros(15) + count + zeros(16*there))
			if said == there && said <= maxInner {
				msgs.reads(t, b, api.Msg{Inner: make([]api.Msg, said)}, api.OK)
			} else {
				msgs.noneOf(t, b)
			}
			b = hexed(zeros(8) + count + strings.Repeat("05", there) + "00")
			if said == there {
				hards.reads(t, b, api.Hard{Snap: bytes.Repeat([]byte{5}, said)}, api.OK)
			} else {
				h, e := modelReadHard(b)
				hards.reads(t, b, h, e)
			}
		}
	}
}
