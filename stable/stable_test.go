package stable_test

import (
	"bytes"
	"encoding/hex"
	"fmt"
	"math"
	"slices"
	"strings"
	"testing"
	"unsafe"

	"skerry/api"
	"skerry/disk"
	"skerry/logs"
	"skerry/stable"
)

const (
	maxBase = 1 << 40
	theNaN  = 0x7ff8000000000001
)

var minus, inf, nan = math.Copysign(0, -1), math.Inf(1), math.Float64frombits(theNaN)

func number(x float64) api.Value { return api.Value{Kind: api.Num, Num: x} }

func text(s string) api.Value { return api.Value{Kind: api.Text, Text: s} }

func none(term int) api.Entry { return api.Entry{Term: term} }

// put is told from the others by its number and its value.
func put(term, seq int, v api.Value) api.Entry {
	return api.Entry{Term: term, Kind: api.ECall, Call: api.Call{Client: 1 + seq%4, Seq: seq, Cmd: api.Cmd{Kind: api.OpPut, Key: "k", Val: v}}}
}

func change(term int, c api.Conf) api.Entry { return api.Entry{Term: term, Kind: api.EConf, Conf: c} }

// entries answers calls of these terms; those of one tag are unlike those of any other one.
func entries(tag int, terms ...int) []api.Entry {
	var l []api.Entry
	for k, term := range terms {
		l = append(l, put(term, 100*tag+k+1, number(float64(tag))))
	}
	return l
}

var one = api.Conf{Full: 1}

func begun(term, vote int, l ...api.Entry) api.Hard {
	return api.Hard{Term: term, Vote: vote, BaseConf: one, Log: l}
}

// based is a right one behind a snapshot, as long as the entries are.
func based(term, base, baseTerm int, l ...api.Entry) api.Hard {
	return api.Hard{Term: term, Vote: 2, Base: base, BaseTerm: baseTerm, BaseConf: api.Conf{Full: 3, Wit: 4, Learn: 8}, Snap: []byte("snap"), Log: l}
}

// with answers h with that log.
func with(h api.Hard, lists ...[]api.Entry) api.Hard {
	h.Log = slices.Concat(lists...)
	return h
}

// spare stands in spare room, which nobody may touch, keep or hand out.
var spare = put(77, 77, text("spare"))

// inRoom answers h in memory that has spare room at both ends, and all of that memory.
func inRoom(h api.Hard) (room, all api.Hard) {
	room, all = h, h
	all.Log = slices.Concat([]api.Entry{spare}, h.Log, []api.Entry{spare, spare, spare})
	all.Snap = slices.Concat([]byte{0xee}, h.Snap, []byte("spare"))
	room.Log, room.Snap = all.Log[1:1+len(h.Log)], all.Snap[1:1+len(h.Snap)]
	return room, all
}

func copied(h api.Hard) api.Hard {
	h.Log, h.Snap = slices.Clone(h.Log), slices.Clone(h.Snap)
	return h
}

// scribble writes over all lists, their room too.
func scribble(h api.Hard) {
	log, snap := h.Log[:cap(h.Log)], h.Snap[:cap(h.Snap)]
	for i := range log {
		log[i] = api.Entry{Term: 666, Kind: 6}
	}
	for i := range snap {
		snap[i] = 0x66
	}
}

func told(h api.Hard) string {
	s := fmt.Sprintf("{Term %d Vote %d Base %d BaseTerm %d BaseConf %+v Snap %d bytes %q}, %d entries", h.Term, h.Vote, h.Base, h.BaseTerm, h.BaseConf, len(h.Snap), h.Snap[:min(len(h.Snap), 12)], len(h.Log))
	for _, x := range h.Log[:min(len(h.Log), 8)] {
		s += fmt.Sprintf("\n\t%+v", x)
	}
	return s
}

func made(t *testing.T, room int) *disk.Disk {
	t.Helper()
	d, e := disk.New(room)
	if e != api.OK {
		t.Fatalf("a disk of %d bytes: error %d", room, e)
	}
	return d
}

// laid is a disk that has that file, synced.
func laid(t *testing.T, room int, file []byte) *disk.Disk {
	t.Helper()
	d := made(t, room)
	if e := d.Replace(file); e != api.OK {
		t.Fatalf("%d bytes on a disk of %d: error %d", len(file), room, e)
	}
	return d
}

// fileIs asks for a disk whose power is on.
func fileIs(t *testing.T, what string, d *disk.Disk, want []byte) {
	t.Helper()
	b, e := d.Read()
	if e != api.OK || !bytes.Equal(b, want) {
		t.Errorf("%s: the file is %d bytes %x, error %d, not %d bytes %x", what, len(b), b[:min(len(b), 300)], e, len(want), want[:min(len(want), 300)])
	}
}

// syncedIs asks for what stays where nothing stays but what is synced.
func syncedIs(t *testing.T, what string, d *disk.Disk, want []byte) {
	t.Helper()
	fileIs(t, what, d, want)
	d.Crash(0)
	d.Start()
	fileIs(t, what+", and a crash", d, want)
}

// open hands first in with spare room, and writes over all of it behind the call.
func open(t *testing.T, d *disk.Disk, first api.Hard) (*stable.Store, api.Errno) {
	t.Helper()
	room, all := inRoom(first)
	before := copied(all)
	s, e := stable.Open(d, room)
	if (s == nil) != (e != api.OK) {
		t.Errorf("Open of %s: a store %v, beside error %d", told(first), s != nil, e)
	}
	if !alikeHards(all, before) {
		t.Errorf("Open changed what was handed in: %s", told(first))
	}
	scribble(all)
	return s, e
}

// save hands h in likewise.
func save(t *testing.T, s *stable.Store, h api.Hard) api.Errno {
	t.Helper()
	room, all := inRoom(h)
	before := copied(all)
	e := s.Save(room)
	if !alikeHards(all, before) {
		t.Errorf("Save changed what was handed in: %s", told(h))
	}
	scribble(all)
	return e
}

func opened(t *testing.T, d *disk.Disk, first api.Hard) *stable.Store {
	t.Helper()
	s, e := open(t, d, first)
	if e != api.OK {
		t.Fatalf("Open of %s: error %d", told(first), e)
	}
	return s
}

// span is memory, from one address up to another one.
type span struct{ from, to uintptr }

func spanOf[T any](l []T) span {
	var one T
	from := uintptr(unsafe.Pointer(unsafe.SliceData(l)))
	return span{from, from + uintptr(cap(l))*unsafe.Sizeof(one)}
}

func shares(a, b span) bool { return a.from < b.to && b.from < a.to }

// hasIs writes over one answer, and holds another one, and a third.
func hasIs(t *testing.T, what string, s *stable.Store, want api.Hard) {
	t.Helper()
	first, second := s.Hard(), s.Hard()
	if shares(spanOf(first.Log), spanOf(second.Log)) || shares(spanOf(first.Snap), spanOf(second.Snap)) {
		t.Errorf("%s: two answers share memory", what)
	}
	if !alikeHards(first, want) {
		t.Errorf("%s: it has %s\nnot %s", what, told(first), told(want))
	}
	scribble(first)
	for _, h := range []api.Hard{second, s.Hard()} {
		if !alikeHards(h, want) {
			t.Errorf("%s: behind writing over an answer, it has %s\nnot %s", what, told(h), told(want))
		}
	}
}

func errorIs(t *testing.T, what string, got, want api.Errno) {
	t.Helper()
	if got != want {
		t.Errorf("%s: error %d, not %d", what, got, want)
	}
}

// writesIs holds how many writes a call does: the next one is the last one then.
func writesIs(t *testing.T, what string, d *disk.Disk, want int, call func() api.Errno) {
	t.Helper()
	d.Trip(want+1, 0)
	errorIs(t, what, call(), api.OK)
	errorIs(t, what+": the write behind its own ones", d.Sync(), api.ErrOff)
	d.Start()
}

// foundIs opens a disk again, twice: the second time, nothing is written.
func foundIs(t *testing.T, what string, d *disk.Disk, want api.Hard) *stable.Store {
	t.Helper()
	other := begun(9, 3, none(4))
	s, e := open(t, d, other)
	if e != api.OK {
		t.Errorf("%s: Open again: error %d", what, e)
		return nil
	}
	hasIs(t, what+", opened again", s, want)
	file, _ := d.Read()
	writesIs(t, what+", opened twice", d, 0, func() (e api.Errno) {
		s, e = open(t, d, other)
		return e
	})
	if s == nil {
		return nil
	}
	hasIs(t, what+", opened twice", s, want)
	fileIs(t, what+", opened twice", d, file)
	return s
}

// unhex reads what is written in two digits a byte, with blanks between.
func unhex(t *testing.T, s string) []byte {
	t.Helper()
	b, err := hex.DecodeString(strings.ReplaceAll(s, " ", ""))
	if err != nil {
		t.Fatal(err)
	}
	return b
}

func TestTheExample(t *testing.T) { // P11.1, P11.2
	d := made(t, api.MaxDisk)
	first, _ := logs.Begin(one)
	s := opened(t, d, first)
	hasIs(t, "the example", s, begun(0, -1))
	first.Term, first.Vote = 1, 0
	errorIs(t, "the example's Save", save(t, s, first), api.OK)
	hasIs(t, "the example", s, begun(1, 0))
	d.Crash(0)
	d.Start()
	foundIs(t, "the example", d, begun(1, 0))
	fileIs(t, "the example", d, unhex(t, "9d 0000000b 3d7ccd61 01 00 01 00 00 02 00 00 00 00 00  9d 00000003 be6bc67c 02 02 00"))
}

func TestBytesByHand(t *testing.T) { // P11.1, P11.2
	const (
		empty    = "9d 0000000b 3d7ccd61 01 00 01 00 00 02 00 00 00 00 00"
		term2    = "9d 00000003 9f36516c 02 04 01"
		vote6    = "9d 00000003 b7dd8a57 02 02 0c"
		ahead1   = "9d 00000002 77654722 03 02"
		ahead3   = "9d 00000002 7008833b 03 06"
		none1    = "9d 00000003 bae6bace 04 02 00"
		none2    = "9d 00000003 ecbc1d48 04 04 00"
		call2    = "9d 00000012 2989156d 04 04 02 02 06 04 02 6b 00 02 3ff0000000000000"
		changed2 = "9d 00000007 561c1867 04 04 04 02 04 00 00"
	)
	d := made(t, api.MaxDisk)
	s := opened(t, d, begun(0, -1))
	syncedIs(t, "an empty one", d, unhex(t, empty))
	call := api.Entry{Term: 2, Kind: api.ECall, Call: api.Call{Client: 1, Seq: 3, Cmd: api.Cmd{Kind: api.OpPut, Key: "k", Val: number(1)}}}
	three := []api.Entry{none(1), call, change(2, api.Conf{Full: 1, Wit: 2})}
	file := empty
	for _, c := range []struct {
		what string
		h    api.Hard
		more string
	}{
		{"a vote and a term", begun(1, 6), vote6},
		{"the same", begun(1, 6), ""},
		{"a term, and no vote", begun(2, -1), term2},
		{"three entries", begun(2, -1, three...), none1 + call2 + changed2},
		{"the same, with a log", begun(2, -1, three...), ""},
		{"a log that ends earlier", begun(2, -1, three[:2]...), ahead3},
		{"another log from the first on", begun(2, -1, none(2), call), ahead1 + none2 + call2},
		{"no log", begun(2, -1), ahead1},
	} {
		errorIs(t, c.what, save(t, s, c.h), api.OK)
		file += c.more
		syncedIs(t, c.what, d, unhex(t, file))
		hasIs(t, c.what, s, c.h)
		s = foundIs(t, c.what, d, c.h)
		if t.Failed() {
			return
		}
	}
	h := api.Hard{Term: 2, Vote: -1, Base: 3, BaseTerm: 2, BaseConf: api.Conf{Full: 1, Wit: 2}, Snap: []byte("ab")}
	errorIs(t, "a snapshot", save(t, s, h), api.OK)
	syncedIs(t, "a snapshot", d, unhex(t, "9d 0000000d 162f819c 01 04 01 06 04 02 04 00 00 04 61 62 00"))
	foundIs(t, "a snapshot", d, h)
}

func TestBytesOfAnEmptyDisk(t *testing.T) { // P11.1
	for _, first := range []api.Hard{
		begun(0, -1), begun(1, 0), begun(api.MaxTerm, 6), begun(3, 2, none(1), none(3)), begun(2, 1, differing()...),
		{Vote: -1, BaseConf: api.Conf{Full: 1, Wit: 6, Learn: 24, LearnWit: 96}}, based(3, 1, 1), based(3, 70, 2, entries(1, 2, 3, 3)...), based(api.MaxTerm, maxBase, api.MaxTerm, none(api.MaxTerm)),
		{BaseConf: one, Log: []api.Entry{}, Snap: []byte{}},
	} {
		want := whole(first)
		for _, room := range []int{len(want), len(want) + 1, api.MaxDisk} {
			d := made(t, room)
			var s *stable.Store
			writesIs(t, "Open of an empty disk", d, 1, func() (e api.Errno) {
				s, e = open(t, d, first)
				return e
			})
			if s == nil {
				return
			}
			hasIs(t, "an empty disk", s, first)
			syncedIs(t, "an empty disk", d, want)
			foundIs(t, "an empty disk", d, first)
		}
	}
}

// differing are calls of one term that differ in one thing from the first one.
func differing() []api.Entry {
	first := put(1, 1, number(1))
	l := []api.Entry{first}
	for _, f := range []func(x *api.Entry){
		func(x *api.Entry) { x.Call.Client = 1 },
		func(x *api.Entry) { x.Call.Seq = 5 },
		func(x *api.Entry) { x.Call.Cmd.Kind = api.OpMax },
		func(x *api.Entry) { x.Call.Cmd.Key = "j" },
		func(x *api.Entry) { x.Call.Cmd.Key = "kk" },
		func(x *api.Entry) { x.Call.Cmd.Kind = api.OpCas },
		func(x *api.Entry) { x.Call.Cmd.Kind, x.Call.Cmd.Old = api.OpCas, number(1) },
		func(x *api.Entry) { x.Call.Cmd.Kind, x.Call.Cmd.Old = api.OpCas, number(0) },
		func(x *api.Entry) { x.Call.Cmd.Kind, x.Call.Cmd.Old = api.OpCas, number(minus) },
		func(x *api.Entry) { x.Call.Cmd.Kind, x.Call.Cmd.Old = api.OpCas, number(nan) },
		func(x *api.Entry) { x.Call.Cmd.Kind, x.Call.Cmd.Old = api.OpCas, text("") },
		func(x *api.Entry) { x.Call.Cmd.Val = number(0) },
		func(x *api.Entry) { x.Call.Cmd.Val = number(minus) },
		func(x *api.Entry) { x.Call.Cmd.Val = number(nan) },
		func(x *api.Entry) { x.Call.Cmd.Val = number(inf) },
		func(x *api.Entry) { x.Call.Cmd.Val = text("") },
		func(x *api.Entry) { x.Call.Cmd.Val = text("a") },
		func(x *api.Entry) { x.Call.Cmd.Val = text(strings.Repeat("\xff", api.MaxText)) },
		func(x *api.Entry) { *x = none(1) },
		func(x *api.Entry) { *x = change(1, one) },
		func(x *api.Entry) { *x = change(1, api.Conf{Full: 3}) },
		func(x *api.Entry) { *x = change(1, api.Conf{Full: 1, Wit: 2}) },
		func(x *api.Entry) { *x = change(1, api.Conf{Full: 1, Learn: 2}) },
		func(x *api.Entry) { *x = change(1, api.Conf{Full: 1, LearnWit: 2}) },
	} {
		x := first
		f(&x)
		l = append(l, x)
	}
	return l
}

// saved saves to on a disk that has from alone, and holds what is written, what is kept, and what is found.
func saved(t *testing.T, what string, from, to api.Hard, want []byte, writes int) {
	t.Helper()
	d := made(t, api.MaxDisk)
	s := opened(t, d, from)
	writesIs(t, what, d, writes, func() api.Errno { return save(t, s, to) })
	hasIs(t, what, s, to)
	syncedIs(t, what, d, want)
	foundIs(t, what, d, to)
}

// adds asks for what is appended behind from's record 1, and synced.
func adds(t *testing.T, what string, from, to api.Hard, more ...[]byte) {
	t.Helper()
	saved(t, what, from, to, slices.Concat(whole(from), slices.Concat(more...)), 2)
}

func TestTermsAndVotes(t *testing.T) { // P11.2
	for _, from := range []api.Hard{begun(3, 2), begun(3, 2, entries(1, 1, 3)...), based(3, 7, 2), based(3, maxBase, 3, entries(1, 3)...)} {
		for _, c := range []struct{ term, vote int }{
			{4, 2}, {5, 2}, {api.MaxTerm, 2}, {3, -1}, {3, 0}, {3, 3}, {3, 6}, {4, -1}, {4, 0}, {9, 6}, {api.MaxTerm, -1},
		} {
			to := from
			to.Term, to.Vote = c.term, c.vote
			adds(t, fmt.Sprintf("the term %d and the vote %d", c.term, c.vote), from, to, vote(c.term, c.vote))
		}
		saved(t, "the same", from, from, whole(from), 0)
	}
}

func TestEntriesBehindTheLast(t *testing.T) { // P11.2
	for _, from := range []api.Hard{begun(3, 2), begun(3, 2, entries(1, 1, 3)...), based(3, 7, 2), based(3, maxBase, 3, entries(1, 3)...)} {
		for _, l := range [][]api.Entry{{none(3)}, entries(2, 3), {none(3), none(3)}, {change(3, one)}, entries(2, 3, 3, 3, 3, 3, 3, 3, 3, 3)} {
			adds(t, "entries behind the last", from, with(from, from.Log, l), grows(l...))
		}
		to := with(from, from.Log, entries(2, 3, 4, 5))
		to.Term, to.Vote = 5, 4
		adds(t, "entries, a term and a vote", from, to, vote(5, 4), grows(to.Log[len(from.Log):]...))
	}
}

func TestOtherEntries(t *testing.T) { // P11.2
	for _, base := range []int{0, 1, 7, 64, maxBase} {
		h := based(4, base, min(base, 1), entries(1, 1, 2, 2, 3, 3)...)
		if base == 0 {
			h = begun(4, 2, h.Log...)
		}
		for k := range h.Log {
			at := base + k + 1
			other := slices.Clone(h.Log)
			other[k].Call.Cmd.Val = number(7)
			adds(t, "an entry in another one's place", h, with(h, other), cut(at), grows(other[k:]...))
			adds(t, "an entry in another one's place, at the end", h, with(h, other[:k+1]), cut(at), grow(other[k]))
			adds(t, "a log that ends earlier", h, with(h, h.Log[:k]), cut(at))
			l := entries(2, 3, 4, 4)
			adds(t, "a log that goes on otherwise", h, with(h, h.Log[:k], l), cut(at), grows(l...))
			to := with(h, h.Log[:k], l)
			to.Vote = 5
			adds(t, "a log that goes on otherwise, and a vote", h, to, vote(4, 5), cut(at), grows(l...))
			last := slices.Clone(other)
			last[4].Call.Seq++
			adds(t, "two entries in others' places", h, with(h, last), cut(at), grows(last[k:]...))
		}
	}
}

// TestEntriesThatDiffer has entries in others' places from which they differ in one thing alone.
func TestEntriesThatDiffer(t *testing.T) { // P11.2
	l := differing()
	l = append(l, none(2), put(2, 1, number(1)), change(2, one))
	for i, x := range l {
		for k, y := range l {
			from, to := begun(2, 0, none(1), x), begun(2, 0, none(1), y)
			if i == k {
				saved(t, "the same entry", from, to, whole(from), 0)
				adds(t, "an entry behind the same one", from, with(to, to.Log, []api.Entry{none(2)}), grow(none(2)))
				continue
			}
			adds(t, fmt.Sprintf("%+v in the place of %+v", y, x), from, to, cut(2), grow(y))
		}
	}
}

func TestOtherBases(t *testing.T) { // P11.2
	from := based(5, 7, 2, entries(1, 3, 4)...)
	for _, c := range []struct {
		what string
		f    func(h *api.Hard)
	}{
		{"Base", func(h *api.Hard) { h.Base = 8 }},
		{"a great Base", func(h *api.Hard) { h.Base = maxBase }},
		{"BaseTerm above", func(h *api.Hard) { h.BaseTerm = 3 }},
		{"BaseTerm below", func(h *api.Hard) { h.BaseTerm = 1 }},
		{"Full", func(h *api.Hard) { h.BaseConf.Full = 1 }},
		{"Wit", func(h *api.Hard) { h.BaseConf.Wit = 0 }},
		{"Learn", func(h *api.Hard) { h.BaseConf.Learn = 16 }},
		{"LearnWit", func(h *api.Hard) { h.BaseConf.LearnWit = 64 }},
		{"a snapshot's byte", func(h *api.Hard) { h.Snap = []byte("snaq") }},
		{"a longer snapshot", func(h *api.Hard) { h.Snap = []byte("snap\x00") }},
		{"a shorter snapshot", func(h *api.Hard) { h.Snap = []byte("sna") }},
		{"no snapshot", func(h *api.Hard) { h.Snap = nil }},
		{"Base and the log", func(h *api.Hard) { h.Base, h.BaseTerm, h.Log = 8, 3, h.Log[1:] }},
		{"Base, and no log", func(h *api.Hard) { h.Base, h.BaseTerm, h.Log = 9, 4, nil }},
		{"the snapshot and the log", func(h *api.Hard) { h.Snap, h.Log = nil, entries(2, 5, 5) }},
		{"the snapshot and the term", func(h *api.Hard) { h.Snap, h.Term, h.Vote = nil, 6, 0 }},
	} {
		to := copied(from)
		c.f(&to)
		saved(t, c.what, from, to, whole(to), 1)
	}
	conf := begun(5, 2, entries(1, 3)...)
	conf.BaseConf.Full = 3
	saved(t, "BaseConf without a snapshot", begun(5, 2, entries(1, 3)...), conf, whole(conf), 1)
	saved(t, "a first snapshot", begun(5, 2, entries(1, 3)...), based(5, 1, 3), whole(based(5, 1, 3)), 1)
}

// TestPutAnewIsAll puts the file anew behind many records.
func TestPutAnewIsAll(t *testing.T) { // P11.2
	d := made(t, api.MaxDisk)
	s := opened(t, d, begun(0, -1))
	h := begun(1, 0)
	for k := range 20 {
		h = with(h, h.Log, entries(k, 1))
		errorIs(t, "Save", save(t, s, h), api.OK)
	}
	to := based(2, 20, 1)
	errorIs(t, "Save of a snapshot", save(t, s, to), api.OK)
	syncedIs(t, "a snapshot", d, whole(to))
	to = with(to, entries(30, 2))
	errorIs(t, "Save behind it", save(t, s, to), api.OK)
	syncedIs(t, "an entry behind it", d, slices.Concat(whole(based(2, 20, 1)), grow(to.Log[0])))
	foundIs(t, "an entry behind a snapshot", d, to)
}
