package stable_test

import (
	"bytes"
	"fmt"
	"math"
	"slices"
	"strings"
	"testing"

	"skerry/api"
	"skerry/stable"
)

// wrongHards are not right, each for one reason, where the rest of it is.
func wrongHards() []api.Hard {
	l := wrongToRead()
	for _, x := range wrongUnnamed(1) {
		l = append(l, begun(1, 0, x), begun(1, 0, none(1), x, none(1)), based(1, 5, 1, none(1), x))
	}
	h := based(3, 5, 1)
	h.Snap = bytes.Repeat([]byte("s"), api.MaxPayload+1)
	return append(l, h)
}

// wrongToRead are those of them that have bytes which say so.
func wrongToRead() []api.Hard {
	l := []api.Hard{
		{}, {Vote: -1}, begun(-1, 0), begun(math.MinInt, 0), begun(api.MaxTerm+1, 0), begun(math.MaxInt, 0), begun(1, -2), begun(1, 7), begun(1, math.MinInt), begun(1, math.MaxInt),
		begun(1, 0, none(0)), begun(1, 0, none(-1)), begun(1, 0, none(2)), begun(2, 0, none(2), none(1)), begun(1, 0, none(math.MinInt)), begun(1, 0, none(math.MaxInt)),
		{BaseConf: one, Snap: []byte("s")}, {Term: 1, BaseTerm: 1, BaseConf: one},
		based(3, 0, 1), based(3, 5, 0), based(3, -1, 1), based(3, maxBase+1, 1), based(3, math.MinInt, 1), based(3, math.MaxInt, 1), based(3, 5, 4), based(3, 5, -1), based(3, 5, math.MinInt), based(3, 5, 2, none(1)),
	}
	for _, c := range []api.Conf{{}, {Wit: 1}, {Full: 128}, {Full: -1}, {Full: 1, Wit: 1}, {Full: math.MinInt}, {Full: 1, LearnWit: math.MaxInt}} {
		h := based(3, 5, 1)
		h.BaseConf = c
		l = append(l, h)
	}
	for _, x := range wrongEntries(1) {
		l = append(l, begun(1, 0, x), begun(1, 0, none(1), x, none(1)), based(1, 5, 1, none(1), x))
	}
	return l
}

// wrongEntries are not right whatever log they stand in, but have that term, and bytes that say so.
func wrongEntries(term int) []api.Entry {
	var l []api.Entry
	for _, kind := range []int{-1, 3, math.MinInt, math.MaxInt} {
		l = append(l, api.Entry{Term: term, Kind: kind})
	}
	for _, f := range []func(c *api.Call){
		func(c *api.Call) { c.Client = 0 }, func(c *api.Call) { c.Client = api.MaxClients + 1 }, func(c *api.Call) { c.Client = -1 },
		func(c *api.Call) { c.Seq = 0 }, func(c *api.Call) { c.Seq = 1<<40 + 1 }, func(c *api.Call) { c.Seq = math.MinInt },
		func(c *api.Call) { c.Cmd.Kind = 0 }, func(c *api.Call) { c.Cmd.Kind = api.OpMax + 1 }, func(c *api.Call) { c.Cmd.Kind = math.MaxInt }, func(c *api.Call) { c.Cmd.Kind = api.OpGet },
		func(c *api.Call) { c.Cmd.Key = "" }, func(c *api.Call) { c.Cmd.Key = "too long." },
		func(c *api.Call) { c.Cmd.Val = api.Value{} }, func(c *api.Call) { c.Cmd.Old = number(1) }, func(c *api.Call) { c.Cmd.Val = text(strings.Repeat("x", api.MaxText+1)) },
		func(c *api.Call) { c.Cmd.Val = number(math.Float64frombits(0xfff8000000000123)) }, func(c *api.Call) { c.Cmd.Val.Kind = 3 }, func(c *api.Call) { c.Cmd.Val.Kind = -1 },
	} {
		x := put(term, 1, number(1))
		f(&x.Call)
		l = append(l, x)
	}
	for _, c := range []api.Conf{{}, {Wit: 1}, {Full: 128}, {Full: 3, Wit: 1}, {Full: 1, Learn: -1}, {Full: math.MaxInt}} {
		l = append(l, change(term, c))
	}
	return l
}

// wrongUnnamed say what their Kind does not name, so that no bytes say it; the last one has more bytes than may be.
func wrongUnnamed(term int) []api.Entry {
	call := put(1, 1, number(1)).Call
	l := []api.Entry{
		{Term: term, Call: call}, {Term: term, Conf: one}, {Term: term, Kind: api.ECall, Call: call, Conf: one}, {Term: term, Kind: api.EConf, Conf: one, Call: call},
		{Term: term, Kind: api.EConf, Conf: one, Call: api.Call{Seq: 1}},
	}
	for _, v := range []api.Value{{Num: 1}, {Num: minus}, {Num: nan}, {Text: "a"}, {Kind: api.Num, Num: 1, Text: "a"}, {Kind: api.Text, Text: "a", Num: minus}, {Kind: api.Text, Num: 1}, text(strings.Repeat("x", 2*api.MaxPayload))} {
		l = append(l, put(term, 1, v))
	}
	return l
}

// failsToOpen asks for an error, behind which the file is what it was, all of it synced.
func failsToOpen(t *testing.T, what string, room int, file []byte, first api.Hard, want api.Errno) {
	t.Helper()
	d := laid(t, room, file)
	d.Trip(1, 0)
	_, e := open(t, d, first)
	errorIs(t, what, e, want)
	if d.Off() {
		t.Errorf("%s: something is written", what)
	}
	d.Start()
	d.Trip(0, 0)
	syncedIs(t, what, d, file)
}

func TestOpenWithThePowerOff(t *testing.T) { // P11.1, R4
	for _, first := range []api.Hard{begun(1, 0), {}, begun(1, 9)} {
		for _, file := range [][]byte{nil, whole(begun(2, 1)), []byte("no file"), append(whole(begun(2, 1)), 0)} {
			d := laid(t, 200, file)
			d.Crash(0)
			_, e := open(t, d, first)
			errorIs(t, "Open with the power off", e, api.ErrOff)
			if !d.Off() {
				t.Error("Open took the power on")
			}
			d.Start()
			syncedIs(t, "Open with the power off", d, file)
		}
	}
}

func TestOpenOfAWrongFirst(t *testing.T) { // P11.1, R4
	for _, first := range wrongHards() {
		what := "Open with a wrong first: " + told(first)
		failsToOpen(t, what, 0, nil, first, api.ErrBad) // ahead of ErrFull, and of ErrLong
		failsToOpen(t, what, api.MaxDisk, nil, first, api.ErrBad)
		failsToOpen(t, what, api.MaxDisk, whole(begun(2, 1)), first, api.ErrBad)
		failsToOpen(t, what, api.MaxDisk, append(whole(begun(2, 1)), 7), first, api.ErrBad)
	}
}

// sized answers h with a snapshot that makes its record 1 so long.
func sized(t *testing.T, h api.Hard, n int) api.Hard {
	t.Helper()
	h.Snap = bytes.Repeat([]byte("s"), n)
	for range 9 {
		h.Snap = h.Snap[:len(h.Snap)-(1+len(plainHard(h))-n)]
	}
	if 1+len(plainHard(h)) != n {
		t.Fatalf("a record 1 has %d bytes, not %d", 1+len(plainHard(h)), n)
	}
	return h
}

func TestOpenOfALongFirst(t *testing.T) { // P11.1, R4
	const most = 16384
	for _, h := range []api.Hard{based(3, 5, 1), based(3, 5, 1, entries(1, 2, 3)...)} {
		for _, room := range []int{most + 9, most + 10, api.MaxDisk} {
			first := sized(t, h, most)
			d := made(t, room)
			hasIs(t, "a first as long as may be", opened(t, d, first), first)
			syncedIs(t, "a first as long as may be", d, whole(first))
			foundIs(t, "a first as long as may be", d, first)
		}
		for _, room := range []int{0, 100, most + 9, most + 10, api.MaxDisk} { // ahead of ErrFull
			failsToOpen(t, "a first that is too long", room, nil, sized(t, h, most+1), api.ErrLong)
			failsToOpen(t, "a first that is too long", room, nil, sized(t, h, most+2), api.ErrLong)
		}
		failsToOpen(t, "a first that is too long for a small disk", most+8, nil, sized(t, h, most), api.ErrFull)
	}
	many := begun(1, 0, slices.Repeat([]api.Entry{none(1)}, 8200)...)
	failsToOpen(t, "a first with too many entries", api.MaxDisk, nil, many, api.ErrLong)
	d := laid(t, api.MaxDisk, whole(begun(2, 1)))
	hasIs(t, "a long first beside a file", opened(t, d, many), begun(2, 1))
}

func TestOpenOfASmallDisk(t *testing.T) { // P11.1
	for _, first := range []api.Hard{begun(0, -1), based(3, 5, 1, entries(1, 2, 3)...)} {
		n := len(whole(first))
		for _, room := range []int{0, 1, 9, n - 2, n - 1} {
			failsToOpen(t, "a disk that is too small", room, nil, first, api.ErrFull)
		}
		d := made(t, n)
		opened(t, d, first)
		syncedIs(t, "a disk that is just great enough", d, whole(first))
	}
}

func TestOpenOfAnEmptyDiskWhosePowerGoes(t *testing.T) { // P11.1
	for _, keep := range []int{-1, 0, 1, 1000} {
		d := made(t, 1000)
		d.Trip(1, keep)
		_, e := open(t, d, begun(1, 0))
		errorIs(t, "the power goes", e, api.ErrOff)
		d.Start()
		fileIs(t, "the power went", d, nil)
		hasIs(t, "the next Open", opened(t, d, begun(2, 1)), begun(2, 1))
	}
}

// isNone asks for ErrBad, whatever stands behind the file.
func isNone(t *testing.T, what string, file []byte) {
	t.Helper()
	first := begun(9, 3)
	for _, tail := range [][]byte{nil, {0}, whole(begun(2, 1))[:12]} {
		failsToOpen(t, what, api.MaxDisk, slices.Concat(file, tail), first, api.ErrBad)
	}
}

// is asks for what a file of whole frames alone says: nothing is written.
func is(t *testing.T, what string, file []byte, want api.Hard) {
	t.Helper()
	d := laid(t, api.MaxDisk, file)
	foundIs(t, what, d, want)
	syncedIs(t, what, d, file)
}

func TestFilesWithoutAFrame(t *testing.T) { // P11.1
	right := whole(begun(2, 1, none(1)))
	spoilt := func(at int) []byte {
		b := bytes.Clone(right)
		b[at] ^= 1
		return b
	}
	for k := range right {
		isNone(t, fmt.Sprintf("byte %d spoilt", k), spoilt(k))
		isNone(t, fmt.Sprintf("byte %d spoilt, and a whole one", k), append(spoilt(k), right...))
		isNone(t, fmt.Sprintf("a frame from byte %d on", k+1), append(right[k+1:], 1))
		if k > 0 {
			failsToOpen(t, fmt.Sprintf("%d bytes of a frame", k), 1000, right[:k], begun(9, 3), api.ErrBad)
		}
	}
	long := record(1, plainHard(sized(t, based(3, 5, 1), 16385)))
	isNone(t, "a record 1 that is too long", long)
	isNone(t, "noughts", make([]byte, 50))
	isNone(t, "a byte ahead", append([]byte{0}, right...))
	isNone(t, "a hard state without a frame", plainHard(begun(2, 1)))
	failsToOpen(t, "a full disk of noughts", api.MaxDisk, make([]byte, api.MaxDisk), begun(9, 3), api.ErrBad)
}

func TestFirstRecordsThatAreNone(t *testing.T) { // P11.1
	right := plainHard(begun(2, 1, none(1)))
	for kind := range 256 {
		if kind == 1 {
			continue
		}
		isNone(t, "a first record that is none of 1", record(byte(kind), right))
		isNone(t, "a first record that is none of 1", append(record(byte(kind), right), record(1, right)...))
		isNone(t, "a first record without what follows", record(byte(kind), nil))
	}
	isNone(t, "an empty payload", framed(nil))
	isNone(t, "an empty payload ahead", append(framed(nil), record(1, right)...))
	isNone(t, "a record 2 ahead", append(vote(1, 1), record(1, right)...))
	isNone(t, "a record 3 ahead", cut(1))
	isNone(t, "a record 4 ahead", append(grow(none(1)), record(1, right)...))
	isNone(t, "a record 1 without what follows", record(1, nil))
	for k := range right {
		isNone(t, fmt.Sprintf("%d bytes of a hard state", k), record(1, right[:k]))
	}
	for _, more := range []string{"\x00", "\x01", "\x02\x00"} {
		isNone(t, "a hard state, and a byte more", record(1, append(bytes.Clone(right), more...)))
	}
	is(t, "a right one", record(1, right), begun(2, 1, none(1)))
	for _, h := range wrongToRead() {
		isNone(t, "a record 1 that is not right: "+told(h), whole(h))
		isNone(t, "a record 1 that is not right, and more: "+told(h), append(whole(h), vote(3, 3)...))
	}
}

func TestLaterRecordsThatAreNone(t *testing.T) { // P11.1
	first := whole(begun(2, 1, none(1), none(2)))
	for _, file := range [][]byte{first, append(bytes.Clone(first), vote(3, 1)...), slices.Concat(first, cut(2), grow(none(2)))} {
		behind := func(more ...[]byte) []byte { return slices.Concat(file, slices.Concat(more...)) }
		isNone(t, "an empty payload", behind(framed(nil)))
		isNone(t, "an empty payload, and more", behind(framed(nil), vote(4, 1)))
		isNone(t, "a second record 1", behind(first))
		isNone(t, "a second record 1 of the same", behind(whole(begun(3, 1, none(1), none(2))), vote(4, 1)))
		for kind := range 256 {
			if kind < 1 || kind > 4 {
				isNone(t, "a record of another number", behind(record(byte(kind), ints(3, 2))))
				isNone(t, "a record of another number", behind(record(byte(kind), nil), vote(4, 1)))
			}
		}
		for _, r := range [][]byte{append([]byte{2}, ints(300, 5)...), append([]byte{3}, ints(2)...), append([]byte{4}, plainEntry(none(300))...), append([]byte{4}, plainEntry(put(3, 300, text("abc")))...), append([]byte{4}, plainEntry(change(3, api.Conf{Full: 1, Wit: 64}))...)} {
			ahead := behind(vote(300, 0))
			if _, _, ok := found(append(bytes.Clone(ahead), framed(r)...)); !ok {
				t.Fatalf("%x is none itself", r)
			}
			for k := range r {
				isNone(t, fmt.Sprintf("%d bytes of %x", k, r), append(bytes.Clone(ahead), framed(r[:k])...))
			}
			for more := range 256 {
				isNone(t, fmt.Sprintf("%x and a byte more", r), append(bytes.Clone(ahead), framed(append(bytes.Clone(r), byte(more)))...))
			}
		}
		isNone(t, "numbers in too many bytes", behind(framed([]byte{2, 0x8a, 0, 0})))
		isNone(t, "numbers in too many bytes", behind(framed([]byte{2, 10, 0x80, 0})))
		isNone(t, "numbers in too many bytes", behind(framed([]byte{3, 0x84, 0})))
		isNone(t, "numbers beyond 64 bits", behind(framed(append([]byte{2, 0xff, 0xff, 0xff, 0xff, 0xff, 0xff, 0xff, 0xff, 0xff, 2}, 0))))
	}
}

func TestRecordsOfTermsAndVotes(t *testing.T) { // P11.1
	for _, h := range []api.Hard{begun(5, 2), begun(5, 2, none(1), none(5)), based(5, 7, 3, none(4))} {
		for _, c := range []struct {
			term, vote int
			ok         bool
		}{
			{4, 2, false}, {0, 2, false}, {-1, 2, false}, {math.MinInt, 2, false}, {5, 2, true}, {6, 2, true}, {api.MaxTerm, 2, true}, {api.MaxTerm + 1, 2, false}, {math.MaxInt, 2, false},
			{5, -2, false}, {5, -1, true}, {5, 0, true}, {5, 6, true}, {5, 7, false}, {5, math.MinInt, false}, {5, math.MaxInt, false}, {4, -1, false}, {6, -2, false}, {6, 7, false}, {6, -1, true}, {9, 6, true},
		} {
			what := fmt.Sprintf("a record 2 of %d and %d", c.term, c.vote)
			file := append(whole(h), vote(c.term, c.vote)...)
			if !c.ok {
				isNone(t, what, file)
				isNone(t, what+", and another", append(file, vote(7, 3)...))
				continue
			}
			want := h
			want.Term, want.Vote = c.term, c.vote
			is(t, what, file, want)
			is(t, what+", twice", append(bytes.Clone(file), vote(c.term, c.vote)...), want)
			want.Vote = 3
			is(t, what+", and another vote", append(bytes.Clone(file), vote(c.term, 3)...), want)
			isNone(t, what+", and the term below", append(bytes.Clone(file), vote(c.term-1, 3)...))
		}
	}
	high := slices.Concat(whole(begun(5, 2)), vote(7, 1))
	is(t, "an entry of a term that came by a record 2", append(bytes.Clone(high), grow(none(7))...), begun(7, 1, none(7)))
	isNone(t, "an entry of a term above it", append(bytes.Clone(high), grow(none(8))...))
	isNone(t, "a term ahead of the record 2 that brings it", slices.Concat(whole(begun(5, 2)), grow(none(7)), vote(7, 1)))
}

func TestRecordsOfEnds(t *testing.T) { // P11.1
	for _, base := range []int{0, 1, 7, 63, 64, maxBase} {
		for n := range 5 {
			l := entries(1, 1, 2, 2, 3)[:n]
			h := based(3, base, min(base, 1), l...)
			if base == 0 {
				h = begun(3, 2, l...)
			}
			for _, index := range []int{math.MinInt, -1, 0, 1, base - 1, base, base + 1, base + 2, base + n - 1, base + n, base + n + 1, base + n + 2, math.MaxInt} {
				what := fmt.Sprintf("a record 3 of %d, behind %s", index, told(h))
				file := append(whole(h), cut(index)...)
				if index <= base || index > base+n {
					isNone(t, what, file)
					isNone(t, what+", and an entry", append(file, grow(none(3))...))
					continue
				}
				want := with(h, l[:index-base-1])
				is(t, what, file, want)
				isNone(t, what+", twice", append(bytes.Clone(file), cut(index)...))
				is(t, what+", and an entry", append(bytes.Clone(file), grow(none(3))...), with(want, want.Log, []api.Entry{none(3)}))
				is(t, what+", and that one taken away", slices.Concat(file, grow(none(3)), cut(index)), want)
				if index > base+1 {
					is(t, what+", and the first", append(bytes.Clone(file), cut(base+1)...), with(h))
				}
			}
		}
	}
}

func TestRecordsOfEntries(t *testing.T) { // P11.1
	for _, h := range []api.Hard{begun(4, 2), begun(4, 2, none(1), none(2)), based(4, 7, 2), based(4, 7, 2, none(3)), based(4, maxBase, 4), based(4, maxBase, 1, none(1), none(4))} {
		least := max(h.BaseTerm, 1)
		if n := len(h.Log); n > 0 {
			least = h.Log[n-1].Term
		}
		for _, term := range []int{math.MinInt, -1, 0, 1, 2, 3, 4, 5, api.MaxTerm, math.MaxInt} {
			for _, x := range []api.Entry{none(term), put(term, 1, text("a")), change(term, api.Conf{Full: 1, Wit: 64})} {
				what := fmt.Sprintf("a record 4 of %+v, behind %s", x, told(h))
				file := append(whole(h), grow(x)...)
				if term < least || term > 4 {
					isNone(t, what, file)
					isNone(t, what+", and another", append(file, grow(none(4))...))
					continue
				}
				want := with(h, h.Log, []api.Entry{x})
				is(t, what, file, want)
				is(t, what+", twice", append(bytes.Clone(file), grow(x)...), with(want, want.Log, []api.Entry{x}))
				is(t, what+", and another", append(bytes.Clone(file), grow(none(4))...), with(want, want.Log, []api.Entry{none(4)}))
				if term > least {
					isNone(t, what+", and one of a term below", append(bytes.Clone(file), grow(none(term-1))...))
				}
			}
		}
		for _, x := range wrongEntries(4) {
			isNone(t, fmt.Sprintf("a record 4 of %+v", x), append(whole(h), grow(x)...))
			isNone(t, fmt.Sprintf("a record 4 of %+v, and another", x), slices.Concat(whole(h), grow(x), grow(none(4))))
		}
	}
	for _, x := range differing() {
		is(t, fmt.Sprintf("%+v", x), append(whole(begun(2, 2)), grow(x)...), begun(2, 2, x))
	}
}

// TestRowsOfRecords takes all rows of up to four records, behind two hard states.
func TestRowsOfRecords(t *testing.T) { // P11.1
	firsts := []api.Hard{begun(2, 0, none(1), put(2, 1, number(1))), based(2, 1, 1, none(1))}
	records := [][]byte{vote(2, -1), vote(3, 0), vote(1, 0), cut(1), cut(2), cut(3), grow(none(1)), grow(none(2)), grow(put(3, 2, text("x"))), whole(firsts[0]), {}}
	rows := [][]byte{nil}
	for from, long := 0, 0; long < 4; long++ {
		to := len(rows)
		for ; from < to; from++ {
			for _, r := range records[:len(records)-1] {
				rows = append(rows, append(bytes.Clone(rows[from]), r...))
			}
		}
	}
	right := 0
	for _, first := range firsts {
		for _, row := range rows {
			file := append(whole(first), row...)
			if holdsModel(t, file) {
				right++
			}
			if t.Failed() {
				t.Fatalf("the file %x", file)
			}
		}
	}
	if right < 100 {
		t.Errorf("only %d right files", right)
	}
}

// holdsModel opens a file that is not empty, and holds what there is then against the chapter told plainly.
func holdsModel(t *testing.T, file []byte) bool {
	t.Helper()
	want, n, ok := found(file)
	d := laid(t, api.MaxDisk, file)
	writes := 0
	if ok && n < len(file) {
		writes = 1
	}
	d.Trip(writes+1, 0)
	s, e := stable.Open(d, begun(9, 3))
	if d.Off() || d.Sync() != api.ErrOff {
		t.Errorf("Open does not do %d writes", writes)
	}
	d.Start()
	switch {
	case !ok && (e != api.ErrBad || s != nil):
		t.Errorf("a store %v, error %d, not ErrBad", s != nil, e)
	case ok && (e != api.OK || s == nil):
		t.Errorf("a store %v, error %d", s != nil, e)
	case ok:
		if h := s.Hard(); !alikeHards(h, want) {
			t.Errorf("it has %s\nnot %s", told(h), told(want))
		}
		file = file[:n]
	}
	if b, _ := d.Read(); !bytes.Equal(b, file) {
		t.Errorf("the file is %d bytes, not %d", len(b), len(file))
	}
	return ok
}

func TestWhatStandsBehind(t *testing.T) { // P11.1
	first := begun(2, 1, none(1), none(2))
	next := first
	next.Term, next.Vote = 5, 0
	for _, c := range []struct {
		file []byte
		has  api.Hard
	}{
		{whole(first), first}, {append(whole(first), vote(5, 0)...), next}, {slices.Concat(whole(first), cut(2), grow(none(2))), first},
		{append(whole(first), cut(1)...), with(first)}, {whole(sized(t, based(3, 5, 1), 16384)), sized(t, based(3, 5, 1), 16384)},
	} {
		spoilt := vote(7, 2)
		spoilt[9]++
		var tails [][]byte
		for k := 1; k < len(vote(7, 2)); k++ {
			tails = append(tails, vote(7, 2)[:k])
		}
		tails = append(tails, spoilt, append(bytes.Clone(spoilt), vote(7, 2)...), append([]byte{0}, vote(7, 2)...), whole(first)[1:], make([]byte, 100), record(1, make([]byte, 16384)), []byte{0x9d}, []byte{0x9d, 0xff, 0xff, 0xff, 0xff, 0, 0, 0, 0, 0}, append(vote(7, 2)[:11], vote(7, 2)...), make([]byte, api.MaxDisk-len(c.file)))
		for b := range 256 {
			tails = append(tails, []byte{byte(b)})
		}
		for _, tail := range tails {
			what := fmt.Sprintf("%d bytes %x behind %s", len(tail), tail[:min(len(tail), 20)], told(c.has))
			file := slices.Concat(c.file, tail)
			d := laid(t, len(file), file)
			d.Trip(1, 5)
			_, e := open(t, d, begun(9, 3))
			errorIs(t, what+", and the power goes", e, api.ErrOff)
			d.Start()
			syncedIs(t, what+", and the power went", d, file)

			var s *stable.Store
			writesIs(t, what, d, 1, func() (e api.Errno) {
				s, e = open(t, d, begun(9, 3))
				return e
			})
			if s == nil {
				return
			}
			hasIs(t, what, s, c.has)
			syncedIs(t, what, d, c.file)
			s = foundIs(t, what, d, c.has)
			to := c.has
			to.Term = 9
			if len(c.file)+20 > len(file) {
				continue
			}
			errorIs(t, what+", and Save", save(t, s, to), api.OK)
			syncedIs(t, what+", and Save", d, append(bytes.Clone(c.file), vote(9, to.Vote)...))
			foundIs(t, what+", and Save", d, to)
		}
	}
}

// TestWhatIsNotSynced has a file of which only a beginning is synced: all of it counts.
func TestWhatIsNotSynced(t *testing.T) { // P11.1
	first := begun(2, 1)
	file := append(whole(first), vote(5, 0)...)
	for n := range len(file) + 1 {
		d := laid(t, 100, file[:n])
		if e := d.Append(file[n:]); e != api.OK {
			t.Fatal(e)
		}
		s := opened(t, d, begun(9, 3))
		hasIs(t, "a file that is not synced", s, begun(5, 0))
		errorIs(t, "Save", save(t, s, begun(6, 0)), api.OK)
		syncedIs(t, "a file that is synced by Save", d, append(bytes.Clone(file), vote(6, 0)...))
	}
}

// TestFullDisksOpen has as many records as a disk holds.
func TestFullDisksOpen(t *testing.T) { // P11.1
	h := begun(3, 2, slices.Repeat([]api.Entry{none(1)}, 8000)...)
	file := whole(h)
	for len(file)+len(cut(1<<20))+len(grow(none(2))) <= api.MaxDisk {
		at := len(h.Log)
		file = append(file, cut(at)...)
		file = append(file, grow(none(2))...)
		h.Log[at-1] = none(2)
		if at > 7000 {
			file = append(file, cut(at)...)
			h.Log = h.Log[:at-1]
		}
	}
	is(t, "a disk full of records", file, h)
}
