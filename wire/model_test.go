package wire_test

import (
	"encoding/binary"
	"math"
	"slices"
	"strings"
	"testing"

	"skerry/api"
	"skerry/wire"
)

// The chapter told plainly, without package pack: what wire is held against. A thing is a row of items, each with its bytes.

// What an item is.
const (
	aNumber = iota
	aKind   // a number from 0 to 2
	aCount  // of a list, of a text
	aMark
	aFloat
	aText // behind its count
)

type item struct {
	is int
	b  []byte
}

// plainInt: the library's varints are those of chapter 2.
func plainInt(n int) []byte { return binary.AppendVarint(nil, int64(n)) }

func plainFloat(bits uint64) []byte { return binary.BigEndian.AppendUint64(nil, bits) }

func joined(l []item) []byte {
	var b []byte
	for _, x := range l {
		b = append(b, x.b...)
	}
	return b
}

func ints(l ...int) []item {
	var row []item
	for _, n := range l {
		row = append(row, item{aNumber, plainInt(n)})
	}
	return row
}

func count(n int) item { return item{aCount, plainInt(n)} }

func itemsOfText(s string) []item { return []item{count(len(s)), {aText, []byte(s)}} }

func itemsOfValue(v api.Value) []item {
	row := []item{{aKind, plainInt(v.Kind)}}
	if v.Kind == 1 {
		row = append(row, item{aFloat, plainFloat(math.Float64bits(v.Num))})
	}
	if v.Kind == 2 {
		row = append(row, itemsOfText(v.Text)...)
	}
	return row
}

func itemsOfConf(c api.Conf) []item { return ints(c.Full, c.Wit, c.Learn, c.LearnWit) }

func itemsOfEntry(x api.Entry) []item {
	row := append(ints(x.Term), item{aKind, plainInt(x.Kind)})
	if x.Kind == 1 {
		c := x.Call.Cmd
		row = slices.Concat(row, ints(x.Call.Client, x.Call.Seq, c.Kind), itemsOfText(c.Key), itemsOfValue(c.Old), itemsOfValue(c.Val))
	}
	if x.Kind == 2 {
		row = append(row, itemsOfConf(x.Conf)...)
	}
	return row
}

func itemsOfEntries(l []api.Entry) []item {
	row := []item{count(len(l))}
	for _, x := range l {
		row = append(row, itemsOfEntry(x)...)
	}
	return row
}

func itemsOfHard(h api.Hard) []item {
	return slices.Concat(ints(h.Term, h.Vote, h.Base, h.BaseTerm), itemsOfConf(h.BaseConf), itemsOfText(string(h.Snap)), itemsOfEntries(h.Log))
}

func itemsOfMsg(m api.Msg) []item {
	mark := item{aMark, []byte{0}}
	if m.Yes {
		mark.b = []byte{1}
	}
	row := append(ints(m.Kind, m.From, m.To, m.Term, m.Index, m.LogTerm, m.Commit, m.Round), mark)
	row = slices.Concat(row, itemsOfEntries(m.Entries), itemsOfConf(m.Conf), itemsOfText(string(m.Snap)), []item{count(len(m.Inner))})
	for _, x := range m.Inner {
		row = append(row, itemsOfMsg(x)...)
	}
	return row
}

func plainEntry(x api.Entry) []byte { return joined(itemsOfEntry(x)) }

func plainHard(h api.Hard) []byte { return joined(itemsOfHard(h)) }

func plainMsg(m api.Msg) []byte { return joined(itemsOfMsg(m)) }

// isRightValue says whether v is just what its kind names of it.
func isRightValue(v api.Value) bool {
	isNaN := v.Num != v.Num && math.Float64bits(v.Num) != theNaN
	return alikeValues(v, api.Value{}) || alikeValues(v, number(v.Num)) && !isNaN || alikeValues(v, text(v.Text))
}

func isRightEntry(x api.Entry) bool {
	return alikeEntries(x, none(x.Term)) || alikeEntries(x, change(x.Term, x.Conf)) ||
		alikeEntries(x, api.Entry{Term: x.Term, Kind: api.ECall, Call: x.Call}) && isRightValue(x.Call.Cmd.Old) && isRightValue(x.Call.Cmd.Val)
}

func areRight[T any](l []T, right func(T) bool) bool {
	return !slices.ContainsFunc(l, func(x T) bool { return !right(x) })
}

func isRightHard(h api.Hard) bool { return areRight(h.Log, isRightEntry) }

func isRightMsg(m api.Msg) bool {
	return len(m.Entries) <= 8 && areRight(m.Entries, isRightEntry) && len(m.Inner) <= 16 && areRight(m.Inner, func(x api.Msg) bool { return len(x.Inner) == 0 && isRightMsg(x) })
}

// modelWrite answers what is to be written, or why nothing is.
func modelWrite[T any](x T, right func(T) bool, plain func(T) []byte) ([]byte, api.Errno) {
	if !right(x) {
		return nil, api.ErrPack
	}
	if b := plain(x); len(b) <= 16384 {
		return b, api.OK
	}
	return nil, api.ErrLong
}

// tape is what is left of the bytes, as long as they are right ones.
type tape struct {
	b   []byte
	bad bool
}

func (t *tape) number() int {
	n, size := binary.Varint(t.b)
	if t.bad || size <= 0 || len(plainInt(int(n))) != size {
		t.bad = true
		return 0
	}
	t.b = t.b[size:]
	return int(n)
}

// next answers n bytes, if there are so many.
func (t *tape) next(n int) []byte {
	if t.bad || n < 0 || n > len(t.b) {
		t.bad = true
		return nil
	}
	b := t.b[:n]
	t.b = t.b[n:]
	return slices.Clone(b)
}

func (t *tape) text() []byte { return t.next(t.number()) }

func (t *tape) value() api.Value {
	switch kind := t.number(); kind {
	case 1:
		if b := t.next(8); b != nil {
			return number(math.Float64frombits(binary.BigEndian.Uint64(b)))
		}
	case 2:
		return text(string(t.text()))
	default:
		return api.Value{Kind: kind}
	}
	return api.Value{}
}

func (t *tape) conf() api.Conf {
	var n [4]int
	for i := range n {
		n[i] = t.number()
	}
	return api.Conf{Full: n[0], Wit: n[1], Learn: n[2], LearnWit: n[3]}
}

func (t *tape) entry() api.Entry {
	x := none(t.number())
	x.Kind = t.number()
	if x.Kind == 1 {
		x.Call.Client = t.number()
		x.Call.Seq = t.number()
		x.Call.Cmd.Kind = t.number()
		x.Call.Cmd.Key = string(t.text())
		x.Call.Cmd.Old = t.value()
		x.Call.Cmd.Val = t.value()
	}
	if x.Kind == 2 {
		x.Conf = t.conf()
	}
	return x
}

// list reads elements, as long as the bytes are right.
func list[T any](t *tape, one func() T) []T {
	var l []T
	n := t.number()
	t.bad = t.bad || n < 0
	for i := 0; i < n && !t.bad; i++ {
		l = append(l, one())
	}
	return l
}

func (t *tape) hard() api.Hard {
	var h api.Hard
	for _, n := range []*int{&h.Term, &h.Vote, &h.Base, &h.BaseTerm} {
		*n = t.number()
	}
	h.BaseConf = t.conf()
	h.Snap = t.text()
	h.Log = list(t, t.entry)
	return h
}

func (t *tape) msg() api.Msg {
	var m api.Msg
	for _, n := range []*int{&m.Kind, &m.From, &m.To, &m.Term, &m.Index, &m.LogTerm, &m.Commit, &m.Round} {
		*n = t.number()
	}
	mark := t.next(1)
	t.bad = t.bad || mark[0] > 1
	m.Yes = !t.bad && mark[0] == 1
	m.Entries = list(t, t.entry)
	m.Conf = t.conf()
	m.Snap = t.text()
	m.Inner = list(t, t.msg)
	return m
}

func modelRead[T any](b []byte, one func(*tape) T, right func(T) bool) (T, api.Errno) {
	var zero T
	t := tape{b: b}
	if x := one(&t); len(b) <= 16384 && !t.bad && len(t.b) == 0 && right(x) {
		return x, api.OK
	}
	return zero, api.ErrPack
}

func modelReadEntry(b []byte) (api.Entry, api.Errno) {
	return modelRead(b, (*tape).entry, isRightEntry)
}

func modelReadHard(b []byte) (api.Hard, api.Errno) {
	return modelRead(b, (*tape).hard, isRightHard)
}

func modelReadMsg(b []byte) (api.Msg, api.Errno) {
	return modelRead(b, (*tape).msg, isRightMsg)
}

// like holds a read of b against the model, and that what is read is written in just these bytes.
func like[T any](t *testing.T, k kind[T], b []byte, model func([]byte) (T, api.Errno)) bool {
	t.Helper()
	want, wantE := model(b)
	x, e := k.read(b)
	if e != wantE || !k.alike(x, want) {
		t.Fatalf("%s of %s\nis error %d, %s\nnot error %d, %s", k.name, toldBytes(b), e, k.told(x), wantE, k.told(want))
	}
	if e != api.OK {
		return false
	}
	if again, e := k.write(x); e != api.OK || !slices.Equal(again, b) {
		t.Fatalf("%s of %s\nis written as %s, error %d", k.name, toldBytes(b), toldBytes(again), e)
	}
	return true
}

// each goes through all strings of n of the bytes.
func each(of []byte, n int, do func(b []byte)) {
	if n == 0 {
		do(nil)
		return
	}
	for _, x := range of {
		each(of, n-1, func(b []byte) { do(append(b, x)) })
	}
}

func allBytes() []byte {
	var l []byte
	for i := range 256 {
		l = append(l, byte(i))
	}
	return l
}

// TestShortBytes holds all short strings of bytes, by themselves and behind the beginning of right ones.
func TestShortBytes(t *testing.T) { // P10.1, P10.2
	read := 0
	short := func(of []byte, n int, heads ...string) {
		for _, s := range heads {
			head := hexed(s)
			each(of, n, func(b []byte) {
				whole := slices.Concat(head, b)
				for _, is := range []bool{like(t, entries, whole, modelReadEntry), like(t, hards, whole, modelReadHard), like(t, msgs, whole, modelReadMsg)} {
					if is {
						read++
					}
				}
			})
		}
	}
	for n := range 3 {
		short(allBytes(), n, "", "00 02 00 00 00 00", zeros(8), zeros(14))
	}
	short(allBytes(), 1, "02", "00 02 00 00 00", "00 02 00 00 00 00 00", "00 04 00 00 00", zeros(7), zeros(9), zeros(12), zeros(13), zeros(15), zeros(14)+"02"+zeros(15))
	few := []byte{0, 1, 2, 3, 4, 6, 0x7f, 0x80, 0x81, 0xff}
	short(few, 4, "", "00 02 00 00", "00 02 00 00 00", zeros(7), zeros(8), zeros(9), zeros(12))
	short([]byte{0, 1, 2, 4, 0x80}, 6, "", "00 02", "00 04", zeros(4), zeros(7), zeros(9), zeros(10))
	short([]byte{0, 2}, 14, "", zeros(6))
	if read < 4000 {
		t.Errorf("only %d are read", read)
	}
}

// strewn answers numbers by a fixed rule.
type strewn uint64

func (s *strewn) below(n int) int {
	*s ^= *s << 13
	*s ^= *s >> 7
	*s ^= *s << 17
	return int(uint64(*s) >> 11 % uint64(n))
}

func pick[T any](s *strewn, l []T) T { return l[s.below(len(l))] }

// strewnInt is mostly small, and now and then anything.
func strewnInt(s *strewn) int {
	switch s.below(4) {
	case 0:
		return pick(s, numbers).n
	case 1:
		return (s.below(1<<32)<<32 | s.below(1<<32)) >> s.below(64)
	}
	return s.below(8)
}

func strewnText(s *strewn) string {
	n := s.below(4)
	if s.below(8) == 0 {
		n = s.below(100)
	}
	var b strings.Builder
	for range n {
		b.WriteByte(byte(s.below(256)))
	}
	return b.String()
}

var wrongOnes, wrongOfValues, rightOfValues = wrongEntries(), wrongValues(), rightValues()

// strewnValue is right, but for one of so many.
func strewnValue(s *strewn, wrong int) api.Value {
	if wrong > 0 && s.below(wrong) == 0 {
		return pick(s, wrongOfValues)
	}
	switch s.below(4) {
	case 0:
		return text(strewnText(s))
	case 1:
		return number(float64(s.below(9) - 4))
	}
	return pick(s, rightOfValues)
}

func strewnConf(s *strewn) api.Conf {
	return api.Conf{Full: strewnInt(s), Wit: strewnInt(s), Learn: strewnInt(s), LearnWit: strewnInt(s)}
}

func strewnEntry(s *strewn, wrong int) api.Entry {
	if wrong > 0 && s.below(wrong) == 0 {
		return pick(s, wrongOnes)
	}
	switch s.below(3) {
	case 0:
		return none(strewnInt(s))
	case 1:
		return change(strewnInt(s), strewnConf(s))
	}
	return call(strewnInt(s), strewnInt(s), strewnInt(s), api.Cmd{Kind: strewnInt(s), Key: strewnText(s), Old: strewnValue(s, wrong), Val: strewnValue(s, wrong)})
}

func strewnEntries(s *strewn, most, wrong int) []api.Entry {
	var l []api.Entry
	for range s.below(most + 1) {
		l = append(l, strewnEntry(s, wrong))
	}
	return l
}

func strewnHard(s *strewn, wrong int) api.Hard {
	return api.Hard{Term: strewnInt(s), Vote: strewnInt(s), Base: strewnInt(s), BaseTerm: strewnInt(s), BaseConf: strewnConf(s), Snap: []byte(strewnText(s)), Log: strewnEntries(s, 12, wrong)}
}

func strewnMsg(s *strewn, wrong, inner int) api.Msg {
	m := api.Msg{Kind: strewnInt(s), From: strewnInt(s), To: strewnInt(s), Term: strewnInt(s), Index: strewnInt(s), LogTerm: strewnInt(s), Commit: strewnInt(s), Round: strewnInt(s), Yes: s.below(2) == 0}
	most := api.MaxBatch
	if wrong > 0 && s.below(wrong) == 0 {
		most++
	}
	m.Entries, m.Conf, m.Snap = strewnEntries(s, most, wrong), strewnConf(s), []byte(strewnText(s))
	for range s.below(inner + 1) {
		within := 0
		if wrong > 0 && s.below(wrong) == 0 {
			within = 1
		}
		m.Inner = append(m.Inner, strewnMsg(s, wrong, within))
	}
	return m
}

// other answers b with a few changes.
func other(s *strewn, b []byte) []byte {
	b = slices.Clone(b)
	for range 1 + s.below(3) {
		at := s.below(len(b) + 1)
		end := at + s.below(min(4, len(b)-at+1))
		switch s.below(5) {
		case 0:
			b = slices.Delete(b, at, end)
		case 1:
			b = slices.Insert(b, at, byte(s.below(256)))
		case 2:
			b = slices.Insert(b, at, b[at:end]...)
		case 3:
			if at < len(b) {
				b[at] ^= 1 << s.below(8)
			}
		case 4:
			if at < len(b) {
				b[at] = pick(s, []byte{0, 1, 2, 3, 4, 6, 0x10, 0x7f, 0x80, 0xff})
			}
		}
	}
	return b
}

// strews holds strewn things, right or not, and changes of their bytes, against the model.
func strews[T any](t *testing.T, k kind[T], rows int, one func(s *strewn, wrong int) T, right func(T) bool, plain func(T) []byte, model func([]byte) (T, api.Errno)) {
	t.Helper()
	s := strewn(0x2545f4914f6cdd1d)
	told := map[api.Errno]int{}
	read := 0
	for range rows {
		x := one(&s, pick(&s, []int{0, 0, 10, 40, 200}))
		b, e := modelWrite(x, right, plain)
		k.writes(t, x, b, e)
		told[e]++
		if e == api.OK {
			k.reads(t, b, x, api.OK)
		}
		all := plain(x)
		for range 30 {
			if like(t, k, other(&s, all), model) {
				read++
			}
		}
		if t.Failed() {
			return
		}
	}
	if told[api.OK] < rows/4 || told[api.ErrPack] < rows/50 || read < rows {
		t.Errorf("%s: the errors are %v, and %d changes are read", k.name, told, read)
	}
}

func TestStrewn(t *testing.T) { // P10.1, P10.2
	strews(t, entries, 6000, strewnEntry, isRightEntry, plainEntry, modelReadEntry)
	strews(t, hards, 2000, strewnHard, isRightHard, plainHard, modelReadHard)
	strews(t, msgs, 2000, func(s *strewn, wrong int) api.Msg { return strewnMsg(s, wrong, 4) }, isRightMsg, plainMsg, modelReadMsg)
}

// TestWhatFollows holds P10.2's sentences by themselves: no two things are written alike.
func TestWhatFollows(t *testing.T) { // P10.2
	s := strewn(0x9e3779b97f4a7c15)
	written := map[string]api.Entry{}
	for range 20000 {
		x := strewnEntry(&s, 0)
		b, e := wire.Entry(x)
		if e != api.OK {
			t.Fatalf("error %d, %+v", e, x)
		}
		if y, is := written[string(b)]; is && !alikeEntries(x, y) {
			t.Fatalf("both are %x: %+v, %+v", b, x, y)
		}
		written[string(b)] = x
		if y, e := wire.ReadEntry(b); e != api.OK || !alikeEntries(x, y) {
			t.Fatalf("of %+v is read %+v, error %d", x, y, e)
		}
	}
}

// TestNoPanic hands in whatever bytes there may be.
func TestNoPanic(t *testing.T) { // P10.1
	s := strewn(0xdeadbeefcafef00d)
	for n := range 400 {
		for range 20 {
			b := make([]byte, n)
			for i := range b {
				b[i] = byte(s.below(256))
				if s.below(2) == 0 {
					b[i] = byte(s.below(3))
				}
			}
			like(t, entries, b, modelReadEntry)
			like(t, hards, b, modelReadHard)
			like(t, msgs, b, modelReadMsg)
		}
	}
	for _, n := range []int{api.MaxPayload - 1, api.MaxPayload, api.MaxPayload + 1, 1 << 20} {
		for _, fill := range []byte{0, 1, 2, 0x7f, 0x80, 0xff} {
			b := slices.Repeat([]byte{fill}, n)
			like(t, entries, b, modelReadEntry)
			like(t, hards, b, modelReadHard)
			like(t, msgs, b, modelReadMsg)
		}
	}
}
