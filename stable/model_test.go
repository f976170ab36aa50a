package stable_test

import (
	"bytes"
	"encoding/binary"
	"hash/crc32"
	"math"
	"slices"

	"skerry/api"
	"skerry/logs"
	"skerry/wire"
)

// The chapter told plainly, without packages pack and frame: what stable is held against. (Which bytes are entries and hard states, and which of these are right, others tell: their own tests hold them.)

// ints: the library's varints are those of chapter 2.
func ints(l ...int) []byte {
	var b []byte
	for _, n := range l {
		b = binary.AppendVarint(b, int64(n))
	}
	return b
}

func plainText(s string) []byte { return append(ints(len(s)), s...) }

func plainValue(v api.Value) []byte {
	switch v.Kind {
	case 1:
		return binary.BigEndian.AppendUint64(ints(1), math.Float64bits(v.Num))
	case 2:
		return append(ints(2), plainText(v.Text)...)
	}
	return ints(v.Kind)
}

func plainConf(c api.Conf) []byte { return ints(c.Full, c.Wit, c.Learn, c.LearnWit) }

func plainEntry(x api.Entry) []byte {
	b := ints(x.Term, x.Kind)
	switch x.Kind {
	case 1:
		c := x.Call.Cmd
		return slices.Concat(b, ints(x.Call.Client, x.Call.Seq, c.Kind), plainText(c.Key), plainValue(c.Old), plainValue(c.Val))
	case 2:
		return append(b, plainConf(x.Conf)...)
	}
	return b
}

func plainHard(h api.Hard) []byte {
	b := slices.Concat(ints(h.Term, h.Vote, h.Base, h.BaseTerm), plainConf(h.BaseConf), plainText(string(h.Snap)), ints(len(h.Log)))
	for _, x := range h.Log {
		b = append(b, plainEntry(x)...)
	}
	return b
}

// framed is the frame of these bytes, however many there are.
func framed(payload []byte) []byte {
	length := binary.BigEndian.AppendUint32(nil, uint32(len(payload)))
	sum := crc32.ChecksumIEEE(slices.Concat(length, payload))
	return slices.Concat([]byte{0x9d}, length, binary.BigEndian.AppendUint32(nil, sum), payload)
}

func record(kind byte, body []byte) []byte { return framed(append([]byte{kind}, body...)) }

// The four records, as frames.

func whole(h api.Hard) []byte { return record(1, plainHard(h)) }

func vote(term, vote int) []byte { return record(2, ints(term, vote)) }

func cut(index int) []byte { return record(3, ints(index)) }

func grow(x api.Entry) []byte { return record(4, plainEntry(x)) }

func grows(l ...api.Entry) []byte {
	var b []byte
	for _, x := range l {
		b = append(b, grow(x)...)
	}
	return b
}

// isLong says whether h's record 1 is too long for a frame.
func isLong(h api.Hard) bool { return 1+len(plainHard(h)) > 16384 }

func alikeValues(a, b api.Value) bool {
	return a.Kind == b.Kind && math.Float64bits(a.Num) == math.Float64bits(b.Num) && a.Text == b.Text
}

// alike holds bits, so that no nought and no NaN is taken for another.
func alike(a, b api.Entry) bool {
	x, y := a.Call, b.Call
	return a.Term == b.Term && a.Kind == b.Kind && a.Conf == b.Conf && x.Client == y.Client && x.Seq == y.Seq &&
		x.Cmd.Kind == y.Cmd.Kind && x.Cmd.Key == y.Cmd.Key && alikeValues(x.Cmd.Old, y.Cmd.Old) && alikeValues(x.Cmd.Val, y.Cmd.Val)
}

func alikeBases(a, b api.Hard) bool {
	return a.Base == b.Base && a.BaseTerm == b.BaseTerm && a.BaseConf == b.BaseConf && string(a.Snap) == string(b.Snap)
}

func alikeHards(a, b api.Hard) bool {
	return a.Term == b.Term && a.Vote == b.Vote && alikeBases(a, b) && slices.EqualFunc(a.Log, b.Log, alike)
}

// step is a record that is appended, and what is kept behind it.
type step struct {
	b   []byte
	has api.Hard
}

// steps answers what leads from the one to the other, whose bases are alike.
func steps(from, to api.Hard) []step {
	var l []step
	has := from
	if from.Term != to.Term || from.Vote != to.Vote {
		has.Term, has.Vote = to.Term, to.Vote
		l = append(l, step{vote(to.Term, to.Vote), has})
	}
	k := 0
	for k < len(from.Log) && k < len(to.Log) && alike(from.Log[k], to.Log[k]) {
		k++
	}
	if len(from.Log) > k {
		has.Log = slices.Clone(from.Log[:k])
		l = append(l, step{cut(from.Base + 1 + k), has})
	}
	for ; k < len(to.Log); k++ {
		has.Log = append(slices.Clone(has.Log), to.Log[k])
		l = append(l, step{grow(to.Log[k]), has})
	}
	return l
}

func joined(l []step) []byte {
	var b []byte
	for _, x := range l {
		b = append(b, x.b...)
	}
	return b
}

// model is a disk, all synced, and what its store has.
type model struct {
	room int
	file []byte
	has  api.Hard
}

func (m *model) anew(h api.Hard) api.Errno {
	switch {
	case isLong(h):
		return api.ErrLong
	case len(whole(h)) > m.room:
		return api.ErrFull
	}
	m.file, m.has = whole(h), h
	return api.OK
}

// isAnew says whether the file would be put anew to have h, and not appended to.
func (m *model) isAnew(h api.Hard) bool {
	return !alikeBases(m.has, h) || len(m.file)+len(joined(steps(m.has, h))) > m.room
}

func (m *model) save(h api.Hard) api.Errno {
	if logs.Check(h) != api.OK || h.Term < m.has.Term || h.Base < m.has.Base {
		return api.ErrBad
	}
	if m.isAnew(h) {
		return m.anew(h)
	}
	m.file = slices.Concat(m.file, joined(steps(m.has, h)))
	m.has = h
	return api.OK
}

// scanned answers the payloads of the whole frames at the beginning, and how many bytes these frames have.
func scanned(b []byte) (payloads [][]byte, n int) {
	for {
		left := b[n:]
		if len(left) < 9 || left[0] != 0x9d {
			return payloads, n
		}
		length := int(binary.BigEndian.Uint32(left[1:]))
		if length > 16384 || length > len(left)-9 || !bytes.Equal(framed(left[9:9+length]), left[:9+length]) {
			return payloads, n
		}
		payloads = append(payloads, left[9:9+length])
		n += 9 + length
	}
}

// numbers reads just so many whole numbers.
func numbers(b []byte, count int) ([]int, bool) {
	var l []int
	left := b
	for range count {
		n, size := binary.Varint(left)
		if size <= 0 {
			return nil, false
		}
		l = append(l, int(n))
		left = left[size:]
	}
	return l, bytes.Equal(ints(l...), b)
}

// taken answers what h is behind a record: false, if it may not stand there.
func taken(h api.Hard, isFirst bool, record []byte) (api.Hard, bool) {
	if len(record) == 0 || isFirst != (record[0] == 1) {
		return h, false
	}
	body := record[1:]
	switch record[0] {
	case 1:
		var e api.Errno
		h, e = wire.ReadHard(body)
		return h, e == api.OK && logs.Check(h) == api.OK
	case 2:
		l, ok := numbers(body, 2)
		if !ok || l[0] < h.Term || l[0] > 1099511627776 || l[1] < -1 || l[1] > 6 {
			return h, false
		}
		h.Term, h.Vote = l[0], l[1]
		return h, true
	case 3:
		l, ok := numbers(body, 1)
		if !ok || l[0] <= h.Base || l[0] > h.Base+len(h.Log) {
			return h, false
		}
		h.Log = slices.Clone(h.Log[:l[0]-h.Base-1])
		return h, true
	case 4:
		x, e := wire.ReadEntry(body)
		h.Log = append(slices.Clone(h.Log), x)
		return h, e == api.OK && logs.Check(h) == api.OK
	}
	return h, false
}

// found answers what a file that is not empty says, and how many bytes of it are whole frames: false, if it may not be.
func found(file []byte) (h api.Hard, n int, ok bool) {
	records, n := scanned(file)
	for i, r := range records {
		if h, ok = taken(h, i == 0, r); !ok {
			return api.Hard{}, 0, false
		}
	}
	return h, n, len(records) > 0
}

// dice answers numbers that look like chance, the same ones each time.
type dice uint64

func (x *dice) below(n int) int {
	*x = *x*6364136223846793005 + 1442695040888963407
	return int(uint64(*x)>>33) % n
}
