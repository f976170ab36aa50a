package frame_test

import (
	"bytes"
	"encoding/binary"
	"hash/crc32"
	"testing"

	"skerry/api"
	"skerry/frame"
)

const headBytes = 9

// strewn answers n bytes that hang on seed alone.
func strewn(seed uint64, n int) []byte {
	x := seed*2685821657736338717 + 88172645463325252
	b := make([]byte, n)
	for i := range b {
		x ^= x << 13
		x ^= x >> 7
		x ^= x << 17
		b[i] = byte(x >> 32)
	}
	return b
}

// bitSum is the chapter's sum, word by word.
func bitSum(b []byte) uint32 {
	r := uint32(0xffffffff)
	for _, x := range b {
		for i := range 8 {
			one := (r^uint32(x>>i))&1 == 1
			r >>= 1
			if one {
				r ^= 0xedb88320
			}
		}
	}
	return ^r
}

// laid makes a frame that says what it is told, right or wrong.
func laid(first byte, length, sum uint32, payload []byte) []byte {
	b := binary.BigEndian.AppendUint32([]byte{first}, length)
	b = binary.BigEndian.AppendUint32(b, sum)
	return append(b, payload...)
}

// rightSum is what a frame of that length must say.
func rightSum(length uint32, payload []byte) uint32 {
	return bitSum(append(binary.BigEndian.AppendUint32(nil, length), payload...))
}

// laidRight makes a frame whose sum is right, of any length.
func laidRight(payload []byte) []byte {
	length := uint32(len(payload))
	return laid(0x9d, length, rightSum(length, payload), payload)
}

func sealed(t *testing.T, payload []byte) []byte {
	t.Helper()
	b, e := frame.Seal(payload)
	if e != api.OK {
		t.Fatalf("Seal of %d bytes: error %d", len(payload), e)
	}
	return b
}

func holdFirst(t *testing.T, what string, b, want []byte) {
	t.Helper()
	payload, n, e := frame.First(b)
	if e != api.OK || n != headBytes+len(want) || !bytes.Equal(payload, want) {
		t.Errorf("First of %s: %d bytes, %d, error %d, not %d bytes, %d", what, len(payload), n, e, len(want), headBytes+len(want))
	}
}

// holdNone asks for a beginning that is no frame.
func holdNone(t *testing.T, what string, b []byte) {
	t.Helper()
	payload, n, e := frame.First(b)
	if e != api.ErrPack || n != 0 || len(payload) != 0 {
		t.Errorf("First of %s: % x, %d, error %d, not ErrPack alone", what, payload, n, e)
	}
	holdScan(t, what, b, nil, 0)
}

func holdScan(t *testing.T, what string, b []byte, want [][]byte, size int) {
	t.Helper()
	payloads, n := frame.Scan(b)
	if n != size || len(payloads) != len(want) {
		t.Errorf("Scan of %s: %d payloads, %d bytes, not %d, %d", what, len(payloads), n, len(want), size)
		return
	}
	for i := range want {
		if !bytes.Equal(payloads[i], want[i]) {
			t.Errorf("Scan of %s: payload %d is % x, not % x", what, i, payloads[i], want[i])
		}
	}
}

func sizes() []int {
	return []int{0, 1, 2, 3, 4, 8, 9, 31, 255, 256, 257, 4095, 4096, api.MaxPayload - 1, api.MaxPayload}
}

func TestSumsThatAreKnown(t *testing.T) { // P3.1
	cases := []struct {
		text string
		sum  uint32
	}{
		{"123456789", 0xcbf43926}, {"", 0}, {"a", 0xe8b7be43}, {"abc", 0x352441c2}, {"\x00", 0xd202ef8d}, {"\xff", 0xff000000},
		{"\x00\x00\x00\x00", 0x2144df1c}, {"\xff\xff\xff\xff", 0xffffffff}, {"The quick brown fox jumps over the lazy dog", 0x414fa339},
	}
	for _, c := range cases {
		if got := frame.Sum([]byte(c.text)); got != c.sum {
			t.Errorf("Sum(%q) = %08x, not %08x", c.text, got, c.sum)
		}
	}
	if got := frame.Sum(nil); got != 0 {
		t.Errorf("Sum(nil) = %08x", got)
	}
}

func TestSumsOfAllBytes(t *testing.T) { // P3.1
	for a := range 256 {
		for b := range 256 {
			two := []byte{byte(a), byte(b)}
			if got := frame.Sum(two); got != bitSum(two) {
				t.Fatalf("Sum(% x) = %08x, not %08x", two, got, bitSum(two))
			}
		}
	}
	for n := range 1200 {
		b := strewn(uint64(n), n)
		if got := frame.Sum(b); got != bitSum(b) || got != crc32.ChecksumIEEE(b) {
			t.Fatalf("Sum of %d strewn bytes: %08x, not %08x", n, got, bitSum(b))
		}
	}
	long := strewn(1, 3*api.MaxPayload) // a sum has no limit
	if got := frame.Sum(long); got != crc32.ChecksumIEEE(long) {
		t.Errorf("Sum of %d bytes: %08x", len(long), got)
	}
}

func TestFramesByteByByte(t *testing.T) { // P3.1
	cases := []struct{ payload, frame string }{
		{"", "\x9d\x00\x00\x00\x00\x21\x44\xdf\x1c"},
		{"\x00", "\x9d\x00\x00\x00\x01\xdf\x39\xc6\x5c\x00"},
		{"\x9d", "\x9d\x00\x00\x00\x01\x51\x87\x29\xa5\x9d"},
		{"123456789", "\x9d\x00\x00\x00\x09\xde\x9c\x40\xc0123456789"},
	}
	for _, c := range cases {
		if got := sealed(t, []byte(c.payload)); string(got) != c.frame {
			t.Errorf("Seal(%q) = %q, not %q", c.payload, got, c.frame)
		}
		holdFirst(t, "the frame of "+c.payload, []byte(c.frame), []byte(c.payload))
	}
	if got := sealed(t, nil); string(got) != cases[0].frame {
		t.Errorf("Seal(nil) = %q", got)
	}
}

func TestFramesOfAllSizes(t *testing.T) { // P3.1
	for _, n := range sizes() {
		payload := strewn(uint64(n), n)
		b := sealed(t, payload)
		if !bytes.Equal(b, laidRight(payload)) {
			t.Errorf("Seal of %d bytes: % x ..", n, b[:headBytes])
		}
		holdFirst(t, "a sealed payload", b, payload)
		holdScan(t, "a sealed payload", b, [][]byte{payload}, headBytes+n)
	}
}

func TestPayloadsThatAreTooLong(t *testing.T) { // P3.1
	for _, n := range []int{api.MaxPayload + 1, api.MaxPayload + 2, 1 << 16, 1 << 20} {
		payload := strewn(7, n)
		if b, e := frame.Seal(payload); e != api.ErrLong || len(b) != 0 {
			t.Errorf("Seal of %d bytes: %d bytes, error %d, not ErrLong alone", n, len(b), e)
		}
		holdNone(t, "a frame, whole and right, that is too long", laidRight(payload))
	}
}

func TestOtherFirstBytes(t *testing.T) { // P3.1
	payload := []byte("payload")
	b := sealed(t, payload)
	for first := range 256 {
		if b[0] = byte(first); first == 0x9d {
			holdFirst(t, "the right first byte", b, payload)
		} else {
			holdNone(t, "another first byte", b)
		}
	}
	holdNone(t, "a frame behind a byte", append([]byte{0x9d}, sealed(t, payload)...))
}

func TestTooFewBytes(t *testing.T) { // P3.1, P3.3
	holdNone(t, "nothing", nil)
	for _, n := range sizes() {
		payload := strewn(5, n)
		b := sealed(t, payload)
		for cut := range b {
			if got, size, e := frame.First(b[:cut]); e != api.ErrPack || size != 0 || len(got) != 0 {
				t.Fatalf("First of %d bytes of a frame of %d: %d bytes, %d, error %d", cut, len(b), len(got), size, e)
			}
		}
	}
}

func TestBytesBehindTheListAreNotRead(t *testing.T) { // P3.1, R6
	b := sealed(t, []byte("payload"))
	for cut := range b {
		holdNone(t, "a frame whose end is spare room", b[:cut])
	}
}

func TestNumbersOfBytesThatAreWrong(t *testing.T) { // P3.1
	payload := strewn(3, 40)
	lengths := []uint32{
		41, 42, 49, 40 + 9, 256 + 40, 40 << 8, 40 << 24, api.MaxPayload, api.MaxPayload + 1, api.MaxPayload + 40, 1<<16 + 40, 1<<31 - 1, 1 << 31, 1<<31 + 40,
		1<<32 - 1, 1<<32 - 9, 1<<32 - 8, 1<<32 - 40,
	}
	for _, length := range lengths {
		holdNone(t, "a number beyond what is there", laid(0x9d, length, rightSum(length, payload), payload))
	}
	for length := range uint32(40) {
		holdNone(t, "a number that is too small", laid(0x9d, length, rightSum(40, payload), payload))
		holdNone(t, "a number that is too small, its sum of all", laid(0x9d, length, rightSum(length, payload), payload))
		holdFirst(t, "a shorter frame", laid(0x9d, length, rightSum(length, payload[:length]), payload), payload[:length])
	}
}

func TestSumsThatAreWrong(t *testing.T) { // P3.1
	payload := strewn(4, 12)
	right := rightSum(12, payload)
	for bit := range 32 {
		holdNone(t, "a sum with one bit turned", laid(0x9d, 12, right^1<<bit, payload))
	}
	swapped := right<<24 | right>>24 | right<<8&0xff0000 | right>>8&0xff00
	for _, sum := range []uint32{0, ^right, right + 1, swapped, bitSum(payload), bitSum(laid(0x9d, 12, 0, payload)), bitSum(append([]byte{0x9d, 0, 0, 0, 12}, payload...))} {
		holdNone(t, "another sum", laid(0x9d, 12, sum, payload))
	}
}

func TestWhateverStandsBehind(t *testing.T) { // P3.1, P3.2, P3.3
	whole := sealed(t, []byte("behind"))
	wrong := bytes.Clone(whole)
	wrong[len(wrong)-1] ^= 1
	behinds := [][]byte{
		nil, {0}, {0x9d}, {0x9d, 0x9d}, {0xff}, strewn(1, 100), whole[:5], whole[:9], whole[:len(whole)-1], whole[1:], wrong,
		laidRight(strewn(2, api.MaxPayload+1)), laid(0x9d, 1<<32-9, 0, nil), append([]byte{0}, whole...), append(bytes.Clone(wrong), whole...),
	}
	for _, n := range sizes() {
		payload := strewn(uint64(n), n)
		b := sealed(t, payload)
		for _, behind := range behinds {
			holdFirst(t, "a frame with more behind it", append(bytes.Clone(b), behind...), payload)
			holdScan(t, "a frame with no frame behind it", append(bytes.Clone(b), behind...), [][]byte{payload}, len(b))
		}
		both := append(bytes.Clone(b), whole...)
		holdFirst(t, "two frames", both, payload)
		holdScan(t, "two frames", both, [][]byte{payload, []byte("behind")}, len(both))
	}
}

func TestScanOfNothing(t *testing.T) { // P3.2
	holdScan(t, "nil", nil, nil, 0)
	holdScan(t, "no bytes", []byte{}, nil, 0)
	holdNone(t, "noise", strewn(9, 300))
}

func TestScanStopsWhereNoFrameStands(t *testing.T) { // P3.2
	a, b, c := []byte("first"), []byte{}, []byte("third")
	whole := append(append(sealed(t, a), sealed(t, b)...), sealed(t, c)...)
	holdScan(t, "three frames", whole, [][]byte{a, b, c}, len(whole))
	ends := []int{0, headBytes + len(a), 2*headBytes + len(a), len(whole)}
	all := [][]byte{a, b, c}
	for at := range whole {
		before := 0 // frames that end ahead of what is changed
		for ends[before+1] <= at {
			before++
		}
		for _, change := range []byte{1, 0x80, 0xff} {
			told := bytes.Clone(whole)
			told[at] ^= change
			holdScan(t, "three frames, one of them changed", told, all[:before], ends[before])
		}
	}
}

func TestCutsOfManyFrames(t *testing.T) { // P3.2, P3.3
	var whole []byte
	var all [][]byte
	ends := []int{0}
	for i, n := range []int{3, 0, 0, 1, 300, 9, 0, 64, 2, 0} {
		all = append(all, strewn(uint64(i), n))
		whole = append(whole, sealed(t, all[i])...)
		ends = append(ends, len(whole))
	}
	for cut := range len(whole) + 1 {
		k := 0
		for k < len(all) && ends[k+1] <= cut {
			k++
		}
		holdScan(t, "frames that are cut off", whole[:cut], all[:k], ends[k])
		behind := append(bytes.Clone(whole[:cut]), 0x9d, 0xff, 0xff, 0xff, 0xff) // bytes that end no frame
		if ends[k] == cut {
			holdScan(t, "frames and noise", behind, all[:k], ends[k])
		}
	}
}

func TestManyFramesOfNoBytes(t *testing.T) { // P3.2
	const n = 5000
	none := sealed(t, nil)
	payloads, size := frame.Scan(bytes.Repeat(none, n))
	if len(payloads) != n || size != n*headBytes {
		t.Errorf("Scan of %d frames: %d, %d bytes", n, len(payloads), size)
	}
	for _, p := range payloads {
		if len(p) != 0 {
			t.Fatalf("a payload of no bytes: % x", p)
		}
	}
}

func TestFramesWithinPayloads(t *testing.T) { // P3.2, P3.3
	inner := sealed(t, []byte("inner"))
	outer := sealed(t, append(bytes.Clone(inner), inner...))
	holdFirst(t, "frames within a frame", outer, append(bytes.Clone(inner), inner...))
	holdScan(t, "frames within a frame", outer, [][]byte{append(bytes.Clone(inner), inner...)}, len(outer))
}

// turned answers b with the bits of pattern turned, from that bit on, each byte's lowest bit first.
func turned(b []byte, from int, pattern uint32) []byte {
	b = bytes.Clone(b)
	for i := range 32 {
		if pattern>>i&1 == 1 {
			b[(from+i)/8] ^= 1 << ((from + i) % 8)
		}
	}
	return b
}

// width is how many bits in a row the pattern takes.
func width(pattern uint32) int {
	n := 0
	for ; pattern != 0; pattern >>= 1 {
		n++
	}
	return n
}

func patterns() []uint32 {
	list := []uint32{0xffffffff, 0x80000001, 0xedb88320, 0xedb88321, 0xdb710641, 0x04c11db7, 0x82608edb, 0xaaaaaaab, 0xd5555555, 0x80000003, 0xc0000001, 1<<31 - 1, 1<<31 + 1<<16 + 1}
	for p := uint32(1); p < 256; p += 2 {
		list = append(list, p)
	}
	for i := range uint64(200) {
		list = append(list, binary.BigEndian.Uint32(strewn(i, 4))|1)
	}
	return list
}

func TestChangesOfUpTo32Bits(t *testing.T) { // P3.3
	for _, n := range []int{1, 2, 3, 4, 5, 8, 21} {
		payload := strewn(uint64(n), n)
		b := sealed(t, payload)
		for _, p := range patterns() {
			for from := 0; from+width(p) <= 8*n; from++ {
				if _, _, e := frame.First(turned(b, 8*headBytes+from, p)); e != api.ErrPack {
					t.Fatalf("a payload of %d bytes, from bit %d on changed by %08x: error %d", n, from, p, e)
				}
			}
		}
	}
}

func TestChangesInLongPayloads(t *testing.T) { // P3.3
	payload := strewn(6, api.MaxPayload)
	b := sealed(t, payload)
	last := 8*api.MaxPayload - 32
	for i, p := range patterns() {
		for _, from := range []int{0, 1, 7, i * 389 % last, last - 1, last} {
			if got, n, e := frame.First(turned(b, 8*headBytes+from, p)); e != api.ErrPack || n != 0 || len(got) != 0 {
				t.Fatalf("from bit %d on changed by %08x: %d bytes, %d, error %d", from, p, len(got), n, e)
			}
		}
	}
}

func TestWhatIsHandedInStays(t *testing.T) { // R2
	room := bytes.Repeat([]byte{0xa5}, 400)
	hold := func(what string, call func(b []byte), content []byte) {
		t.Helper()
		b := append(append([]byte{}, content...), room...)[:len(content)]
		call(b)
		if !bytes.Equal(b, content) || !bytes.Equal(b[:len(content)+len(room)][len(content):], room) {
			t.Errorf("%s changed what it was handed", what)
		}
	}
	two := append(sealed(t, []byte("one")), sealed(t, []byte("two"))...)
	for _, content := range [][]byte{nil, []byte("payload"), two, two[:len(two)-1]} {
		hold("Sum", func(b []byte) { frame.Sum(b) }, content)
		hold("Seal", func(b []byte) { frame.Seal(b) }, content)
		hold("First", func(b []byte) { frame.First(b) }, content)
		hold("Scan", func(b []byte) { frame.Scan(b) }, content)
	}
}

// spoil writes all over a list, its spare room too.
func spoil(b []byte) {
	b = b[:cap(b)]
	for i := range b {
		b[i] ^= 0xff
	}
}

func TestAnswersAreNewMemory(t *testing.T) { // R2
	payload := []byte("payload")
	b := sealed(t, payload)
	want := bytes.Clone(b)
	other := sealed(t, payload)
	spoil(other)
	if !bytes.Equal(b, want) || string(payload) != "payload" {
		t.Error("a frame shares memory")
	}
	got, _, _ := frame.First(b)
	again, _, _ := frame.First(b)
	spoil(got)
	if !bytes.Equal(b, want) || string(again) != "payload" {
		t.Error("First's payload shares memory")
	}
	spoil(b)
	if string(again) != "payload" {
		t.Error("First's payload hangs on what was handed in")
	}
}

func TestPayloadsShareNothing(t *testing.T) { // R2
	all := [][]byte{[]byte("a"), nil, []byte("bcd"), strewn(1, 33), nil, strewn(2, 100)}
	var whole []byte
	for _, p := range all {
		whole = append(whole, sealed(t, p)...)
	}
	kept := bytes.Clone(whole)
	for i := range all {
		payloads, n := frame.Scan(whole)
		again, _ := frame.Scan(whole)
		if n != len(whole) || len(payloads) != len(all) {
			t.Fatalf("Scan: %d payloads, %d bytes", len(payloads), n)
		}
		spoil(payloads[i])
		for j := range all {
			if j != i && !bytes.Equal(payloads[j], all[j]) || !bytes.Equal(again[j], all[j]) {
				t.Errorf("payload %d hangs on payload %d", j, i)
			}
		}
		more := append(payloads[:i], []byte("other")) // into the list of lists
		if !bytes.Equal(again[i], all[i]) || !bytes.Equal(whole, kept) || len(more) != i+1 {
			t.Errorf("a list of payloads shares memory")
		}
	}
}
