package pack_test

import (
	"bytes"
	"encoding/hex"
	"math"
	"strings"
	"testing"

	"skerry/api"
	"skerry/pack"
)

const (
	minInt = math.MinInt
	maxInt = math.MaxInt
	theNaN = 0x7ff8000000000001
	nines  = "ffffffffffffffffff" // nine bytes that all say: more
	noughs = "808080808080808080"
)

var (
	minus = math.Copysign(0, -1)
	inf   = math.Inf(1)
)

// nanBits are NaNs, none of them the NaN.
func nanBits() []uint64 {
	return []uint64{
		0x7ff8000000000000, 0x7ff8000000000002, 0x7ff0000000000001, 0x7ff7ffffffffffff, 0x7fffffffffffffff,
		0xfff8000000000001, 0xfff8000000000000, 0xfff0000000000001, 0xffffffffffffffff, 0xfff8000000000123,
	}
}

func isBits(x float64, bits uint64) bool { return math.Float64bits(x) == bits }

func fromHex(t *testing.T, s string) []byte {
	t.Helper()
	b, err := hex.DecodeString(strings.ReplaceAll(s, " ", ""))
	if err != nil {
		t.Fatal(err)
	}
	return b
}

// holdBytes asks what a Writer answers after what write tells it.
func holdBytes(t *testing.T, what string, write func(w *pack.Writer), want []byte) {
	t.Helper()
	var w pack.Writer
	write(&w)
	got, e := w.Bytes()
	if e != api.OK || !bytes.Equal(got, want) {
		t.Errorf("%s: % x (error %d), not % x", what, got, e, want)
	}
}

// zeroOf reads by the call of that name, and tells whether it answered its zero value.
func zeroOf(r *pack.Reader, call string) bool {
	switch call {
	case "int":
		return r.Int() == 0
	case "mark":
		return !r.Mark()
	case "float":
		return isBits(r.Float(), 0)
	}
	return len(r.Text()) == 0
}

func allCalls() []string { return []string{"int", "mark", "float", "text"} }

type numberCase struct {
	n    int
	text string
}

func numbers() []numberCase {
	return []numberCase{
		{0, "00"}, {-1, "01"}, {1, "02"}, {-2, "03"}, {2, "04"}, {63, "7e"}, {-64, "7f"},
		{64, "8001"}, {-65, "8101"}, {65, "8201"}, {127, "fe01"}, {128, "8002"}, {-300, "d704"}, {8191, "fe7f"}, {-8192, "ff7f"},
		{8192, "808001"}, {-8193, "818001"}, {1<<20 - 1, "feff7f"}, {-1 << 20, "ffff7f"}, {1 << 20, "80808001"},
		{1<<31 - 1, "feffffff0f"}, {-1 << 31, "ffffffff0f"}, {1 << 32, "8080808020"}, {1<<53 + 1, "8280808080808020"},
		{1<<55 - 1, "feffffffffffff7f"}, {1 << 55, "808080808080808001"},
		{1<<62 - 1, "feffffffffffffff7f"}, {-1 << 62, "ffffffffffffffff7f"}, {1 << 62, noughs + "01"}, {-1<<62 - 1, "81808080808080808001"},
		{maxInt, "feffffffffffffffff01"}, {maxInt - 1, "fcffffffffffffffff01"}, {minInt, nines + "01"}, {minInt + 1, "fdffffffffffffffff01"},
	}
}

type floatCase struct {
	x    float64
	text string
}

func floats() []floatCase {
	return []floatCase{
		{0, "0000000000000000"}, {minus, "8000000000000000"}, {1, "3ff0000000000000"}, {-2, "c000000000000000"}, {0.1, "3fb999999999999a"},
		{inf, "7ff0000000000000"}, {-inf, "fff0000000000000"}, {math.SmallestNonzeroFloat64, "0000000000000001"}, {-math.SmallestNonzeroFloat64, "8000000000000001"},
		{math.MaxFloat64, "7fefffffffffffff"}, {-math.MaxFloat64, "ffefffffffffffff"}, {math.Float64frombits(0x0123456789abcdef), "0123456789abcdef"},
		{math.Float64frombits(theNaN), "7ff8000000000001"},
	}
}

func TestNothingIsWritten(t *testing.T) { // P2.1
	holdBytes(t, "nothing", func(w *pack.Writer) {}, nil)
}

func TestNumbersAreWritten(t *testing.T) { // P2.1
	for _, c := range numbers() {
		holdBytes(t, "Int", func(w *pack.Writer) { w.Int(c.n) }, fromHex(t, c.text))
	}
}

func TestMarksAreWritten(t *testing.T) { // P2.1
	holdBytes(t, "Mark(true)", func(w *pack.Writer) { w.Mark(true) }, []byte{1})
	holdBytes(t, "Mark(false)", func(w *pack.Writer) { w.Mark(false) }, []byte{0})
}

func TestFloatsAreWritten(t *testing.T) { // P2.1
	for _, c := range floats() {
		holdBytes(t, "Float", func(w *pack.Writer) { w.Float(c.x) }, fromHex(t, c.text))
	}
	for _, bits := range nanBits() {
		holdBytes(t, "Float of a NaN", func(w *pack.Writer) { w.Float(math.Float64frombits(bits)) }, fromHex(t, "7ff8000000000001"))
	}
}

func TestTextsAreWritten(t *testing.T) { // P2.1
	long := bytes.Repeat([]byte{0xa7, 0, 0xff}, api.MaxPayload)
	for _, c := range []struct {
		b    []byte
		head string
	}{
		{nil, "00"}, {[]byte{}, "00"}, {[]byte("abc"), "06"}, {[]byte{0, 255, 0}, "06"}, {long[:63], "7e"}, {long[:64], "8001"},
		{long[:8191], "fe7f"}, {long[:8192], "808001"}, {long[:api.MaxPayload-1], "feff01"}, {long[:api.MaxPayload], "808002"},
	} {
		holdBytes(t, "Text", func(w *pack.Writer) { w.Text(c.b) }, append(fromHex(t, c.head), c.b...))
	}
}

func TestOneBehindTheOther(t *testing.T) { // P2.1
	holdBytes(t, "the chapter's example", func(w *pack.Writer) {
		w.Int(0)
		w.Int(-1)
		w.Int(64)
		w.Float(minus)
	}, fromHex(t, "00 01 80 01 80 00 00 00 00 00 00 00"))
	holdBytes(t, "all kinds", func(w *pack.Writer) {
		w.Text([]byte("x"))
		w.Mark(true)
		w.Float(1)
		w.Text(nil)
		w.Int(300)
		w.Mark(false)
	}, fromHex(t, "02 78 01 3ff0000000000000 00 d804 00"))
	many := bytes.Repeat([]byte{4}, 3*api.MaxPayload)
	holdBytes(t, "more bytes than a text may have", func(w *pack.Writer) {
		for range many {
			w.Int(2)
		}
	}, many)
	text := make([]byte, api.MaxPayload)
	holdBytes(t, "two of the longest texts", func(w *pack.Writer) {
		w.Text(text)
		w.Text(text)
	}, bytes.Repeat(append(fromHex(t, "808002"), text...), 2))
}

func TestTextThatIsTooLong(t *testing.T) { // P2.1
	for _, n := range []int{api.MaxPayload + 1, api.MaxPayload + 2, 2 * api.MaxPayload, 1 << 20} {
		var w pack.Writer
		w.Int(5)
		before, _ := w.Bytes()
		w.Text(make([]byte, n))
		holdLong(t, &w)
		w.Text([]byte("short"))
		holdLong(t, &w)
		w.Int(1)
		w.Mark(true)
		w.Float(1)
		holdLong(t, &w)
		w.Text(make([]byte, n))
		holdLong(t, &w)
		if !bytes.Equal(before, []byte{10}) {
			t.Errorf("an answer ahead of the error: % x", before)
		}
	}
	var first pack.Writer
	first.Text(make([]byte, api.MaxPayload+1))
	holdLong(t, &first)
}

func holdLong(t *testing.T, w *pack.Writer) {
	t.Helper()
	if b, e := w.Bytes(); e != api.ErrLong || len(b) != 0 {
		t.Errorf("Bytes: %d bytes, error %d, not ErrLong", len(b), e)
	}
}

func TestAnswersOfAWriterAreNew(t *testing.T) { // P2.1, R2
	var w pack.Writer
	w.Int(1)
	w.Text([]byte("ab"))
	one, _ := w.Bytes()
	two, _ := w.Bytes()
	for i := range one[:cap(one)] {
		one[:cap(one)][i] = 0xee
	}
	want := fromHex(t, "02 04 6162")
	if !bytes.Equal(two, want) {
		t.Errorf("an answer shares its memory with another: % x", two)
	}
	w.Int(2)
	_ = append(two, 0xdd)
	w.Int(3)
	three, _ := w.Bytes()
	if !bytes.Equal(three, append(want, 4, 6)) || !bytes.Equal(two, want) {
		t.Errorf("written on: % x and % x", two, three)
	}
}

func TestAWriterLeavesWhatItIsTold(t *testing.T) { // P2.1, R2, R6
	room := []byte("text and room")
	var w pack.Writer
	w.Text(room[:4])
	w.Int(1)
	if string(room) != "text and room" {
		t.Errorf("what was handed in: %q", room)
	}
	copy(room, "XXXXXXXXXXXXX")
	if got, _ := w.Bytes(); !bytes.Equal(got, fromHex(t, "08 74657874 02")) {
		t.Errorf("what was handed in is kept: % x", got)
	}
}

func TestWritersHaveNothingInCommon(t *testing.T) { // P2.1, R3
	var a, b pack.Writer
	a.Int(1)
	b.Int(2)
	for n := range 40 { // room behind what is written is there at some of these lengths, at others not
		c := a
		d := a
		c.Mark(true)
		d.Mark(false)
		a.Int(n)
		tooLong := a
		tooLong.Text(make([]byte, api.MaxPayload+1))
		holdLong(t, &tooLong)
		was := a
		a.Int(50)
		on := a
		a = was
		a.Int(51)
		all := []byte{2}
		for k := range n {
			all = append(all, byte(2*k), 102)
		}
		holdBytes(t, "a copy", func(w *pack.Writer) { *w = c }, append(bytes.Clone(all), 1))
		holdBytes(t, "another copy", func(w *pack.Writer) { *w = d }, append(bytes.Clone(all), 0))
		holdBytes(t, "a copy that wrote on", func(w *pack.Writer) { *w = on }, append(bytes.Clone(all), byte(2*n), 100))
		holdBytes(t, "the one that was copied", func(w *pack.Writer) { *w = a }, append(bytes.Clone(all), byte(2*n), 102))
	}
	holdBytes(t, "another Writer", func(w *pack.Writer) { *w = b }, []byte{4})
}

func TestNumbersAreRead(t *testing.T) { // P2.2
	for _, c := range numbers() {
		r := pack.NewReader(fromHex(t, c.text))
		if got := r.Int(); got != c.n || r.Left() != 0 || r.Done() != api.OK {
			t.Errorf("Int of %s: %d, not %d; %d left, error %d", c.text, got, c.n, r.Left(), r.Done())
		}
	}
}

func TestMarksAreRead(t *testing.T) { // P2.2
	r := pack.NewReader([]byte{1, 0, 0, 1})
	for i, want := range []bool{true, false, false, true} {
		if got := r.Mark(); got != want || r.Left() != 3-i {
			t.Errorf("mark %d: %v, %d left", i, got, r.Left())
		}
	}
	if e := r.Done(); e != api.OK {
		t.Errorf("error %d", e)
	}
}

func TestFloatsAreRead(t *testing.T) { // P2.2
	for _, c := range floats() {
		r := pack.NewReader(fromHex(t, c.text))
		if got := r.Float(); !isBits(got, math.Float64bits(c.x)) || r.Left() != 0 || r.Done() != api.OK {
			t.Errorf("Float of %s: %v; %d left, error %d", c.text, got, r.Left(), r.Done())
		}
	}
}

func TestTextsAreRead(t *testing.T) { // P2.2
	for _, n := range []int{0, 1, 3, 63, 64, 8191, 8192, api.MaxPayload - 1, api.MaxPayload} {
		var w pack.Writer
		want := bytes.Repeat([]byte{0x5a}, n)
		w.Int(n)
		b, _ := w.Bytes()
		r := pack.NewReader(append(append(b, want...), 7))
		if got := r.Text(); !bytes.Equal(got, want) || r.Left() != 1 || r.Done() != api.ErrPack {
			t.Errorf("Text of %d bytes: %d; %d left, error %d", n, len(got), r.Left(), r.Done())
		}
	}
}

func TestEachIsReadWhereTheOneBeforeEnded(t *testing.T) { // P2.2
	r := pack.NewReader(fromHex(t, "02 78 01 7ff0000000000000 00 d804 00"))
	if got := r.Text(); string(got) != "x" || r.Left() != 13 {
		t.Errorf("Text: %q, %d left", got, r.Left())
	}
	if got := r.Mark(); !got || r.Left() != 12 {
		t.Errorf("Mark: %v, %d left", got, r.Left())
	}
	if got := r.Float(); got != inf || r.Left() != 4 {
		t.Errorf("Float: %v, %d left", got, r.Left())
	}
	if got := r.Text(); len(got) != 0 || r.Left() != 3 {
		t.Errorf("Text: %q, %d left", got, r.Left())
	}
	if got := r.Int(); got != 300 || r.Left() != 1 {
		t.Errorf("Int: %d, %d left", got, r.Left())
	}
	if got := r.Mark(); got || r.Left() != 0 || r.Done() != api.OK {
		t.Errorf("Mark: %v, %d left, error %d", got, r.Left(), r.Done())
	}
}

func TestDone(t *testing.T) { // P2.2
	for _, none := range [][]byte{nil, {}} {
		if r := pack.NewReader(none); r.Left() != 0 || r.Done() != api.OK {
			t.Errorf("nothing: %d left, error %d", r.Left(), r.Done())
		}
	}
	r := pack.NewReader([]byte{2, 4})
	for want := 2; want > 0; want-- { // bytes that are left are no error that is kept
		if r.Left() != want || r.Done() != api.ErrPack || r.Done() != api.ErrPack {
			t.Errorf("%d bytes are left: %d, error %d", want, r.Left(), r.Done())
		}
		if got := r.Int(); got != 3-want {
			t.Errorf("read behind Done: %d", got)
		}
	}
	if r.Left() != 0 || r.Done() != api.OK || r.Done() != api.OK {
		t.Errorf("all is read: %d left, error %d", r.Left(), r.Done())
	}
}

type wrongCase struct {
	call, text string
	e          api.Errno
}

func wrongs() []wrongCase {
	l := []wrongCase{
		{"int", "", api.ErrPack}, {"int", "80", api.ErrPack}, {"int", "ff", api.ErrPack}, {"int", "ffff", api.ErrPack}, {"int", nines, api.ErrPack}, {"int", noughs, api.ErrPack}, // too early
		{"int", "8000", api.ErrPack}, {"int", "8100", api.ErrPack}, {"int", "ff00", api.ErrPack}, {"int", "808000", api.ErrPack}, {"int", "ffff00", api.ErrPack}, {"int", noughs + "00", api.ErrPack}, {"int", nines + "00", api.ErrPack}, // too many
		{"int", "80000000", api.ErrPack}, {"int", "800001", api.ErrPack}, // too many, and more behind
		{"int", nines + "02", api.ErrPack}, {"int", noughs + "02", api.ErrPack}, {"int", nines + "03", api.ErrPack}, {"int", nines + "7f", api.ErrPack}, {"int", noughs + "40", api.ErrPack}, // beyond 64 bits
		{"int", nines + "80", api.ErrPack}, {"int", nines + "8000", api.ErrPack}, {"int", nines + "8001", api.ErrPack}, {"int", nines + "8101", api.ErrPack}, {"int", noughs + "8101", api.ErrPack}, {"int", nines + nines + "01", api.ErrPack}, {"int", noughs + noughs + noughs + "01", api.ErrPack},
		{"mark", "", api.ErrPack}, {"mark", "02", api.ErrPack}, {"mark", "03", api.ErrPack}, {"mark", "80", api.ErrPack}, {"mark", "81", api.ErrPack}, {"mark", "ff", api.ErrPack}, {"mark", "0201", api.ErrPack},
		{"float", "", api.ErrPack}, {"float", "3f", api.ErrPack}, {"float", "3ff00000000000", api.ErrPack}, {"float", "00000000000000", api.ErrPack}, {"float", "7ff80000000000", api.ErrPack},
		{"text", "", api.ErrPack}, {"text", "02", api.ErrPack}, {"text", "0461", api.ErrPack}, {"text", "80", api.ErrPack}, {"text", "8001" + strings.Repeat("61", 63), api.ErrPack}, // too early
		{"text", "808002" + strings.Repeat("61", api.MaxPayload-1), api.ErrPack},
		{"text", "01", api.ErrPack}, {"text", "0161", api.ErrPack}, {"text", "03616161", api.ErrPack}, {"text", "8102", api.ErrPack}, {"text", nines + "01", api.ErrPack}, {"text", "81800261", api.ErrPack}, // below 0
		{"text", "8000", api.ErrPack}, {"text", "820061", api.ErrPack}, {"text", "82808300", api.ErrPack}, {"text", "8280820061", api.ErrPack}, // a number of too many bytes
		{"text", nines + "02", api.ErrPack}, {"text", noughs + "7f", api.ErrPack}, {"text", nines + "8001", api.ErrPack}, // a number beyond 64 bits
		{"text", "8280", api.ErrPack}, {"text", "feffffffffffffffff", api.ErrPack}, // a number that isn't there
		{"text", "828002", api.ErrLong}, {"text", "82800261", api.ErrLong}, {"text", "828002" + strings.Repeat("61", api.MaxPayload+1), api.ErrLong}, {"text", "828002" + strings.Repeat("61", 2*api.MaxPayload), api.ErrLong},
		{"text", "848002", api.ErrLong}, {"text", "80808001", api.ErrLong}, {"text", "feffffffffffffffff01", api.ErrLong}, {"text", "feffffffffffffffff0161", api.ErrLong}, {"text", noughs + "01", api.ErrLong}, {"text", "8080808020", api.ErrLong},
	}
	for b := 2; b < 256; b++ {
		l = append(l, wrongCase{"mark", hex.EncodeToString([]byte{byte(b)}), api.ErrPack})
	}
	for _, bits := range nanBits() {
		b := make([]byte, 8)
		for i := range b {
			b[i] = byte(bits >> (56 - 8*i))
		}
		l = append(l, wrongCase{"float", hex.EncodeToString(b), api.ErrPack}, wrongCase{"float", hex.EncodeToString(b) + "0000000000000000", api.ErrPack})
	}
	return l
}

func TestWrongBytes(t *testing.T) { // P2.2
	for _, c := range wrongs() {
		name := c.text[:min(len(c.text), 60)]
		r := pack.NewReader(fromHex(t, c.text))
		if !zeroOf(r, c.call) {
			t.Errorf("%s of %s answers something", c.call, name)
		}
		if r.Left() != 0 || r.Done() != c.e {
			t.Errorf("%s of %s: %d left, error %d, not %d", c.call, name, r.Left(), r.Done(), c.e)
		}
	}
}

func TestTheFirstErrorIsKept(t *testing.T) { // P2.2
	for _, c := range wrongs() {
		name := c.text[:min(len(c.text), 60)]
		r := pack.NewReader(fromHex(t, "04"+c.text))
		if r.Int() != 2 {
			t.Fatal("the number ahead")
		}
		zeroOf(r, c.call)
		for range 3 {
			for _, call := range allCalls() {
				if !zeroOf(r, call) || r.Left() != 0 || r.Done() != c.e {
					t.Errorf("%s behind a wrong %s of %s: %d left, error %d", call, c.call, name, r.Left(), r.Done())
				}
			}
		}
	}
}

func TestBehindAnErrorNothingIsRead(t *testing.T) { // P2.2
	all := "01 01 3ff0000000000000 0278 828002"
	for _, c := range []struct {
		call, text string
		e          api.Errno
	}{{"mark", "02", api.ErrPack}, {"int", "8000", api.ErrPack}, {"float", "7ff8000000000000", api.ErrPack}, {"text", "01", api.ErrPack}, {"text", "828002", api.ErrLong}, {"text", "fe01", api.ErrPack}} {
		for _, later := range allCalls() {
			r := pack.NewReader(fromHex(t, c.text+all))
			if !zeroOf(r, c.call) || r.Left() != 0 || r.Done() != c.e {
				t.Errorf("%s of %s: %d left, error %d", c.call, c.text, r.Left(), r.Done())
			}
			if !zeroOf(r, later) || r.Left() != 0 || r.Done() != c.e {
				t.Errorf("%s behind %s of %s: %d left, error %d", later, c.call, c.text, r.Left(), r.Done())
			}
		}
	}
}

func TestAReaderHasMemoryOfItsOwn(t *testing.T) { // P2.2, R2, R6
	room := fromHex(t, "06616263 06646566 02 77 0e")
	given := room[:10]
	kept := bytes.Clone(room)
	r, other := pack.NewReader(given), pack.NewReader(given)
	if !bytes.Equal(room, kept) {
		t.Errorf("what was handed in: % x", room)
	}
	for i := range room {
		room[i] = 0xff
	}
	one := r.Text()
	one = append(one, "XXXXXXXX"...)
	two := r.Text()
	_ = append(two[:0], "YYYYYYYY"...)
	three := r.Text()
	if string(one) != "abcXXXXXXXX" || string(three) != "w" || r.Done() != api.OK {
		t.Errorf("texts share memory: %q %q %q, error %d", one, two, three, r.Done())
	}
	for _, want := range []string{"abc", "def", "w"} {
		if got := other.Text(); string(got) != want {
			t.Errorf("another Reader: %q, not %q", got, want)
		}
	}
}

func TestCopiesOfAReader(t *testing.T) { // P2.2, R3
	r := pack.NewReader([]byte{2, 4, 2})
	r.Int()
	c := *r
	if c.Int() != 2 || c.Mark() || r.Left() != 2 || r.Int() != 2 || r.Int() != 1 || r.Done() != api.OK || c.Done() != api.ErrPack {
		t.Errorf("a copy: %d left, error %d; the one that was copied: %d left, error %d", c.Left(), c.Done(), r.Left(), r.Done())
	}
}

// strewn gives bits by a fixed rule.
type strewn uint64

func (s *strewn) next() uint64 {
	*s ^= *s << 13
	*s ^= *s >> 7
	*s ^= *s << 17
	return uint64(*s)
}

func edgeNumbers() []int {
	var l []int
	for shift := range 64 {
		for d := -2; d <= 2; d++ {
			n := 1<<shift + d
			l = append(l, n, -n)
		}
	}
	return l
}

func TestNumbersAreReadAgain(t *testing.T) { // P2.3
	s := strewn(1)
	l := edgeNumbers()
	for range 2000 {
		bits := s.next()
		l = append(l, int(bits)>>(s.next()%64))
	}
	var w pack.Writer
	for _, n := range l {
		w.Int(n)
	}
	b, _ := w.Bytes()
	r := pack.NewReader(b)
	for _, n := range l {
		if got := r.Int(); got != n {
			t.Fatalf("Int(%d) is read as %d", n, got)
		}
	}
	if e := r.Done(); e != api.OK {
		t.Errorf("error %d", e)
	}
}

// item is one that is written: what is neither a number, mark, nor float is a text.
type item struct {
	call string
	n    int
	x    float64
	b    []byte
}

func (i item) write(w *pack.Writer) {
	switch i.call {
	case "int":
		w.Int(i.n)
	case "mark":
		w.Mark(i.n == 1)
	case "float":
		w.Float(i.x)
	case "text":
		w.Text(i.b)
	}
}

func read(r *pack.Reader, call string) item {
	switch call {
	case "int":
		return item{call: call, n: r.Int()}
	case "mark":
		if r.Mark() {
			return item{call: call, n: 1}
		}
		return item{call: call}
	case "float":
		return item{call: call, x: r.Float()}
	}
	return item{call: call, b: r.Text()}
}

func (i item) isLike(k item) bool {
	same := isBits(i.x, math.Float64bits(k.x)) || i.x != i.x && isBits(k.x, theNaN)
	return i.call == k.call && i.n == k.n && same && bytes.Equal(i.b, k.b)
}

func TestWhatWasWrittenIsReadAgain(t *testing.T) { // P2.3
	s := strewn(77)
	for range 300 {
		var w pack.Writer
		var l []item
		for range s.next() % 30 {
			i := item{call: allCalls()[s.next()%4]}
			switch i.call {
			case "int":
				i.n = int(s.next()) >> (s.next() % 64)
			case "mark":
				i.n = int(s.next() % 2)
			case "float":
				i.x = math.Float64frombits(append(nanBits(), s.next(), 0, 1<<63, 0x7ff<<52, 0xfff<<52, theNaN)[s.next()%16])
			case "text":
				i.b = bytes.Repeat([]byte{byte(s.next())}, int(s.next()%200))
			}
			l = append(l, i)
			i.write(&w)
		}
		b, e := w.Bytes()
		if e != api.OK {
			t.Fatalf("error %d", e)
		}
		r := pack.NewReader(b)
		for _, i := range l {
			if got := read(r, i.call); !i.isLike(got) {
				t.Fatalf("%v is read as %v", i, got)
			}
		}
		if e := r.Done(); e != api.OK || r.Left() != 0 {
			t.Fatalf("%d left, error %d", r.Left(), e)
		}
		for n := range len(b) {
			holdCut(t, b[:n], l)
		}
	}
}

// holdCut reads bytes that end too early: some item can't be read any more, or the last ones are not there.
func holdCut(t *testing.T, b []byte, l []item) {
	t.Helper()
	r := pack.NewReader(b)
	for _, i := range l {
		before := r.Left()
		got := read(r, i.call)
		if r.Done() == api.ErrPack && r.Left() == 0 {
			if !got.isLike(item{call: i.call}) {
				t.Fatalf("%s of what ends too early: %v", i.call, got)
			}
			return
		}
		if !i.isLike(got) || r.Left() >= before {
			t.Fatalf("%v is read as %v, where the end is cut off", i, got)
		}
	}
	t.Fatalf("%d bytes have all of %d items", len(b), len(l))
}

// holdRewritten reads b by one call: what is read without an error is written in just these bytes.
func holdRewritten(t *testing.T, call string, b []byte) bool {
	t.Helper()
	r := pack.NewReader(b)
	got := read(r, call)
	if r.Left() == 0 && r.Done() != api.OK {
		return false
	}
	took := b[:len(b)-r.Left()]
	var w pack.Writer
	got.write(&w)
	if again, e := w.Bytes(); e != api.OK || !bytes.Equal(again, took) {
		t.Fatalf("%s of % x is written as % x, error %d", call, took, again, e)
	}
	return true
}

func TestWhatIsReadHasJustTheseBytes(t *testing.T) { // P2.3
	for a := range 256 {
		for b := range 256 {
			two := []byte{byte(a), byte(b)}
			isNumber := a < 128 || b > 0 && b < 128
			if got := holdRewritten(t, "int", two); got != isNumber {
				t.Errorf("Int of % x is read: %v", two, got)
			}
			if got := holdRewritten(t, "mark", two); got != (a < 2) {
				t.Errorf("Mark of % x is read: %v", two, got)
			}
			if got := holdRewritten(t, "text", two); got != (a == 0 || a == 2) {
				t.Errorf("Text of % x is read: %v", two, got)
			}
			if holdRewritten(t, "float", two) {
				t.Errorf("Float of % x is read", two)
			}
			long := append(bytes.Repeat([]byte{0x80}, 8), two...) // of nine groups, of ten, or of more
			isNumber = a > 0 && a < 128 || a >= 128 && b == 1
			if got := holdRewritten(t, "int", long); got != isNumber {
				t.Errorf("Int of % x is read: %v", long, got)
			}
			float := append(two, 0, 0, 0, 0, 0, 1)
			isNaN := a&127 == 0x7f && b >= 0xf0
			if got := holdRewritten(t, "float", float); got != (!isNaN || a == 0x7f && b == 0xf8) {
				t.Errorf("Float of % x is read: %v", float, got)
			}
		}
	}
	s := strewn(5)
	for range 20000 {
		b := make([]byte, s.next()%14)
		for i := range b {
			b[i] = []byte{0, 1, 2, 0x7f, 0x80, 0x81, 0xff, byte(s.next())}[s.next()%8]
		}
		for _, call := range allCalls() {
			holdRewritten(t, call, b)
		}
	}
}
