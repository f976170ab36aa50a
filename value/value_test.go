package value_test

import (
	"fmt"
	"math"
	"slices"
	"strings"
	"testing"

	"skerry/api"
	"skerry/value"
)

const (
	theNaN  = 0x7ff8000000000001
	tiniest = math.SmallestNonzeroFloat64
	most    = math.MaxFloat64
)

var minus, inf, nan = math.Copysign(0, -1), math.Inf(1), math.Float64frombits(theNaN)

var longer = strings.Repeat("x", api.MaxText+1)

func none() api.Value { return api.Value{} }

func number(x float64) api.Value { return api.Value{Kind: api.Num, Num: x} }

func text(s string) api.Value { return api.Value{Kind: api.Text, Text: s} }

// otherNaNs are NaNs, none of them the NaN: quiet and signalling, of both signs.
func otherNaNs() []float64 {
	var l []float64
	for _, bits := range []uint64{theNaN - 1, theNaN + 1, 0x7ff0000000000001, 0x7fffffffffffffff, 1<<63 | theNaN, 0xfff0000000000123, 0xffffffffffffffff} {
		l = append(l, math.Float64frombits(bits))
	}
	return l
}

// rising are right floats as they stand in chapter 1's order.
func rising() []float64 {
	return []float64{-inf, -most, -2.5, -1, -tiniest, minus, 0, tiniest, 0.1, 1, 2, 1 << 53, most, inf, nan}
}

// texts are as they stand byte by byte.
func texts() []string {
	return []string{"", "\x00", "\x00\x00", "\x00\xff", "A", "a", "a\x00", "aB", "ab", "abc", "b", longer[1:], longer, "\x7f", "\x80", "é", "\xff", "\xff\xff"}
}

// rightValues are as they stand in the chapter's order, each once.
func rightValues() []api.Value {
	l := []api.Value{none()}
	for _, x := range rising() {
		l = append(l, number(x))
	}
	for _, s := range texts() {
		if len(s) <= api.MaxText {
			l = append(l, text(s))
		}
	}
	return l
}

type wrongValue struct {
	what string
	v    api.Value
	want api.Errno
}

// wrongValues have those in which more than one thing is wrong at the end.
func wrongValues() []wrongValue {
	l := []wrongValue{
		{"a kind below None", api.Value{Kind: -1}, api.ErrKind},
		{"the least kind", api.Value{Kind: math.MinInt}, api.ErrKind},
		{"a kind above Text", api.Value{Kind: api.Text + 1}, api.ErrKind},
		{"the greatest kind", api.Value{Kind: math.MaxInt}, api.ErrKind},
		{"a kind that is right in its lowest 32 bits", api.Value{Kind: 1 << 32}, api.ErrKind},
		{"a kind that is right in its lowest 8 bits", api.Value{Kind: 1<<8 + api.Text, Text: "a"}, api.ErrKind},
		{"one byte more", text(longer), api.ErrLong},
		{"many bytes more", text(strings.Repeat("\x00", 1<<16)), api.ErrLong},
		{"few runes, too many bytes", text(strings.Repeat("é", api.MaxText/2) + "a"), api.ErrLong},
		{"a None with a text", api.Value{Text: "a"}, api.ErrType},
		{"a None with a byte of nought", api.Value{Text: "\x00"}, api.ErrType},
		{"a Num with a text", api.Value{Kind: api.Num, Num: 2, Text: "a"}, api.ErrType},
		{"a Num of nought with a text", api.Value{Kind: api.Num, Text: "2"}, api.ErrType},

		{"a wrong kind with a text that is too long", api.Value{Kind: 3, Text: longer}, api.ErrKind},
		{"a wrong kind with a wrong number and text", api.Value{Kind: -1, Num: 1, Text: longer}, api.ErrKind},
		{"a Text that is too long, with a number", api.Value{Kind: api.Text, Num: 1, Text: longer}, api.ErrLong},
		{"a Text that is too long, with a NaN", api.Value{Kind: api.Text, Num: nan, Text: longer}, api.ErrLong},
		{"a None with a text of too many bytes", api.Value{Text: longer}, api.ErrType},
		{"a Num with a text of too many bytes", api.Value{Kind: api.Num, Num: 1, Text: longer}, api.ErrType},
		{"a None with number and text", api.Value{Num: 1, Text: "a"}, api.ErrType},
	}
	for _, x := range append(otherNaNs(), rising()...) {
		if math.Float64bits(x) == 0 {
			continue
		}
		l = append(l, wrongValue{fmt.Sprintf("a None with %016x", math.Float64bits(x)), api.Value{Num: x}, api.ErrType})
		l = append(l, wrongValue{fmt.Sprintf("a Text with %016x", math.Float64bits(x)), api.Value{Kind: api.Text, Num: x, Text: "a"}, api.ErrType})
		l = append(l, wrongValue{fmt.Sprintf("an empty Text with %016x", math.Float64bits(x)), api.Value{Kind: api.Text, Num: x}, api.ErrType})
	}
	for _, x := range otherNaNs() {
		l = append(l, wrongValue{fmt.Sprintf("a Num of the NaN %016x", math.Float64bits(x)), number(x), api.ErrType})
	}
	return l
}

// alike holds bits, so that no wrong nought or NaN is taken for a right one.
func alike(a, b api.Value) bool {
	return a.Kind == b.Kind && math.Float64bits(a.Num) == math.Float64bits(b.Num) && a.Text == b.Text
}

func told(v api.Value) string {
	return fmt.Sprintf("{%d %016x %q}", v.Kind, math.Float64bits(v.Num), v.Text)
}

// isThe holds an answer and its error; beside an error all is zero.
func isThe(t *testing.T, what string, got api.Value, e api.Errno, want api.Value, wantE api.Errno) {
	t.Helper()
	if !alike(got, want) || e != wantE {
		t.Errorf("%s: %s, error %d, not %s, error %d", what, told(got), e, told(want), wantE)
	}
}

func TestExamples(t *testing.T) { // P5.2, P5.3
	if s, e := value.Text(text("ab")); s != "t6162" || e != api.OK {
		t.Errorf("Text: %q, error %d", s, e)
	}
	got, e := value.Add(none(), number(2))
	isThe(t, "Add of None", got, e, number(2), api.OK)
	got, e = value.Add(text("ab"), number(2))
	isThe(t, "Add of a Text", got, e, none(), api.ErrType)
}

func TestCheckOfRightValues(t *testing.T) { // P5.1
	for _, v := range rightValues() {
		if e := value.Check(v); e != api.OK {
			t.Errorf("Check(%s): error %d", told(v), e)
		}
	}
	for n := range api.MaxText + 1 {
		if e := value.Check(text(strings.Repeat("\xff", n))); e != api.OK {
			t.Errorf("Check of a Text of %d bytes: error %d", n, e)
		}
	}
}

func TestCheckOfWrongValues(t *testing.T) { // P5.1
	for _, c := range wrongValues() {
		if e := value.Check(c.v); e != c.want {
			t.Errorf("Check of %s: error %d, not %d", c.what, e, c.want)
		}
	}
}

// placed is any value, and where its kind, its number and its text stand in their orders.
type placed struct {
	v  api.Value
	at [3]int
}

func anyValues() []placed {
	var l []placed
	for kind, k := range []int{math.MinInt, -1, api.None, api.Num, api.Text, api.Text + 1, math.MaxInt} {
		for float, x := range append(rising(), otherNaNs()...) {
			for s, of := range texts() {
				l = append(l, placed{api.Value{Kind: k, Num: x, Text: of}, [3]int{kind, min(float, len(rising())-1), s}})
			}
		}
	}
	return l
}

func TestSameAndLessOfAllPairs(t *testing.T) { // P5.1
	l := anyValues()
	for _, a := range l {
		for _, b := range l {
			order := slices.Compare(a.at[:], b.at[:])
			if value.Same(a.v, b.v) != (order == 0) || value.Less(a.v, b.v) != (order < 0) {
				t.Fatalf("%s and %s: Same %v, Less %v", told(a.v), told(b.v), value.Same(a.v, b.v), value.Less(a.v, b.v))
			}
		}
	}
}

func TestSameHoldsBytes(t *testing.T) { // P5.1
	built := strings.Join([]string{"a", "b"}, "")
	if !value.Same(text("ab"), text(built)) || value.Same(text("ab"), text("ab\x00")) || value.Same(text("ab"), text("aB")) {
		t.Error("Same of Texts")
	}
	if !value.Same(number(nan), number(otherNaNs()[0])) || value.Same(number(0), number(minus)) || value.Same(none(), number(0)) || value.Same(none(), text("")) {
		t.Error("Same of floats and kinds")
	}
}

// joinCase is one of Add and Max: what they answer of a and b.
type joinCase struct {
	a, b, sum, greater float64
}

func joinCases() []joinCase {
	return []joinCase{
		{1, 2, 3, 2}, {2, 1, 3, 2}, {-1, -2, -3, -1}, {2, 2, 4, 2}, {0.1, 0.2, 0.30000000000000004, 0.2}, {1 << 53, 1, 1 << 53, 1 << 53}, {1, 0x1p-53, 1, 1},
		{0, 0, 0, 0}, {minus, minus, minus, minus}, {0, minus, 0, 0}, {minus, 0, 0, 0}, {3, -3, 0, 3}, {minus, -1, -1, minus}, {-tiniest, minus, -tiniest, minus},
		{tiniest, tiniest, 2 * tiniest, tiniest}, {tiniest, -tiniest, 0, tiniest},
		{most, most, inf, most}, {-most, -most, -inf, -most}, {most, 1, most, most}, {most, -most, 0, most},
		{inf, inf, inf, inf}, {-inf, -inf, -inf, -inf}, {inf, -inf, nan, inf}, {-inf, inf, nan, inf}, {inf, 1, inf, inf}, {-most, -inf, -inf, -most}, {inf, -most, inf, inf},
		{nan, nan, nan, nan}, {nan, 1, nan, nan}, {1, nan, nan, nan}, {nan, inf, nan, nan}, {-inf, nan, nan, nan}, {nan, minus, nan, nan},
	}
}

func TestAddAndMaxOfNums(t *testing.T) { // P5.2
	for _, c := range joinCases() {
		a, b := number(c.a), number(c.b)
		got, e := value.Add(a, b)
		isThe(t, "Add of "+told(a)+" and "+told(b), got, e, number(c.sum), api.OK)
		got, e = value.Max(a, b)
		isThe(t, "Max of "+told(a)+" and "+told(b), got, e, number(c.greater), api.OK)
	}
}

// joins are both calls, which answer alike where not two Nums meet.
func joins(a, b api.Value, hold func(call string, got api.Value, e api.Errno)) {
	got, e := value.Add(a, b)
	hold("Add of "+told(a)+" and "+told(b), got, e)
	got, e = value.Max(a, b)
	hold("Max of "+told(a)+" and "+told(b), got, e)
}

func TestAddAndMaxOfKinds(t *testing.T) { // P5.2
	for _, a := range rightValues() {
		for _, b := range rightValues() {
			want, wantE := none(), api.ErrType
			switch {
			case a.Kind == api.None:
				want, wantE = b, api.OK
			case a.Kind == api.Num && b.Kind == api.Num:
				continue
			}
			joins(a, b, func(call string, got api.Value, e api.Errno) {
				isThe(t, call, got, e, want, wantE)
			})
		}
	}
}

func TestAddAndMaxOfWrongValues(t *testing.T) { // P5.2
	for _, wrong := range wrongValues() {
		for _, right := range rightValues() {
			joins(wrong.v, right, func(call string, got api.Value, e api.Errno) {
				isThe(t, call, got, e, none(), wrong.want)
			})
			joins(right, wrong.v, func(call string, got api.Value, e api.Errno) {
				isThe(t, call, got, e, none(), wrong.want)
			})
		}
		for _, other := range wrongValues() {
			joins(wrong.v, other.v, func(call string, got api.Value, e api.Errno) {
				isThe(t, call, got, e, none(), wrong.want)
			})
		}
	}
}

type textCase struct {
	v    api.Value
	text string
}

func textCases() []textCase {
	return []textCase{
		{none(), "-"},
		{number(0), "n0000000000000000"}, {number(minus), "n8000000000000000"}, {number(1), "n3ff0000000000000"}, {number(-2), "nc000000000000000"}, {number(0.1), "n3fb999999999999a"},
		{number(inf), "n7ff0000000000000"}, {number(-inf), "nfff0000000000000"}, {number(nan), "n7ff8000000000001"}, {number(tiniest), "n0000000000000001"}, {number(most), "n7fefffffffffffff"},
		{number(math.Float64frombits(0x0123456789abcdef)), "n0123456789abcdef"},
		{text(""), "t"}, {text("ab"), "t6162"}, {text("AB"), "t4142"}, {text("\x00"), "t00"}, {text("\x00\x0f\xf0\xff"), "t000ff0ff"}, {text("-"), "t2d"}, {text("é"), "tc3a9"}, {text("\n\r"), "t0a0d"},
		{text("\x01\x23\x45\x67\x89\xab\xcd\xef"), "t0123456789abcdef"},
		{text(longer[1:]), "t" + strings.Repeat("78", api.MaxText)}, {text(strings.Repeat("\xff", api.MaxText)), "t" + strings.Repeat("ff", api.MaxText)},
	}
}

func TestTextAndParseByExamples(t *testing.T) { // P5.3
	for _, c := range textCases() {
		if s, e := value.Text(c.v); s != c.text || e != api.OK {
			t.Errorf("Text(%s): %q, error %d, not %q", told(c.v), s, e, c.text)
		}
		got, e := value.Parse(c.text)
		isThe(t, "Parse("+c.text+")", got, e, c.v, api.OK)
	}
}

func TestTextOfAllBytes(t *testing.T) { // P5.3
	for first := range 256 {
		for second := range 256 {
			s := string([]byte{byte(first), byte(second)})
			want := fmt.Sprintf("t%02x%02x", first, second)
			if got, e := value.Text(text(s)); got != want || e != api.OK {
				t.Fatalf("Text of the bytes %q: %q, error %d, not %q", s, got, e, want)
			}
			got, e := value.Parse(want)
			isThe(t, "Parse("+want+")", got, e, text(s), api.OK)
		}
	}
}

func TestTextOfWrongValues(t *testing.T) { // P5.3
	for _, c := range wrongValues() {
		if s, e := value.Text(c.v); s != "" || e != c.want {
			t.Errorf("Text of %s: %q, error %d, not error %d", c.what, s, e, c.want)
		}
	}
}

func holdWrong(t *testing.T, s string) {
	t.Helper()
	if v, e := value.Parse(s); !alike(v, none()) || e != api.ErrPack {
		t.Errorf("Parse(%.200q): %s, error %d", s, told(v), e)
	}
}

func TestParseOfWrongTexts(t *testing.T) { // P5.3
	const one = "n3ff0000000000000"
	for _, s := range []string{
		"", "--", "-0", "-n", "-t", "- ", " -", "-\x00", "-\n", "−", "-" + one, "0", "x", "N", "T", "\x00", "\xff", "6162", one[1:],
		"n", "n1", "n0", "nNaN", "nInf", "n-1", "n1.5", "n-", "nt", "nn", "n" + one, one + "-", one[:16], one + "0", "n0" + one[1:], "n03ff0000000000000", one + one, one + " ", "n " + one[1:], " " + one, one + "\n", "n" + strings.Repeat("0", 1<<16),
		"n3FF0000000000000", "n000000000000000A", "N3ff0000000000000", "n+ff0000000000000", "n-ff0000000000000", "n0x0000000000001", "n3ff0_00000000000", "n3ff000000000000g", "n3ff000000000000é",
		"t0", "t6", "t616", "t616g", "tg1", "t6g", "t6162-", "t 6162", "t6162 ", " t6162", "t6162\n", "t61 62", "t0x61", "t+6", "t-6", "t6_", "tt", "t-", "tn", "tab ", "té", "ｔ6162", "t６１",
		"tFF", "tfF", "tFf", "t6A", "t6162AB", "T6162", "t6162\x00", "\x00t6162", "tab\xff", "t\x00\x00",
		"t" + strings.Repeat("61", api.MaxText+1), "t" + strings.Repeat("00", api.MaxText+1), "t" + strings.Repeat("61", api.MaxText) + "6", "t" + strings.Repeat("61", api.MaxText) + "-",
		"t" + strings.Repeat("61", api.MaxText+2), "t" + strings.Repeat("61", 1<<16), "t" + strings.Repeat("61", api.MaxText+1) + "g",
	} {
		holdWrong(t, s)
	}
	for _, x := range otherNaNs() {
		holdWrong(t, fmt.Sprintf("n%016x", math.Float64bits(x)))
	}
}

func TestParseOfAllShortStrings(t *testing.T) { // P5.3
	for first := range 256 {
		if s := string([]byte{byte(first)}); s != "-" && s != "t" {
			holdWrong(t, s)
		}
		for second := range 256 {
			holdWrong(t, string([]byte{byte(first), byte(second)}))
		}
	}
}

// TestEachByteOfATextCounts puts each byte into each place, leaves each out and doubles it.
func TestEachByteOfATextCounts(t *testing.T) { // P5.3
	for _, right := range []string{"-", "t", "t6162", "t00ff", "n4009abcdef012345", "n7ff8000000000001", "n8000000000000000", "t" + strings.Repeat("9a", api.MaxText)} {
		for at := range len(right) {
			holdOwnText(t, right[:at]+right[at+1:])
			holdOwnText(t, right[:at]+right[at:at+1]+right[at:])
			for b := range 256 {
				holdOwnText(t, right[:at]+string([]byte{byte(b)})+right[at+1:])
			}
		}
		for b := range 256 {
			holdOwnText(t, right+string([]byte{byte(b)}))
			holdOwnText(t, string([]byte{byte(b)})+right)
		}
	}
}

// holdOwnText tells a right value's text by the form that the chapter gives it.
func holdOwnText(t *testing.T, s string) {
	t.Helper()
	if !hasForm(s) {
		holdWrong(t, s)
		return
	}
	v, e := value.Parse(s)
	if back, backE := value.Text(v); e != api.OK || backE != api.OK || back != s {
		t.Errorf("Parse(%q): %s, error %d, whose text is %q, error %d", s, told(v), e, back, backE)
	}
}

func hasForm(s string) bool {
	if s == "" {
		return false
	}
	digits := s[1:]
	if strings.Trim(digits, "0123456789abcdef") != "" {
		return false
	}
	switch s[0] {
	case '-':
		return digits == ""
	case 'n':
		var bits uint64
		fmt.Sscanf(digits, "%x", &bits)
		return len(digits) == 16 && (!math.IsNaN(math.Float64frombits(bits)) || bits == theNaN)
	case 't':
		return len(digits)%2 == 0 && len(digits) <= 2*api.MaxText
	}
	return false
}

// strewnValues are right values by a fixed rule: floats of all exponents, texts of all lengths and bytes.
func strewnValues(count int) []api.Value {
	l := rightValues()
	state := uint64(0x2545f4914f6cdd1d)
	next := func() uint64 {
		state ^= state << 13
		state ^= state >> 7
		state ^= state << 17
		return state
	}
	for range count {
		if x := math.Float64frombits(next()); !math.IsNaN(x) {
			l = append(l, number(x))
		}
		b := make([]byte, next()>>8%(api.MaxText+1))
		for i := range b {
			b[i] = byte(next() >> 16)
		}
		l = append(l, text(string(b)))
	}
	return l
}

func TestSumsAndGreaterAreRight(t *testing.T) { // P5.4
	l := strewnValues(80)
	for _, a := range l {
		for _, b := range l {
			joins(a, b, func(call string, got api.Value, e api.Errno) {
				if value.Check(got) != api.OK {
					t.Fatalf("%s: %s is not right", call, told(got))
				}
			})
		}
	}
}

func TestMaxHangsOnNoOrder(t *testing.T) { // P5.4
	for _, x := range rising() {
		for _, y := range rising() {
			got, e := value.Max(number(x), number(y))
			turned, turnedE := value.Max(number(y), number(x))
			isThe(t, "Max, turned", turned, turnedE, got, e)
			if value.Less(got, number(x)) || value.Less(got, number(y)) {
				t.Errorf("Max of %v and %v is less than one: %s", x, y, told(got))
			}
		}
	}
}

func TestWhatIsParsedHasItsText(t *testing.T) { // P5.4
	owner := map[string]api.Value{}
	for _, v := range strewnValues(3000) {
		s, e := value.Text(v)
		if e != api.OK {
			t.Fatalf("Text(%s): error %d", told(v), e)
		}
		got, e := value.Parse(s)
		isThe(t, "Parse of Text", got, e, v, api.OK)
		if again, e := value.Text(got); again != s || e != api.OK {
			t.Fatalf("Text of Parse(%q): %q, error %d", s, again, e)
		}
		if other, ok := owner[s]; ok && !alike(other, v) {
			t.Fatalf("%s and %s have one text", told(other), told(v))
		}
		owner[s] = v
	}
}

func TestOrderIsOne(t *testing.T) { // P5.4
	l := strewnValues(150)
	for _, c := range wrongValues() {
		l = append(l, c.v)
	}
	slices.SortFunc(l, order)
	for i, a := range l {
		for k, b := range l {
			ahead, behind, same := value.Less(a, b), value.Less(b, a), value.Same(a, b)
			if ahead && i > k || behind && i < k || same == (ahead || behind) || ahead && behind {
				t.Fatalf("sorted, %s at %d and %s at %d: Less %v, turned %v, Same %v", told(a), i, told(b), k, ahead, behind, same)
			}
		}
	}
}

func order(a, b api.Value) int {
	switch {
	case value.Less(a, b):
		return -1
	case value.Less(b, a):
		return 1
	}
	return 0
}

func TestRightValuesRise(t *testing.T) { // P5.1, P5.4
	l := rightValues()
	for i, a := range l {
		for k, b := range l {
			if value.Less(a, b) != (i < k) || value.Same(a, b) != (i == k) {
				t.Errorf("%s and %s: Less %v, Same %v", told(a), told(b), value.Less(a, b), value.Same(a, b))
			}
		}
	}
}
