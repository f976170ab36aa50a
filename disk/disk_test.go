package disk_test

import (
	"bytes"
	"fmt"
	"math"
	"strings"
	"testing"

	"skerry/api"
	"skerry/disk"
)

func made(t *testing.T, room int) *disk.Disk {
	t.Helper()
	d, e := disk.New(room)
	if e != api.OK || d == nil {
		t.Fatalf("New(%d): error %d", room, e)
	}
	return d
}

func hold(t *testing.T, what string, got, want api.Errno) {
	t.Helper()
	if got != want {
		t.Errorf("%s: error %d, not %d", what, got, want)
	}
}

// holdFile asks for a disk whose power is on.
func holdFile(t *testing.T, what string, d *disk.Disk, want string) {
	t.Helper()
	b, e := d.Read()
	if e != api.OK || string(b) != want || d.Size() != len(want) || d.Off() {
		t.Errorf("%s: %d bytes %.20q, error %d, Size %d, Off %v, not %d bytes %.20q", what, len(b), b, e, d.Size(), d.Off(), len(want), want)
	}
}

// holdOff asks for a disk whose power is off, and for what it has then.
func holdOff(t *testing.T, what string, d *disk.Disk, want string) {
	t.Helper()
	b, e := d.Read()
	if e != api.ErrOff || len(b) != 0 || d.Size() != len(want) || !d.Off() {
		t.Errorf("%s: %d bytes, error %d, Size %d, Off %v, not ErrOff alone, Size %d", what, len(b), e, d.Size(), d.Off(), len(want))
	}
	d.Start()
	holdFile(t, what+", and Start", d, want)
}

// holdLost asks for what stays where nothing stays but what is synced.
func holdLost(t *testing.T, what string, d *disk.Disk, want string) {
	t.Helper()
	d.Crash(0)
	holdOff(t, what+", and Crash(0)", d, want)
}

// laid has the one text synced, the other one behind it.
func laid(t *testing.T, room int, synced, loose string) *disk.Disk {
	t.Helper()
	d := made(t, room)
	hold(t, "Replace", d.Replace([]byte(synced)), api.OK)
	hold(t, "Append", d.Append([]byte(loose)), api.OK)
	return d
}

// write does what the document calls a write: an Append or a Replace of text, or a Sync.
func write(d *disk.Disk, kind, text string) api.Errno {
	switch kind {
	case "Append":
		return d.Append([]byte(text))
	case "Replace":
		return d.Replace([]byte(text))
	}
	return d.Sync()
}

func writes() []string { return []string{"Append", "Sync", "Replace"} }

func TestTheExample(t *testing.T) { // P4.2, P4.3
	d := made(t, 10)
	hold(t, "Append", d.Append([]byte("ab")), api.OK)
	hold(t, "Sync", d.Sync(), api.OK)
	hold(t, "Append", d.Append([]byte("cd")), api.OK)
	d.Crash(1)
	d.Start()
	holdFile(t, "the example", d, "abc")
}

func TestRooms(t *testing.T) { // P4.1
	for _, room := range []int{0, 1, 2, api.MaxDisk - 1, api.MaxDisk} {
		d, e := disk.New(room)
		if e != api.OK || d == nil {
			t.Errorf("New(%d): error %d", room, e)
			continue
		}
		holdFile(t, "a new disk", d, "")
		hold(t, "a Sync of nothing", d.Sync(), api.OK)
		d.Crash(5)
		holdOff(t, "a new disk, and Crash", d, "")
	}
	for _, room := range []int{-1, -2, math.MinInt, api.MaxDisk + 1, 2 * api.MaxDisk, 1 << 32, math.MaxInt} {
		if d, e := disk.New(room); e != api.ErrArg || d != nil {
			t.Errorf("New(%d): error %d, not ErrArg alone", room, e)
		}
	}
}

func TestAppends(t *testing.T) { // P4.1, P4.2
	d := made(t, 1000)
	all := ""
	for i := range 40 {
		text := strings.Repeat(string(rune('a'+i%26)), i%7)
		hold(t, "Append", d.Append([]byte(text)), api.OK)
		all += text
		holdFile(t, "behind an Append", d, all)
		if i%5 == 0 {
			hold(t, "Sync", d.Sync(), api.OK)
			holdFile(t, "behind a Sync", d, all)
		}
	}
}

func TestSyncs(t *testing.T) { // P4.2
	d := made(t, 100)
	d.Append([]byte("one"))
	holdLost(t, "an Append", d, "")
	d.Append([]byte("one"))
	hold(t, "Sync", d.Sync(), api.OK)
	holdLost(t, "an Append and a Sync", d, "one")
	d.Append([]byte("two"))
	d.Append([]byte("three"))
	hold(t, "Sync", d.Sync(), api.OK)
	hold(t, "another Sync", d.Sync(), api.OK)
	d.Append([]byte("four"))
	holdLost(t, "an Append behind all that is synced", d, "onetwothree")
	d.Append([]byte("five"))
	d.Append(nil)
	hold(t, "Sync", d.Sync(), api.OK)
	d.Append([]byte{})
	holdLost(t, "an Append of nothing", d, "onetwothreefive")
}

func TestReplaceIsSyncedAtOnce(t *testing.T) { // P4.2
	for _, text := range []string{"", "n", "new", "a new one, longer than the file was"} {
		d := laid(t, 100, "synced", "loose")
		hold(t, "Replace", d.Replace([]byte(text)), api.OK)
		holdFile(t, "put anew", d, text)
		holdLost(t, "put anew", d, text)

		d = laid(t, 100, "synced", "loose")
		d.Replace([]byte(text))
		d.Append([]byte("behind"))
		holdFile(t, "put anew, and an Append", d, text+"behind")
		d.Crash(4)
		holdOff(t, "put anew, and an Append, and Crash(4)", d, text+"behi")
	}
}

func TestFull(t *testing.T) { // P4.2
	for _, room := range []int{0, 1, 2, 3, 7, 8, 9, 1000, api.MaxDisk - 1, api.MaxDisk} {
		for _, has := range []int{0, 1, room / 2, room - 1, room} {
			if has < 0 || has > room {
				continue
			}
			synced, loose := strings.Repeat("s", has/2), strings.Repeat("l", has-has/2)
			for _, above := range []int{1, 2, room + 1, api.MaxDisk, 1 << 20} {
				d := laid(t, room, synced, loose)
				hold(t, "Append above the room", d.Append(bytes.Repeat([]byte("x"), room-has+above)), api.ErrFull)
				holdFile(t, "behind an Append above the room", d, synced+loose)
				hold(t, "Replace above the room", d.Replace(bytes.Repeat([]byte("x"), room+above)), api.ErrFull)
				holdFile(t, "behind a Replace above the room", d, synced+loose)
				holdLost(t, "behind both", d, synced)
			}
			d := laid(t, room, synced, loose)
			rest := strings.Repeat("r", room-has)
			hold(t, "Append of just the room", d.Append([]byte(rest)), api.OK)
			holdFile(t, "a full disk", d, synced+loose+rest)
			hold(t, "Append of nothing on a full disk", d.Append(nil), api.OK)
			hold(t, "Append of a byte on a full disk", d.Append([]byte("x")), api.ErrFull)
			hold(t, "Sync of a full disk", d.Sync(), api.OK)
			holdLost(t, "a full disk", d, synced+loose+rest)
			anew := strings.Repeat("n", room)
			hold(t, "Replace on a full disk", d.Replace([]byte(anew)), api.OK)
			holdLost(t, "a full disk put anew", d, anew)
		}
	}
}

func TestRoomIsThereAgain(t *testing.T) { // P4.2, P4.3
	d := laid(t, 6, "abc", "def")
	hold(t, "Append", d.Append([]byte("x")), api.ErrFull)
	d.Crash(1)
	d.Start()
	hold(t, "Append", d.Append([]byte("xyz")), api.ErrFull)
	hold(t, "Append", d.Append([]byte("xy")), api.OK)
	holdFile(t, "what was lost gave room", d, "abcdxy")
	hold(t, "Replace", d.Replace([]byte("n")), api.OK)
	hold(t, "Append", d.Append([]byte("opqrs")), api.OK)
	holdFile(t, "a shorter file gave room", d, "nopqrs")
}

func TestWhileThePowerIsOff(t *testing.T) { // P4.1, P4.2, P4.3
	tooMuch := strings.Repeat("x", 21)
	for _, start := range []bool{false, true} {
		d := laid(t, 20, "synced", "loose")
		d.Crash(2)
		for _, kind := range writes() {
			hold(t, kind+" while the power is off", write(d, kind, "more"), api.ErrOff)
			hold(t, kind+" of too much while the power is off", write(d, kind, tooMuch), api.ErrOff)
			hold(t, kind+" of nothing while the power is off", write(d, kind, ""), api.ErrOff)
		}
		if b, e := d.Read(); e != api.ErrOff || len(b) != 0 || d.Size() != 8 || !d.Off() {
			t.Errorf("while the power is off: Read %q, error %d, Size %d, Off %v", b, e, d.Size(), d.Off())
		}
		d.Crash(0)
		if start {
			d.Start()
			d.Crash(0)
		}
		holdOff(t, "behind all that", d, "syncedlo")
		hold(t, "Append behind a Start", d.Append([]byte("more")), api.OK)
		hold(t, "Sync behind a Start", d.Sync(), api.OK)
		holdLost(t, "behind a Start", d, "syncedlomore")
	}
}

func TestStartWhileThePowerIsOn(t *testing.T) { // P4.3
	d := laid(t, 20, "synced", "loose")
	d.Start()
	holdFile(t, "Start with the power on", d, "syncedloose")
	holdLost(t, "Start with the power on", d, "synced")
	d.Trip(1, 0)
	d.Start()
	hold(t, "Sync", d.Sync(), api.ErrOff)
}

type keepCase struct{ keep, stays int }

// keeps are those of a disk on which n bytes are not synced.
func keeps(n int) []keepCase {
	return []keepCase{
		{math.MinInt, 0}, {-n - 1, 0}, {-1, 0}, {0, 0}, {1, 1}, {n - 1, n - 1}, {n, n}, {n + 1, n}, {n + 100, n}, {api.MaxDisk, n}, {math.MaxInt - 1, n}, {math.MaxInt, n},
	}
}

func TestCrash(t *testing.T) { // P4.3
	for _, synced := range []string{"", "s", "synced"} {
		for _, loose := range []string{"lo", "loose", strings.Repeat("loose", 100)} {
			for _, k := range keeps(len(loose)) {
				what := fmt.Sprintf("%q and %d bytes, and Crash(%d)", synced, len(loose), k.keep)
				stays := synced + loose[:k.stays]
				d := laid(t, 1000, synced, loose)
				d.Crash(k.keep)
				holdOff(t, what, d, stays)
				holdLost(t, what+": what stays counts as synced", d, stays)

				d = laid(t, 1000, synced, loose)
				d.Crash(k.keep)
				for range 2 {
					d.Crash(0)
					d.Crash(-1)
					d.Crash(k.keep)
				}
				holdOff(t, what+", once more and once more", d, stays)
				d.Append([]byte("12345"))
				d.Crash(2)
				holdOff(t, what+", an Append and Crash(2)", d, stays+"12")
				d.Crash(math.MaxInt)
				holdOff(t, what+", and Crash of all", d, stays+"12")
			}
		}
	}
}

func TestCrashWhereAllIsSynced(t *testing.T) { // P4.3
	for _, keep := range []int{math.MinInt, -1, 0, 1, 6, 7, math.MaxInt} {
		d := laid(t, 20, "synced", "")
		d.Crash(keep)
		holdOff(t, "a file that is synced", d, "synced")
	}
}

// holdLast has a Trip at the write that comes now.
func holdLast(t *testing.T, what string, d *disk.Disk, kind, synced, loose string, k int) {
	t.Helper()
	if kind == "Append" {
		loose += "new"
	}
	hold(t, what, write(d, kind, "new"), api.ErrOff)
	stays := synced + loose[:min(max(k, 0), len(loose))]
	holdOff(t, what, d, stays)
	for range 3 {
		hold(t, what+": nothing is tripped any more", d.Sync(), api.OK)
	}
	holdLost(t, what+": what stays counts as synced", d, stays)
}

func TestTrip(t *testing.T) { // P4.3
	keep := []int{math.MinInt, -1, 0, 1, 4, 5, 6, 7, 8, 9, api.MaxDisk, math.MaxInt} // of 5 bytes, and of 8 where 3 are appended
	for _, kind := range writes() {
		for _, k := range keep {
			what := fmt.Sprintf("Trip(1, %d) and %s", k, kind)
			d := laid(t, 40, "synced", "loose")
			d.Trip(1, k)
			holdFile(t, what+": not yet", d, "syncedloose")
			holdLast(t, what, d, kind, "synced", "loose", k)
			for n := 2; n < 6; n++ {
				d := made(t, 40)
				d.Trip(n, k)
				for i := range n - 1 {
					hold(t, "a write ahead of the last one", write(d, writes()[(i+n)%3], "ab"), api.OK)
				}
				b, _ := d.Read()
				d.Replace(b) // it is the last one: the power goes
				if !d.Off() {
					t.Errorf("Trip(%d, %d): the power is on behind %d writes", n, k, n)
				}
			}
		}
	}
}

func TestTripAtALaterWrite(t *testing.T) { // P4.3
	for _, kind := range writes() {
		for _, k := range []int{-1, 0, 1, 3, 4, 6, 7, 100} {
			what := fmt.Sprintf("Trip(4, %d) and %s as the fourth", k, kind)
			d := laid(t, 40, "elder", "ones")
			d.Trip(4, k)
			hold(t, "Replace", d.Replace([]byte("ab")), api.OK)
			hold(t, "Append", d.Append([]byte("cd")), api.OK)
			hold(t, "Append", d.Append([]byte("ef")), api.OK)
			holdFile(t, what+": not yet", d, "abcdef")
			holdLast(t, what, d, kind, "ab", "cdef", k)

			what = fmt.Sprintf("Trip(3, %d) and %s behind a Sync", k, kind)
			d = laid(t, 40, "synced", "")
			d.Trip(3, k)
			hold(t, "Append", d.Append([]byte("ab")), api.OK)
			hold(t, "Sync", d.Sync(), api.OK)
			holdLast(t, what, d, kind, "syncedab", "", k)
		}
	}
}

func TestTripsOfManyWrites(t *testing.T) { // P4.3
	for _, kind := range writes() {
		for _, n := range []int{1, 2, 3, 10, 300} {
			d := made(t, 1000)
			d.Trip(n, 0)
			for i := 1; i < n; i++ {
				hold(t, kind+" ahead of the last one", write(d, kind, ""), api.OK)
			}
			hold(t, kind+" as the last one", write(d, kind, ""), api.ErrOff)
			d.Start()
			hold(t, kind+" behind a Start", write(d, kind, ""), api.OK)
		}
	}
	d := made(t, 10)
	d.Trip(math.MaxInt, 0)
	for range 1000 {
		hold(t, "Sync far ahead of the last one", d.Sync(), api.OK)
	}
}

func TestWhatATripDoesNotCount(t *testing.T) { // P4.3
	for _, kind := range writes() {
		d := laid(t, 12, "synced", "loose")
		d.Trip(2, 1)
		for range 5 {
			hold(t, "Append above the room", d.Append([]byte("xx")), api.ErrFull)
			hold(t, "Replace above the room", d.Replace(make([]byte, 13)), api.ErrFull)
			d.Read()
			d.Size()
			d.Off()
			d.Start()
			holdFile(t, "nothing that counts", d, "syncedloose")
		}
		hold(t, kind+" as the first", write(d, kind, "x"), api.OK)
		want := map[string]string{"Append": "syncedloosex", "Sync": "syncedloose", "Replace": "x"}[kind]
		for range 5 {
			hold(t, "Append above the room as the second", d.Append(make([]byte, 13)), api.ErrFull)
			hold(t, "Replace above the room as the second", d.Replace(make([]byte, 13)), api.ErrFull)
			holdFile(t, "nothing that counts", d, want)
		}
		hold(t, "Sync as the second", d.Sync(), api.ErrOff)
		if kind == "Append" {
			want = "syncedl"
		}
		holdOff(t, "behind the last one", d, want)
	}
}

func TestErrorsOfTheLastOne(t *testing.T) { // P4.2, P4.3
	d := laid(t, 12, "synced", "loose")
	d.Trip(1, 3)
	hold(t, "Append above the room", d.Append([]byte("xx")), api.ErrFull)
	hold(t, "Replace above the room", d.Replace(make([]byte, 13)), api.ErrFull)
	holdFile(t, "behind both", d, "syncedloose")
	hold(t, "Append of just the room", d.Append([]byte("x")), api.ErrOff)
	holdOff(t, "behind the last one", d, "syncedloo")

	d = laid(t, 12, "synced", "loose")
	d.Trip(1, 6)
	hold(t, "Append of just the room", d.Append([]byte("x")), api.ErrOff)
	holdOff(t, "behind the last one", d, "syncedloosex")
	hold(t, "Append on a disk that is full now", d.Append([]byte("x")), api.ErrFull)
}

func TestNothingIsTrippedAnyMore(t *testing.T) { // P4.3
	calls := map[string]func(d *disk.Disk){
		"Trip(0, 0)":           func(d *disk.Disk) { d.Trip(0, 0) },
		"Trip(0, 5)":           func(d *disk.Disk) { d.Trip(0, 5) },
		"Trip(-1, 0)":          func(d *disk.Disk) { d.Trip(-1, 0) },
		"Trip(MinInt, MinInt)": func(d *disk.Disk) { d.Trip(math.MinInt, math.MinInt) },
		"Crash and Start":      func(d *disk.Disk) { d.Crash(5); d.Start() },
	}
	for what, call := range calls {
		for _, n := range []int{1, 2, 5} {
			d := laid(t, 20, "synced", "loose")
			d.Trip(n, 0)
			call(d)
			for range n + 5 {
				hold(t, "Sync behind Trip and "+what, d.Sync(), api.OK)
				hold(t, "Append behind Trip and "+what, d.Append(nil), api.OK)
			}
			holdFile(t, "behind Trip and "+what, d, "syncedloose")
		}
	}
}

func TestTheLastTripCounts(t *testing.T) { // P4.3
	for first := 1; first < 5; first++ {
		for second := 1; second < 5; second++ {
			for ahead := range first {
				d := laid(t, 20, "synced", "")
				d.Trip(first, 1)
				for range ahead {
					hold(t, "a Sync ahead of the second Trip", d.Sync(), api.OK)
				}
				d.Append(nil)
				if d.Off() {
					continue
				}
				d.Trip(second, 2)
				for range second - 1 {
					hold(t, "a Sync behind the second Trip", d.Sync(), api.OK)
				}
				hold(t, "the last one", d.Append([]byte("abc")), api.ErrOff)
				holdOff(t, "behind the last one", d, "syncedab")
			}
		}
	}
}

func TestTripWhileThePowerIsOff(t *testing.T) { // P4.3
	for _, n := range []int{1, 2, 3} {
		d := laid(t, 20, "synced", "loose")
		d.Crash(0)
		d.Trip(n, 0)
		holdOff(t, "a Trip while the power is off", d, "synced")
		for range n + 2 {
			hold(t, "Append behind a Start", d.Append([]byte("x")), api.OK)
		}
		d.Crash(0)
		d.Trip(n, 0)
		d.Start()
		d.Trip(n, 1)
		for range n - 1 {
			hold(t, "Sync ahead of the last one", d.Sync(), api.OK)
		}
		hold(t, "the last one", d.Append([]byte("xyz")), api.ErrOff)
		holdOff(t, "a Trip behind a Start", d, "syncedx")
	}
}

// model is the chapter, word by word: what is synced, and behind it what is not.
type model struct {
	room          int
	synced, loose string
	off           bool
	trip, keep    int
}

func (m *model) crash(keep int) {
	if m.off {
		return
	}
	switch {
	case keep >= len(m.loose):
		m.synced += m.loose
	case keep > 0:
		m.synced += m.loose[:keep]
	}
	m.loose, m.trip, m.off = "", 0, true
}

func (m *model) write(kind, text string) api.Errno {
	switch {
	case m.off:
		return api.ErrOff
	case kind == "Append" && len(m.synced)+len(m.loose)+len(text) > m.room, kind == "Replace" && len(text) > m.room:
		return api.ErrFull
	}
	last := m.trip == 1
	m.trip = max(m.trip-1, 0)
	switch {
	case kind == "Append":
		m.loose += text
	case last:
	case kind == "Replace":
		m.synced, m.loose = text, ""
	default:
		m.synced, m.loose = m.synced+m.loose, ""
	}
	if last {
		m.crash(m.keep)
		return api.ErrOff
	}
	return api.OK
}

// act is a write by its name and text, or Trip, Crash, Start.
type act struct {
	kind    string
	text    string
	n, keep int
}

func (a act) do(t *testing.T, d *disk.Disk, m *model) {
	t.Helper()
	switch a.kind {
	case "Trip":
		d.Trip(a.n, a.keep)
		if !m.off {
			m.trip, m.keep = max(a.n, 0), a.keep
		}
	case "Crash":
		d.Crash(a.keep)
		m.crash(a.keep)
	case "Start":
		d.Start()
		m.off = false
	default:
		if got, want := write(d, a.kind, a.text), m.write(a.kind, a.text); got != want {
			t.Fatalf("%v: error %d, not %d", a, got, want)
		}
	}
}

// holdModel asks all there is to ask, and leaves the disk as it is.
func holdModel(t *testing.T, what any, d *disk.Disk, m *model) {
	t.Helper()
	want, e := m.synced+m.loose, api.OK
	if m.off {
		e = api.ErrOff
	}
	b, got := d.Read()
	if got != e || d.Off() != m.off || d.Size() != len(want) || !m.off && string(b) != want || m.off && len(b) != 0 {
		t.Fatalf("%v: %d bytes %.20q, error %d, Size %d, Off %v, not %d bytes %.20q, Off %v", what, len(b), b, got, d.Size(), d.Off(), len(want), want, m.off)
	}
}

func acts() []act {
	return []act{
		{kind: "Append", text: "ab"}, {kind: "Append", text: "cdef"}, {kind: "Sync"}, {kind: "Replace", text: "xyz"}, {kind: "Replace", text: "1234567"},
		{kind: "Trip", n: 1, keep: 1}, {kind: "Trip", n: 2, keep: 3}, {kind: "Trip", n: 1, keep: -1}, {kind: "Trip"},
		{kind: "Crash", keep: -1}, {kind: "Crash", keep: 1}, {kind: "Crash", keep: 9}, {kind: "Start"},
	}
}

func TestAllShortStories(t *testing.T) { // P4.1, P4.2, P4.3, P4.4
	const long = 5
	list := acts()
	story := make([]act, 0, long)
	var tell func()
	tell = func() {
		d, m := made(t, 6), &model{room: 6}
		for _, a := range story {
			a.do(t, d, m)
		}
		holdModel(t, story, d, m)
		if d.Start(); m.off {
			m.off = false
		}
		holdModel(t, story, d, m)
		if len(story) == long {
			return
		}
		for _, a := range list {
			story = append(story, a)
			tell()
			story = story[:len(story)-1]
		}
	}
	tell()
}

// dice throws numbers by a fixed rule.
type dice uint64

func (x *dice) below(n int) int {
	*x = *x*6364136223846793005 + 1442695040888963407
	return int(uint64(*x)>>33) % n
}

func (x *dice) text(n int) string {
	b := make([]byte, n)
	for i := range b {
		b[i] = byte(x.below(256))
	}
	return string(b)
}

func (x *dice) act(room int) act {
	switch k := x.below(20); {
	case k < 8:
		return act{kind: "Append", text: x.text(x.below(room/5 + 2))}
	case k < 11:
		return act{kind: "Sync"}
	case k < 13:
		return act{kind: "Replace", text: x.text(x.below(room + 2))}
	case k < 15:
		return act{kind: "Trip", n: x.below(8) - 1, keep: x.below(room+3) - 2}
	case k < 17:
		return act{kind: "Crash", keep: x.below(room+3) - 2}
	}
	return act{kind: "Start"}
}

func TestLongStories(t *testing.T) { // P4.1, P4.2, P4.3, P4.4
	for _, room := range []int{0, 1, 5, 40, 1000, api.MaxDisk} {
		x := dice(room)
		d, m := made(t, room), &model{room: room}
		for i := range 40000000 / (room + 2000) {
			a := x.act(room)
			a.do(t, d, m)
			holdModel(t, fmt.Sprintf("%d: %s", i, a.kind), d, m)
		}
	}
}

// TestWhereverThePowerGoes tells nothing of how: it holds P4.4's sentence alone.
func TestWhereverThePowerGoes(t *testing.T) { // P4.4
	x := dice(4)
	for range 20000 {
		d := made(t, 60)
		base, behind := "", "" // what was synced last, or put anew; what was appended behind it
		d.Trip(1+x.below(12), x.below(40)-5)
		for i := 0; !d.Off(); i++ {
			if i == 5000 {
				t.Fatal("the power does not go")
			}
			kind, text := writes()[x.below(3)], x.text(x.below(25))
			e := write(d, kind, text)
			switch {
			case e == api.ErrFull:
			case kind == "Append":
				behind += text
			case e == api.ErrOff:
			case kind == "Replace":
				base, behind = text, ""
			default:
				base, behind = base+behind, ""
			}
			if x.below(30) == 0 {
				d.Crash(x.below(40) - 5)
			}
		}
		d.Start()
		b, e := d.Read()
		if e != api.OK || !strings.HasPrefix(string(b), base) || !strings.HasPrefix(base+behind, string(b)) {
			t.Fatalf("behind a crash: %q, error %d, where %q was synced, and %q behind it", b, e, base, behind)
		}
	}
}

func TestWhatIsHandedInStays(t *testing.T) { // R2, R6
	const content, room = "content", "spare room"
	for _, kind := range []string{"Append", "Replace"} {
		for _, trip := range []int{0, 1, 2} {
			for _, size := range []int{3, 7, 40} {
				d := made(t, size)
				d.Trip(trip, 2)
				whole := []byte(content + room)
				b := whole[:len(content)]
				call := d.Append
				if kind == "Replace" {
					call = d.Replace
				}
				call(b)
				d.Append([]byte("more"))
				d.Sync()
				d.Crash(1)
				d.Start()
				d.Append([]byte("more"))
				if string(whole) != content+room {
					t.Errorf("%s changed what it was handed: %q", kind, whole)
				}
			}
		}
	}
}

func TestADiskHasMemoryOfItsOwn(t *testing.T) { // R2
	for _, n := range []int{1, 2, 7, 8, 9, 100, 1000} {
		text := strings.Repeat("t", n)
		for _, kind := range []string{"Append", "Replace"} {
			d := made(t, 10000)
			b := append(make([]byte, 0, 2*n), text...)
			if kind == "Append" {
				d.Append(b)
			} else {
				d.Replace(b)
			}
			copy(b[:2*n], strings.Repeat("x", 2*n))
			holdFile(t, kind+", and what was handed in is changed", d, text)
			d.Append([]byte("behind"))
			if string(b[:2*n]) != strings.Repeat("x", 2*n) {
				t.Errorf("%s, and an Append into what was handed in", kind)
			}
			copy(b[:2*n], strings.Repeat("y", 2*n))
			holdFile(t, kind+", and an Append", d, text+"behind")
		}
	}
}

func TestWhatReadTellsIsNew(t *testing.T) { // R2
	for _, n := range []int{0, 1, 5, 8, 9, 31, 100, 1000} {
		text := strings.Repeat("t", n)
		d := laid(t, 2000, text, "")
		first, _ := d.Read()
		second, _ := d.Read()
		first = first[:cap(first)]
		for i := range first {
			first[i] = 'x'
		}
		holdFile(t, "an answer that is written over", d, text)
		d.Append([]byte("behind"))
		holdFile(t, "an Append behind an answer", d, text+"behind")
		third, _ := d.Read()
		d.Replace(bytes.Repeat([]byte("z"), n))
		d.Append([]byte("zzzzzz"))
		if string(first) != strings.Repeat("x", len(first)) || string(second) != text || string(third) != text+"behind" {
			t.Errorf("answers of %d bytes hang on what was done later", n)
		}
	}
}

func TestAppendOfWhatReadTold(t *testing.T) { // R2
	d := laid(t, 1000, "ab", "c")
	want := "abc"
	for range 6 {
		b, _ := d.Read()
		hold(t, "Append of the file", d.Append(b), api.OK)
		want += want
		holdFile(t, "a file behind itself", d, want)
	}
	b, _ := d.Read()
	hold(t, "Replace by a piece of the file", d.Replace(b[1:5]), api.OK)
	holdFile(t, "a piece of the file", d, want[1:5])
}

func TestDisksHaveNothingInCommon(t *testing.T) { // R3
	a, b := laid(t, 100, "first", "loose"), laid(t, 100, "second", "")
	a.Trip(1, 0)
	hold(t, "Sync of the other one", b.Sync(), api.OK)
	a.Crash(2)
	b.Append([]byte("more"))
	holdFile(t, "the other one", b, "secondmore")
	holdOff(t, "the one", a, "firstlo")
}

func TestCopiesOfADisk(t *testing.T) { // R3
	for n := range 40 { // room behind the file is there at some of these lengths, at others not
		text := strings.Repeat("t", n)
		a := laid(t, 1000, text[:n/2], "")
		for range n - n/2 {
			a.Append([]byte("t"))
		}
		b, c, cut := *a, *a, *a
		b.Append([]byte("bb"))
		c.Append([]byte("cc"))
		a.Append([]byte("aa"))
		cut.Crash(0)
		cut.Start()
		cut.Append([]byte("dd"))
		was := *a
		a.Append([]byte("aa"))
		on := *a
		*a = was
		a.Append([]byte("ee"))
		holdFile(t, "a copy", &b, text+"bb")
		holdFile(t, "another copy", &c, text+"cc")
		holdFile(t, "a copy that was cut", &cut, text[:n/2]+"dd")
		holdFile(t, "a copy that went on", &on, text+"aaaa")
		holdFile(t, "the one that was copied", a, text+"aaee")
		on.Crash(1)
		holdFile(t, "the one whose copy's power went", a, text+"aaee")
		holdOff(t, "the copy", &on, text[:n/2]+(text[n/2:] + "a")[:1])
	}
}
