package stable_test

import (
	"bytes"
	"fmt"
	"math"
	"slices"
	"strings"
	"testing"

	"skerry/api"
	"skerry/disk"
	"skerry/stable"
)

// failsToSave asks for an error that leaves all as it was: nothing is written, the store is of use, and the disk, too.
func failsToSave(t *testing.T, what string, d *disk.Disk, s *stable.Store, h api.Hard, want api.Errno) {
	t.Helper()
	has := s.Hard()
	file, _ := d.Read()
	d.Trip(1, 0)
	errorIs(t, what, save(t, s, h), want)
	if d.Off() {
		t.Errorf("%s: something is written", what)
	}
	d.Start()
	d.Trip(0, 0)
	hasIs(t, what, s, has)
	syncedIs(t, what, d, file)
	foundIs(t, what, d, has)
	errorIs(t, what+", and Save of what there was", save(t, s, has), api.OK)
}

func TestSaveWithThePowerOff(t *testing.T) { // P11.2, R4
	from := based(3, 5, 2, none(2), none(3))
	d := made(t, api.MaxDisk)
	s := opened(t, d, from)
	long := sized(t, based(3, 6, 2), 16385)
	for _, h := range append(wrongHards(), from, begun(9, 1), based(2, 5, 2, none(2)), based(3, 4, 2), based(9, 5, 2), with(from, nil), based(9, 9, 3), long) {
		d.Crash(0)
		errorIs(t, "Save with the power off: "+told(h), save(t, s, h), api.ErrOff)
		if !d.Off() {
			t.Error("Save took the power on")
		}
		hasIs(t, "with the power off", s, from)
		d.Start()
		fileIs(t, "with the power off", d, whole(from))
	}
	foundIs(t, "with the power off", d, from)
}

func TestSaveOfWhatMayNotBe(t *testing.T) { // P11.2, R1, R4
	for _, from := range []api.Hard{begun(0, -1), begun(3, 2, none(1), none(3)), based(3, 5, 2, none(2), none(3)), based(api.MaxTerm, maxBase, 1, none(3))} {
		for _, room := range []int{len(whole(from)), api.MaxDisk} { // ahead of ErrFull, too
			d := laid(t, room, whole(from))
			s := opened(t, d, from)
			for _, h := range wrongHards() {
				failsToSave(t, "Save of "+told(h), d, s, h, api.ErrBad)
			}
			for _, term := range []int{from.Term - 1, from.Term - 2, -1, math.MinInt} {
				h := from
				h.Term, h.Log = term, nil
				failsToSave(t, fmt.Sprintf("the Term %d", term), d, s, h, api.ErrBad)
			}
		}
	}
	from := based(3, 5, 2, none(2), none(3))
	d := made(t, api.MaxDisk)
	s := opened(t, d, from)
	for _, base := range []int{4, 3, 1} {
		failsToSave(t, "a Base below", d, s, based(3, base, 2, none(2), none(3)), api.ErrBad)
		failsToSave(t, "a Base below, and a Term above", d, s, based(4, base, 2, none(2), none(3)), api.ErrBad)
		failsToSave(t, "a Base below, and too long", d, s, sized(t, based(4, base, 2), 16385), api.ErrBad)
	}
	failsToSave(t, "no Base", d, s, begun(4, 2), api.ErrBad)
	failsToSave(t, "a Term below, and a Base above", d, s, based(2, 6, 2), api.ErrBad)
	failsToSave(t, "a Term below, and too long", d, s, sized(t, based(2, 6, 2), 16385), api.ErrBad)
	failsToSave(t, "Base and Term below", d, s, based(2, 4, 2), api.ErrBad)
}

func TestSaveOfLongOnes(t *testing.T) { // P11.2, R4
	from := based(3, 5, 2, none(2), none(3))
	for _, h := range []api.Hard{based(3, 5, 2, none(2), none(3)), based(3, 6, 2), based(4, 5, 3, entries(1, 3, 4)...)} {
		for _, room := range []int{16384 + 9, api.MaxDisk} {
			d := made(t, room)
			s := opened(t, d, from)
			for _, n := range []int{16385, 16386, 16390} {
				if room == api.MaxDisk || n == 16385 { // ErrLong is told ahead of ErrFull
					failsToSave(t, "a snapshot that is too long", d, s, sized(t, h, n), api.ErrLong)
				}
			}
			most := sized(t, h, 16384)
			writesIs(t, "a snapshot as long as may be", d, 1, func() api.Errno { return save(t, s, most) })
			hasIs(t, "a snapshot as long as may be", s, most)
			syncedIs(t, "a snapshot as long as may be", d, whole(most))
			foundIs(t, "a snapshot as long as may be", d, most)
		}
	}

	// By one entry: put anew it is too long, appended it is not.
	full := sized(t, based(3, 5, 2, none(2)), 16384)
	longer := with(full, full.Log, []api.Entry{none(3)})
	d := made(t, api.MaxDisk)
	s := opened(t, d, from)
	failsToSave(t, "an entry that makes it too long", d, s, longer, api.ErrLong)
	errorIs(t, "without that entry", save(t, s, full), api.OK)
	errorIs(t, "with that entry, behind it", save(t, s, longer), api.OK)
	syncedIs(t, "an entry behind a long one", d, append(whole(full), grow(none(3))...))
	s = foundIs(t, "an entry behind a long one", d, longer)
	next := longer
	next.BaseTerm = 1
	failsToSave(t, "another base of one that is too long", d, s, next, api.ErrLong)
	next.Log = nil
	errorIs(t, "another base of one that is not", save(t, s, next), api.OK)
	syncedIs(t, "another base of one that is not", d, whole(next))
	many := begun(1, 0, slices.Repeat([]api.Entry{none(1)}, 8200)...)
	d = made(t, api.MaxDisk)
	failsToSave(t, "more entries than fit", d, opened(t, d, begun(1, 0)), many, api.ErrLong)
}

// TestFullDisks has changes that just fit, and that don't.
func TestFullDisks(t *testing.T) { // P11.2
	from := begun(3, 2, entries(1, 1, 2, 3)...)
	ahead := slices.Concat(whole(begun(3, 1, entries(2, 1, 2, 3, 3, 3)...)), vote(3, 2), cut(1), grows(from.Log...))
	for _, to := range []api.Hard{
		begun(4, 1, from.Log...), begun(3, 2, append(from.Log, none(3))...), begun(3, 2, from.Log[:2]...), begun(3, 2), begun(5, 0, entries(3, 4, 5)...), begun(3, 2, from.Log[0], from.Log[1], none(3)),
	} {
		what := "on a full disk, " + told(to)
		more := joined(steps(from, to))
		for _, c := range []struct {
			file   []byte
			room   int
			want   []byte // nil: ErrFull
			writes int
		}{
			{ahead, len(ahead) + len(more), append(bytes.Clone(ahead), more...), 2},
			{ahead, len(ahead) + len(more) + 1, append(bytes.Clone(ahead), more...), 2},
			{ahead, len(ahead) + len(more) - 1, whole(to), 1},
			{ahead, len(ahead), whole(to), 1},
			{whole(from), len(whole(from)), whole(to), 1},
			{whole(from), len(whole(from)) + len(more) - 1, whole(to), 1},
		} {
			if len(whole(to)) > c.room {
				c.want = nil
			}
			d := laid(t, c.room, c.file)
			s := opened(t, d, begun(9, 1))
			if c.want == nil {
				failsToSave(t, what, d, s, to, api.ErrFull)
				continue
			}
			writesIs(t, what, d, c.writes, func() api.Errno { return save(t, s, to) })
			hasIs(t, what, s, to)
			syncedIs(t, what, d, c.want)
			foundIs(t, what, d, to)
		}
	}
}

// TestFullByAByte has rooms for just record 1, and for a byte less.
func TestFullByAByte(t *testing.T) { // P11.2
	from := begun(3, 2, none(1))
	for _, to := range []api.Hard{begun(3, 2, append(from.Log, entries(3, 2, 3, 3)...)...), begun(4, 1, entries(3, 2, 3, 3, 4)...), based(3, 1, 1, entries(3, 2, 2)...)} {
		n := len(whole(to))
		d := laid(t, n-1, whole(from))
		s := opened(t, d, from)
		failsToSave(t, "a disk that is a byte too small", d, s, to, api.ErrFull)
		less := with(to, to.Log[:1])
		errorIs(t, "a smaller one", save(t, s, less), api.OK)
		foundIs(t, "a smaller one", d, less)

		d = laid(t, n, whole(from))
		s = opened(t, d, from)
		errorIs(t, "a disk that is just great enough", save(t, s, to), api.OK)
		syncedIs(t, "a disk that is just great enough", d, whole(to))
		foundIs(t, "a disk that is just great enough", d, to)
	}
}

// TestFullAndLong has a change that does not fit, of one that is too long to be put anew.
func TestFullAndLong(t *testing.T) { // P11.2
	full := sized(t, based(3, 5, 2, none(2)), 16384)
	longer := with(full, full.Log, []api.Entry{none(3)})
	file := whole(full)
	for room := len(file); room < len(file)+len(grow(none(3))); room++ {
		d := laid(t, room, file)
		failsToSave(t, "full, and too long", d, opened(t, d, full), longer, api.ErrLong)
	}
	d := laid(t, len(file)+len(grow(none(3))), file)
	errorIs(t, "just not full", save(t, opened(t, d, full), longer), api.OK)
	foundIs(t, "just not full", d, longer)
}

// breaks has the power go in each write of a Save, and all that may stay then.
func breaks(t *testing.T, m model, to api.Hard) {
	t.Helper()
	next := m
	if next.save(to) != api.OK {
		t.Fatalf("%s may not be saved behind %s", told(to), told(m.has))
	}
	if m.isAnew(to) {
		breaksAnew(t, m, to)
		return
	}
	l := steps(m.has, to)
	more := joined(l)
	keeps := []int{-1, len(more) + 1, math.MinInt, math.MaxInt}
	for keep := range len(more) + 1 {
		keeps = append(keeps, keep)
	}
	for _, keep := range keeps {
		stays := min(max(keep, 0), len(more))
		after := slices.Concat(m.file, more[:stays])
		has, file := m.has, m.file
		for _, x := range l {
			if stays < len(x.b) {
				break
			}
			stays -= len(x.b)
			has, file = x.has, slices.Concat(file, x.b)
		}
		for write := range 2 { // the Append, the Sync
			if len(l) == 0 {
				continue
			}
			what := fmt.Sprintf("write %d broke off, and %d bytes stay", write+1, keep)
			d := laid(t, m.room, m.file)
			s := opened(t, d, begun(9, 0))
			d.Trip(write+1, keep)
			errorIs(t, what, save(t, s, to), api.ErrOff)
			hasIs(t, what, s, m.has)
			d.Start()
			fileIs(t, what, d, after)
			recovers(t, what, d, has, file, to)
			if t.Failed() {
				t.Fatalf("Save of %s\nbehind %s", told(to), told(m.has))
			}
		}
	}
}

func breaksAnew(t *testing.T, m model, to api.Hard) {
	t.Helper()
	for _, keep := range []int{-1, 0, 1, 10, math.MaxInt} {
		what := fmt.Sprintf("putting anew broke off, and %d bytes stay", keep)
		d := laid(t, m.room, m.file)
		s := opened(t, d, begun(9, 0))
		d.Trip(1, keep)
		errorIs(t, what, save(t, s, to), api.ErrOff)
		hasIs(t, what, s, m.has)
		d.Start()
		fileIs(t, what, d, m.file)
		recovers(t, what, d, m.has, m.file, to)
		if t.Failed() {
			t.Fatalf("Save of %s\nbehind %s", told(to), told(m.has))
		}
	}
}

// recovers opens a disk behind a crash: what is there is has, and the file is these whole frames; then to is saved.
func recovers(t *testing.T, what string, d *disk.Disk, has api.Hard, file []byte, to api.Hard) {
	t.Helper()
	if d.Size() > len(file) { // the power may go again
		before, _ := d.Read()
		d.Trip(1, 1)
		_, e := open(t, d, begun(9, 0))
		errorIs(t, what+", and in Open", e, api.ErrOff)
		d.Start()
		fileIs(t, what+", and in Open", d, before)
	}
	s := foundIs(t, what, d, has)
	syncedIs(t, what, d, file)
	errorIs(t, what+", and saved again", save(t, s, to), api.OK)
	d.Crash(0)
	d.Start()
	foundIs(t, what+", and saved again", d, to)
}

func TestThePowerGoesInSave(t *testing.T) { // P11.2, P11.3
	from := begun(3, 2, entries(1, 1, 2, 3)...)
	for _, to := range []api.Hard{
		begun(4, 2, from.Log...), begun(3, -1, from.Log...), begun(3, 2, append(from.Log, none(3))...), begun(3, 2, from.Log[:2]...), begun(3, 2), begun(3, 2, from.Log[0], none(3), none(3)),
		begun(5, 0, entries(2, 2, 4, 5, 5)...), based(3, 1, 1, from.Log[1:]...), based(5, 9, 5), begun(3, 2, from.Log...),
	} {
		for _, room := range []int{len(whole(from)), len(whole(from)) + 30, 200, api.MaxDisk} {
			m := model{room, whole(from), from}
			if next := m; next.save(to) == api.OK {
				breaks(t, m, to)
			}
			m.file = slices.Concat(whole(begun(3, 2)), grows(from.Log...))
			if next := m; len(m.file) <= room && next.save(to) == api.OK {
				breaks(t, m, to)
			}
		}
	}
	empty := model{api.MaxDisk, whole(begun(0, -1)), begun(0, -1)}
	breaks(t, empty, begun(1, 0))
	breaks(t, empty, begun(1, 0, none(1), none(1)))
	breaks(t, empty, based(1, 1, 1))
}

// strewn answers right hard states that may follow one another, and now and then one that may not.
type strewn struct {
	dice
	seq int
}

func (x *strewn) entry(term int) api.Entry {
	x.seq++
	switch x.below(8) {
	case 0:
		return none(term)
	case 1:
		return change(term, api.Conf{Full: 1 + x.below(3), Wit: 4 * x.below(4), Learn: 64 * x.below(2)})
	}
	v := []api.Value{number(float64(x.seq)), number(nan), number(minus), number(0), text("a"), text(strings.Repeat("t", x.below(api.MaxText+1)))}[x.below(6)]
	if x.below(3) == 0 {
		return put(term, 1, v)
	}
	return put(term, x.seq, v)
}

// grown answers l and up to so many entries more.
func (x *strewn) grown(l []api.Entry, least, term, most int) []api.Entry {
	l = slices.Clone(l)
	if n := len(l); n > 0 {
		least = l[n-1].Term
	}
	for range x.below(most + 1) {
		least += x.below(term - least + 1)
		l = append(l, x.entry(least))
	}
	return l
}

func (x *strewn) next(h api.Hard) api.Hard {
	h = copied(h)
	if x.below(3) == 0 {
		h.Term, h.Vote = h.Term+x.below(3), x.below(8)-1
	}
	least := max(h.BaseTerm, 1)
	if h.Term < 1 {
		return h
	}
	n := len(h.Log)
	switch x.below(7) {
	case 0, 1, 2:
		h.Log = x.grown(h.Log, least, h.Term, 3)
	case 3:
		h.Log = x.grown(h.Log[:x.below(n+1)], least, h.Term, 4)
	case 4:
		if n > 0 && x.below(2) == 0 {
			k := x.below(n)
			h.Base, h.BaseTerm, h.Log = h.Base+k+1, h.Log[k].Term, h.Log[k+1:]
			h.Snap = bytes.Repeat([]byte{byte(x.seq)}, x.below(20))
		}
	case 5:
		if n > 0 {
			k := x.below(n)
			h.Log[k] = x.entry(h.Log[k].Term)
		}
	}
	switch x.below(40) {
	case 0:
		h.Term--
	case 1:
		h.Base--
	case 2:
		h.Log = append(h.Log, none(h.Term+1))
	case 3:
		h.BaseConf.Wit = []int{0, 8, 16, 1}[x.below(4)]
	}
	return h
}

// TestRowsOfSaves holds long rows against the chapter told plainly, with Opens and crashes between.
func TestRowsOfSaves(t *testing.T) { // P11.1, P11.2
	told := map[api.Errno]int{}
	for seed := range 60 {
		x := strewn{dice: dice(seed)}
		m := model{room: 100 + x.below(500) + 3000*x.below(2), has: begun(x.below(3), x.below(8)-1)}
		if m.has.Vote == 7-1 {
			m.has.Vote = 0
		}
		d := made(t, m.room)
		s := opened(t, d, m.has)
		m.file = whole(m.has)
		for range 300 {
			h := x.next(m.has)
			e := m.save(h)
			told[e]++
			errorIs(t, "a Save", save(t, s, h), e)
			hasIs(t, "a Save", s, m.has)
			fileIs(t, "a Save", d, m.file)
			if x.below(4) == 0 {
				d.Crash(x.below(100))
				d.Start()
			}
			if x.below(4) == 0 {
				s = foundIs(t, "a Save", d, m.has)
			}
			if t.Failed() {
				t.FailNow()
			}
		}
		syncedIs(t, "at the end", d, m.file)
	}
	if told[api.OK] < 5000 || told[api.ErrBad] < 300 || told[api.ErrFull] < 300 {
		t.Errorf("errors of the model: %v", told)
	}
}

// TestWhereverThePowerGoes breaks off each Save of a long run at each write, with each number of bytes that stay.
func TestWhereverThePowerGoes(t *testing.T) { // P11.3
	broken, anew := 0, 0
	for seed := range 3 {
		x := strewn{dice: dice(100 + seed)}
		m := model{room: []int{250, 600, 5000}[seed%3], has: begun(1, 0)}
		m.file = whole(m.has)
		for range 60 {
			h := x.next(m.has)
			next := m
			if next.save(h) != api.OK {
				continue
			}
			breaks(t, m, h)
			broken++
			if m.isAnew(h) {
				anew++
			}
			m = next
		}
	}
	if broken < 120 || anew < 15 || anew > broken/2 {
		t.Errorf("%d Saves, %d of them anew", broken, anew)
	}
}

// TestCrashesFollowOneAnother lets the power go again and again, with nothing known of how: it holds P11.3's sentence alone.
func TestCrashesFollowOneAnother(t *testing.T) { // P11.3
	for seed := range 40 {
		x := strewn{dice: dice(1000 + seed)}
		has := begun(1, 0)
		d := made(t, 400+x.below(4000))
		s := opened(t, d, has)
		for range 150 {
			may := []api.Hard{has}
			if x.below(3) > 0 {
				d.Trip(1+x.below(8), x.below(120)-10)
			}
			for range 1 + x.below(6) {
				h := x.next(has)
				e := save(t, s, h)
				if e == api.OK {
					has, may = copied(h), []api.Hard{h}
				}
				if e == api.ErrOff && alikeBases(has, h) {
					for _, step := range steps(has, h) {
						may = append(may, step.has)
					}
				}
				if e == api.ErrOff {
					break
				}
			}
			d.Crash(x.below(120) - 10)
			for {
				d.Start()
				if x.below(2) == 0 {
					d.Trip(1, x.below(30))
				}
				var e api.Errno
				if s, e = open(t, d, begun(0, -1)); e == api.OK {
					break
				}
				errorIs(t, "Open behind a crash", e, api.ErrOff)
			}
			d.Trip(0, 0)
			found := s.Hard()
			if !slices.ContainsFunc(may, func(h api.Hard) bool { return alikeHards(found, h) }) {
				t.Fatalf("behind a crash there is %s\nwhere %s was saved last", told(found), told(has))
			}
			has = found
		}
	}
}
