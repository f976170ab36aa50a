package stable_test

import (
	"bytes"
	"slices"
	"testing"

	"skerry/api"
	"skerry/stable"
)

// TestAllShortFiles takes all files of up to two bytes, and all files with a record of up to two bytes.
func TestAllShortFiles(t *testing.T) { // P11.1, R1
	var short [][]byte
	short = append(short, nil)
	for a := range 256 {
		short = append(short, []byte{byte(a)})
		for b := range 256 {
			short = append(short, []byte{byte(a), byte(b)})
		}
	}
	first := whole(begun(3, 2, none(1), none(2)))
	right := 0
	for _, b := range short {
		for _, file := range [][]byte{b, framed(b), slices.Concat(first, framed(b)), slices.Concat(first, b), slices.Concat(framed(b), first)} {
			if len(file) > 0 && holdsModel(t, file) {
				right++
			}
			if t.Failed() {
				t.Fatalf("the file %x", file)
			}
		}
	}
	if right < len(short) {
		t.Errorf("only %d right files", right)
	}
}

// rightFile has a record of each number, and each kind of entry.
func rightFile() []byte {
	from := based(300, 5, 2, none(2), put(3, 1, number(1)), change(200, api.Conf{Full: 1, Wit: 2}))
	to := with(from, from.Log[:2], []api.Entry{put(300, 7, text("ab"))})
	to.Term, to.Vote = 301, -1
	return slices.Concat(whole(from), joined(steps(from, to)), cut(6), grow(change(250, one)), vote(301, 6))
}

func TestCutsOfARightFile(t *testing.T) { // P11.1, P11.3, R1
	file := rightFile()
	if h, n, ok := found(file); !ok || n != len(file) || h.Vote != 6 {
		t.Fatal("the file is none")
	}
	for k := 1; k < len(file); k++ {
		holdsModel(t, file[:k])
		holdsModel(t, file[k:])
		for more := range 256 {
			holdsModel(t, append(bytes.Clone(file[:k]), byte(more)))
		}
		if t.Failed() {
			t.Fatalf("%d bytes of the file %x", k, file)
		}
	}
}

func TestEachByteOfARightFile(t *testing.T) { // P11.1, R1
	file := rightFile()
	for k, was := range file {
		for x := range 256 {
			file[k] = byte(x)
			holdsModel(t, file)
			if t.Failed() {
				t.Fatalf("byte %d of the file %x", k, file)
			}
		}
		file[k] = was
	}
}

// TestEachByteOfRightRecords changes what is sealed: the frames are whole.
func TestEachByteOfRightRecords(t *testing.T) { // P11.1, R1
	records, _ := scanned(rightFile())
	all := func() []byte {
		var b []byte
		for _, r := range records {
			b = append(b, framed(r)...)
		}
		return b
	}
	right := 0
	for i, r := range records {
		for k := range r {
			for x := range 256 {
				records[i] = bytes.Clone(r)
				records[i][k] = byte(x)
				if holdsModel(t, all()) {
					right++
				}
				records[i] = slices.Concat(r[:k], []byte{byte(x)}, r[k:])
				holdsModel(t, all())
			}
			records[i] = slices.Concat(r[:k], r[k+1:])
			holdsModel(t, all())
			if t.Failed() {
				t.Fatalf("byte %d of the record %x", k, r)
			}
		}
		records[i] = r
	}
	if right < 1000 {
		t.Errorf("only %d right files", right)
	}
}

// TestStrewnFiles strews records, right ones and others, and bytes.
func TestStrewnFiles(t *testing.T) { // P11.1, R1
	x := strewn{dice: 5}
	right, tails := 0, 0
	for range 20000 {
		h := based(1+x.below(3), 1, 1, x.grown(nil, 1, 1, 4)...)
		file := whole(h)
		for range x.below(8) {
			last := h.Base + len(h.Log)
			var b []byte
			switch x.below(6) {
			case 0:
				b = vote(h.Term+x.below(3)-x.below(2)*x.below(2), x.below(8)-1)
			case 1, 2:
				b = cut(last - x.below(4))
			case 3, 4:
				b = grow(x.entry(1 + x.below(3)))
			case 5:
				b = framed([]byte{byte(x.below(5)), byte(x.below(12)), byte(x.below(12))})
			}
			if x.below(30) == 0 {
				b[x.below(len(b))] ^= 1 << x.below(8)
			}
			file = append(file, b...)
			if next, _, ok := found(file); ok {
				h = next
			}
		}
		if holdsModel(t, file) {
			right++
			if _, n, _ := found(file); n < len(file) {
				tails++
			}
		}
		if t.Failed() {
			t.Fatalf("the file %x", file)
		}
	}
	if right < 2000 || tails < 100 || right > 19000 {
		t.Errorf("%d right files, %d with more behind", right, tails)
	}
}

// TestWhatWasAnsweredStays holds an answer behind all that is done later.
func TestWhatWasAnsweredStays(t *testing.T) { // R2
	x := strewn{dice: 9}
	has := based(3, 1, 1, none(1), none(2))
	d := made(t, api.MaxDisk)
	s := opened(t, d, has)
	var answers, wants []api.Hard
	for k := range 200 {
		h := x.next(has)
		if save(t, s, h) == api.OK {
			has = h
		}
		answers, wants = append(answers, s.Hard()), append(wants, copied(has))
		if k%10 == 9 {
			s = foundIs(t, "a row of answers", d, has)
		}
	}
	for k, h := range answers {
		if !alikeHards(h, wants[k]) {
			t.Fatalf("an answer has %s\nnot %s", told(h), told(wants[k]))
		}
		if k%2 == 0 {
			scribble(h)
		}
	}
	for k := 1; k < len(answers); k += 2 {
		if !alikeHards(answers[k], wants[k]) {
			t.Fatalf("behind writing over others, an answer has %s\nnot %s", told(answers[k]), told(wants[k]))
		}
	}
	hasIs(t, "behind writing over its answers", s, has)
}

// TestWhatIsHandedInIsItsOwn hands the same memory in again and again, and what Hard answered.
func TestWhatIsHandedInIsItsOwn(t *testing.T) { // R2
	log := make([]api.Entry, 3, 20)
	copy(log, []api.Entry{none(1), none(2), none(2)})
	snap := append(make([]byte, 0, 20), "snap"...)
	h := based(2, 5, 1, log...)
	h.Log, h.Snap = log, snap
	d := made(t, api.MaxDisk)
	s, e := stable.Open(d, h)
	errorIs(t, "Open", e, api.OK)
	want := copied(h)
	log[1], snap[0] = put(2, 1, number(1)), 'S'
	hasIs(t, "behind a change of what Open was handed", s, want)
	for k := range 10 {
		h.Log = append(h.Log, put(2, k+1, number(float64(k)))) // in the spare room, too
		h.Snap = append(h.Snap, byte(k))
		errorIs(t, "Save", s.Save(h), api.OK)
		want = copied(h)
		h.Log[k], h.Snap[k] = put(2, k+9, text("x")), 'x'
		hasIs(t, "behind a change of what Save was handed", s, want)
		h.Log[k], h.Snap[k] = want.Log[k], want.Snap[k]
	}
	for k := range 10 {
		own := s.Hard()
		own.Term++
		own.Log = append(own.Log, none(own.Term))
		if k%3 == 2 {
			own.Log[1] = none(2)
			own.Log = own.Log[:2+k]
			own.Snap[0]++
		}
		errorIs(t, "Save of an answer", s.Save(own), api.OK)
		want = copied(own)
		scribble(own)
		hasIs(t, "behind a change of an answer that was saved", s, want)
		s = foundIs(t, "an answer that was saved", d, want)
	}
}

func TestStoresHaveNothingInCommon(t *testing.T) { // R3
	first := begun(1, 0, none(1))
	a, b := made(t, 200), made(t, 200)
	s, u := opened(t, a, first), opened(t, b, first)
	errorIs(t, "Save in the one", save(t, s, begun(2, 1, none(1), none(2))), api.OK)
	hasIs(t, "the other one", u, first)
	a.Crash(0)
	errorIs(t, "Save in the other one", save(t, u, begun(3, 1)), api.OK)
	errorIs(t, "Save in the one", save(t, s, begun(4, 1)), api.ErrOff)
	a.Start()
	foundIs(t, "the one", a, begun(2, 1, none(1), none(2)))
	foundIs(t, "the other one", b, begun(3, 1))
}

// TestTheDiskIsKept: its power and its room are the store's.
func TestTheDiskIsKept(t *testing.T) { // P11.1
	d := made(t, 200)
	s := opened(t, d, begun(1, 0))
	d.Crash(0)
	errorIs(t, "Save", save(t, s, begun(2, 0)), api.ErrOff)
	hasIs(t, "with the power off", s, begun(1, 0))
	d.Start()
	u := opened(t, d, begun(1, 0))
	errorIs(t, "Save", save(t, u, begun(2, 0)), api.OK)
	if d.Size() != len(whole(begun(1, 0)))+len(vote(2, 0)) {
		t.Errorf("the disk has %d bytes", d.Size())
	}
}

// TestAStoreThatOpenDidNotMake has no disk.
func TestAStoreThatOpenDidNotMake(t *testing.T) { // R1
	for _, h := range append(wrongHards(), begun(1, 0), based(3, 5, 1)) {
		var s stable.Store
		errorIs(t, "Save without a disk", save(t, &s, h), api.ErrOff)
		hasIs(t, "without a disk", &s, api.Hard{})
	}
}
