package conf_test

import (
	"testing"

	"skerry/api"
	"skerry/conf"
)

// The chapter told plainly, by what each node is: what conf is held against.

// what says of each node what it is: "" or one of the four.
type what [7]string

var allKinds = []string{"", "full", "wit", "learn", "learnwit"}

// bitsOf answers them as bits: each node's are added.
func bitsOf(w what) api.Conf {
	var c api.Conf
	power := 1
	for _, kind := range w {
		switch kind {
		case "full":
			c.Full += power
		case "wit":
			c.Wit += power
		case "learn":
			c.Learn += power
		case "learnwit":
			c.LearnWit += power
		}
		power *= 2
	}
	return c
}

// everyWhat answers each that has a full one.
func everyWhat() []what {
	l := []what{{}}
	for i := range 7 {
		var longer []what
		for _, w := range l {
			for _, kind := range allKinds {
				w[i] = kind
				longer = append(longer, w)
			}
		}
		l = longer
	}
	var rights []what
	for _, w := range l {
		if isRight(w) {
			rights = append(rights, w)
		}
	}
	return rights
}

func isRight(w what) bool {
	for _, kind := range w {
		if kind == "full" {
			return true
		}
	}
	return false
}

func votes(kind string) bool { return kind == "full" || kind == "wit" }

// modelSteps answers what the four make of it and node i.
func modelSteps(w what, i int) [4]made {
	to := func(kind string) made {
		next := w
		next[i] = kind
		if !isRight(next) {
			return noConf
		}
		return made{c: bitsOf(next)}
	}
	switch w[i] {
	case "":
		return [4]made{to("learn"), to("learnwit"), noConf, noConf}
	case "learn":
		return [4]made{noConf, noConf, to("full"), to("")}
	case "learnwit":
		return [4]made{noConf, noConf, to("wit"), to("")}
	}
	return [4]made{noConf, noConf, noConf, to("")}
}

// modelNear counts the nodes that changed.
func modelNear(a, b what) bool {
	changed := 0
	for i := range 7 {
		from, to := a[i], b[i]
		switch {
		case from == to:
		case from == "" && !votes(to), from != "" && to == "", from == "learn" && to == "full", from == "learnwit" && to == "wit":
			changed++
		default:
			return false
		}
	}
	return changed <= 1
}

func TestEveryRightConfiguration(t *testing.T) {
	for _, w := range everyWhat() {
		c := bitsOf(w)
		checkIs(t, c, api.OK)
		voters, all := 0, 0
		for i, kind := range w {
			kindIs(t, c, i, kind)
			if votes(kind) {
				voters += 1 << i
			}
			if kind != "" {
				all += 1 << i
			}
		}
		bitsAre(t, c, voters, all)
		if t.Failed() {
			return
		}
	}
} // P8.1

func TestEveryStep(t *testing.T) {
	for _, w := range everyWhat() {
		c := bitsOf(w)
		nearIs(t, c, c, true)
		for i := range 7 {
			want := modelSteps(w, i)
			stepsAre(t, c, i, want)
			for _, m := range want {
				if m.e != api.OK {
					continue
				}
				checkIs(t, m.c, api.OK)
				nearIs(t, c, m.c, true)
			}
		}
		if t.Failed() {
			return
		}
	}
} // P8.2, P8.3

// TestNearOfEveryChange holds each pair of configurations that differ in one node, and strewn ones that differ in two or more.
func TestNearOfEveryChange(t *testing.T) {
	s := strewn(1)
	for _, a := range everyWhat() {
		for range 12 {
			b := a
			for range 1 + s.next(3) {
				b[s.next(7)] = allKinds[s.next(5)]
			}
			nearIs(t, bitsOf(a), bitsOf(b), isRight(b) && modelNear(a, b))
		}
		for i := range 7 {
			b := a
			for _, kind := range allKinds {
				b[i] = kind
				nearIs(t, bitsOf(a), bitsOf(b), isRight(b) && modelNear(a, b))
			}
		}
		if t.Failed() {
			return
		}
	}
} // P8.2

// TestNearOfAllPairs is of configurations of four nodes, both outer ones among them.
func TestNearOfAllPairs(t *testing.T) {
	var few []what
	for _, w := range everyWhat() {
		if w[1] == "" && w[2] == "" && w[4] == "" {
			few = append(few, w)
		}
	}
	for _, a := range few {
		answered := map[api.Conf]bool{bitsOf(a): true}
		for i := range 7 {
			for _, m := range steps(bitsOf(a), i) {
				if m.e == api.OK {
					answered[m.c] = true
				}
			}
		}
		for _, b := range few {
			nearIs(t, bitsOf(a), bitsOf(b), modelNear(a, b))
			if conf.Near(bitsOf(a), bitsOf(b)) && !answered[bitsOf(b)] {
				t.Errorf("no step from %+v answers %+v", a, b)
			}
		}
		if t.Failed() {
			return
		}
	}
} // P8.2

// countOf counts the nodes that both have.
func countOf(a, b int) int {
	n := 0
	for power := 1; power <= 64; power *= 2 {
		if a/power%2 == 1 && b/power%2 == 1 {
			n++
		}
	}
	return n
}

func TestCountOfAllBits(t *testing.T) {
	for bits := range 128 {
		for _, more := range []int{0, 128, 1 << 20, 1 << 62, -128, -1 << 63} {
			if got, want := conf.Count(bits+more), countOf(bits, bits); got != want {
				t.Fatalf("Count(%d) = %d, want %d", bits+more, got, want)
			}
		}
	}
} // P8.1

func TestQuorumOfEveryFullAndWit(t *testing.T) {
	for voters := range 128 {
		wits := []int{voters}
		for full := voters; full > 0; full = (full - 1) & voters {
			wits = append(wits, voters-full)
		}
		half := countOf(voters, voters)
		for bits := range 128 {
			want := 2*countOf(voters, bits) > half
			for _, wit := range wits {
				c := kindsOf(voters-wit, wit, 127-voters, 0)
				if conf.Quorum(c, bits) != want || conf.Quorum(c, bits-128) != want {
					t.Fatalf("Quorum(%+v, %d) = %v", c, bits, !want)
				}
			}
		}
	}
} // P8.1

// TestQuorumsHaveAVoterInCommon holds each two of quorums, of each configuration and of those that a step leads to.
func TestQuorumsHaveAVoterInCommon(t *testing.T) {
	quorums := map[int][]int{} // by the voters: all sets of them that are one
	of := func(c api.Conf) []int {
		v := conf.Voters(c)
		if _, ok := quorums[v]; !ok {
			for bits := range 128 {
				if bits&^v == 0 && conf.Quorum(c, bits) {
					quorums[v] = append(quorums[v], bits)
				}
			}
		}
		return quorums[v]
	}
	seen := map[[2]int]bool{}
	for _, w := range everyWhat() {
		a := bitsOf(w)
		for i := range 7 {
			for _, m := range steps(a, i) {
				pair := [2]int{conf.Voters(a), conf.Voters(m.c)}
				if m.e != api.OK || seen[pair] {
					continue
				}
				seen[pair] = true
				common(t, pair, of(a), of(m.c))
			}
		}
	}
	if len(seen) != 126+2*7*63 { // the same voters (but all seven: nobody is left to learn), one more, one fewer
		t.Errorf("%d pairs of voters were held", len(seen))
	}
} // P8.3

func common(t *testing.T, voters [2]int, as, bs []int) {
	t.Helper()
	if len(as) == 0 || len(bs) == 0 {
		t.Fatalf("voters %v have no quorum", voters)
	}
	for _, a := range as {
		for _, b := range bs {
			if a&b&voters[0]&voters[1] == 0 {
				t.Fatalf("quorums %d and %d of voters %v", a, b, voters)
			}
		}
	}
}

// TestRowsOfSteps takes strewn steps: each leads to a right configuration that is near.
func TestRowsOfSteps(t *testing.T) {
	s := strewn(2)
	w := what{"full"}
	taken := 0
	for range 100000 {
		i, k := s.next(7), s.next(4)
		got := steps(bitsOf(w), i)
		if want := modelSteps(w, i); got != want {
			t.Fatalf("of %v and node %d: %+v, want %+v", w, i, got, want)
		}
		if got[k].e != api.OK {
			continue
		}
		if conf.Check(got[k].c) != api.OK || !conf.Near(bitsOf(w), got[k].c) {
			t.Fatalf("from %v to %+v", w, got[k].c)
		}
		for n := range 7 {
			w[n] = conf.Kind(got[k].c, n)
		}
		taken++
	}
	if taken < 10000 {
		t.Errorf("only %d steps", taken)
	}
} // P8.2, P8.3

// strewn answers numbers that look like chance, the same ones each time.
type strewn uint64

func (s *strewn) next(n int) int {
	*s ^= *s << 13
	*s ^= *s >> 7
	*s ^= *s << 17
	return int(*s>>11) % n
}
