package conf_test

import (
	"math"
	"testing"

	"skerry/api"
	"skerry/conf"
)

// others are numbers that are no bits of nodes: negative ones, bits beyond the nodes, or both.
var others = []int{-1, -2, -127, -128, -129, 128, 129, 255, 1 << 31, 1<<32 | 1, 1 << 62, math.MinInt, math.MinInt | 1, math.MaxInt}

// noNodes are numbers that are no node's, some of which a shift would take for one.
var noNodes = []int{-1, -2, -57, -63, -64, -256, 7, 8, 31, 32, 62, 63, 64, 65, 128, 256, 1 << 32, 1<<32 + 1, math.MinInt, math.MinInt + 1, math.MaxInt}

func kindsOf(full, wit, learn, learnWit int) api.Conf {
	return api.Conf{Full: full, Wit: wit, Learn: learn, LearnWit: learnWit}
}

// fields answers the four, to be changed in place.
func fields(c *api.Conf) [4]*int { return [4]*int{&c.Full, &c.Wit, &c.Learn, &c.LearnWit} }

// wrong answers configurations that are not right, each for one reason.
func wrong() []api.Conf {
	l := []api.Conf{{}, {Wit: 1}, {Learn: 1}, {LearnWit: 1}, {Wit: 2, Learn: 4, LearnWit: 8}, {Wit: 127}}
	for i := range 4 {
		for _, n := range others {
			c := api.Conf{}
			if i > 0 {
				c.Full = 1
			}
			*fields(&c)[i] = n
			if n&1 == 0 || i == 0 {
				l = append(l, c)
			}
		}
		for j := range i {
			for n := range api.MaxNodes {
				c := kindsOf(1<<((n+1)%7), 0, 0, 0)
				*fields(&c)[i] |= 1 << n
				*fields(&c)[j] |= 1 << n
				l = append(l, c)
			}
		}
	}
	return append(l, kindsOf(1, 1, 1, 1), kindsOf(127, 127, 127, 127), kindsOf(7, 4, 0, 0), kindsOf(7, 24, 8, 0), kindsOf(7, 24, 32, 96))
}

func checkIs(t *testing.T, c api.Conf, want api.Errno) {
	t.Helper()
	if e := conf.Check(c); e != want {
		t.Errorf("Check(%+v) = %d, want %d", c, e, want)
	}
}

func TestExamples(t *testing.T) {
	if !conf.Quorum(kindsOf(3, 4, 0, 0), 5) {
		t.Error("Quorum({Full 3, Wit 4}, 5) = false")
	}
	if c, e := conf.Remove(kindsOf(1, 2, 0, 0), 0); e != api.ErrConf || c != (api.Conf{}) {
		t.Errorf("Remove({Full 1, Wit 2}, 0) = %+v, %d", c, e)
	}
} // P8.1, P8.2

func TestCheckOfEachField(t *testing.T) {
	checkIs(t, api.Conf{}, api.ErrConf)
	checkIs(t, kindsOf(127, 0, 0, 0), api.OK)
	checkIs(t, kindsOf(1, 126, 0, 0), api.OK)
	checkIs(t, kindsOf(1, 0, 126, 0), api.OK)
	checkIs(t, kindsOf(1, 0, 0, 126), api.OK)
	checkIs(t, kindsOf(64, 0, 0, 63), api.OK)
	checkIs(t, kindsOf(1, 6, 24, 96), api.OK)
	checkIs(t, kindsOf(0, 6, 24, 96), api.ErrConf)
	checkIs(t, kindsOf(0, 127, 0, 0), api.ErrConf)
	checkIs(t, kindsOf(0, 0, 127, 0), api.ErrConf)
	checkIs(t, kindsOf(0, 0, 0, 127), api.ErrConf)
	for i := range 4 {
		for _, n := range others {
			c := api.Conf{}
			*fields(&c)[i] = n
			checkIs(t, c, api.ErrConf)
			if i > 0 {
				c.Full = 1
				checkIs(t, c, api.ErrConf)
			}
		}
	}
} // P8.1

func TestCheckOfANodeInTwoFields(t *testing.T) {
	for i := range 4 {
		for j := range i {
			for n := range api.MaxNodes {
				c := kindsOf(1<<((n+1)%7), 0, 0, 0)
				*fields(&c)[i] |= 1 << n
				checkIs(t, c, api.OK)
				*fields(&c)[j] |= 1 << n
				checkIs(t, c, api.ErrConf)
			}
		}
	}
	for _, c := range wrong() {
		checkIs(t, c, api.ErrConf)
	}
} // P8.1

func bitsAre(t *testing.T, c api.Conf, voters, all int) {
	t.Helper()
	if got := conf.Voters(c); got != voters {
		t.Errorf("Voters(%+v) = %d, want %d", c, got, voters)
	}
	if got := conf.All(c); got != all {
		t.Errorf("All(%+v) = %d, want %d", c, got, all)
	}
}

func TestVotersAndAll(t *testing.T) {
	bitsAre(t, api.Conf{}, 0, 0)
	bitsAre(t, kindsOf(1, 6, 24, 96), 7, 127)
	bitsAre(t, kindsOf(1, 0, 24, 96), 1, 121)
	bitsAre(t, kindsOf(0, 6, 0, 0), 6, 6)
	bitsAre(t, kindsOf(0, 0, 8, 0), 0, 8)
	bitsAre(t, kindsOf(0, 0, 0, 16), 0, 16)
	bitsAre(t, kindsOf(3, 6, 12, 24), 7, 31)
	bitsAre(t, kindsOf(128, 1<<40, 1<<62, 1<<20), 128+1<<40, 128+1<<20+1<<40+1<<62)
	bitsAre(t, kindsOf(-128, 3, 0, 4), -125, -121)
	bitsAre(t, kindsOf(1, math.MinInt, 2, 0), math.MinInt+1, math.MinInt+3)
	bitsAre(t, kindsOf(1, 2, -8, 0), 3, -5)
	bitsAre(t, kindsOf(1, 2, 4, -16), 3, -9)
	bitsAre(t, kindsOf(math.MaxInt, 0, math.MinInt, 0), math.MaxInt, -1)
} // P8.1

func TestCount(t *testing.T) {
	for _, r := range []struct{ bits, want int }{
		{0, 0}, {1, 1}, {64, 1}, {65, 2}, {63, 6}, {126, 6}, {127, 7}, {85, 4}, {42, 3},
		{-1, 7}, {-2, 6}, {-127, 1}, {-128, 0}, {-129, 7}, {-64, 1},
		{128, 0}, {129, 1}, {255, 7}, {1 << 7, 0}, {1<<7 | 1<<6, 1}, {1 << 31, 0}, {1<<32 | 1, 1}, {1 << 62, 0},
		{math.MaxInt, 7}, {math.MinInt, 0}, {math.MinInt | 5, 2},
	} {
		if got := conf.Count(r.bits); got != r.want {
			t.Errorf("Count(%d) = %d, want %d", r.bits, got, r.want)
		}
	}
} // P8.1

// quorum says of bits whether they are one of c.
type quorum struct {
	c    api.Conf
	bits int
	want bool
}

func quorumsAre(t *testing.T, l []quorum) {
	t.Helper()
	for _, r := range l {
		if got := conf.Quorum(r.c, r.bits); got != r.want {
			t.Errorf("Quorum(%+v, %d) = %v", r.c, r.bits, got)
		}
	}
}

func TestQuorumAtTheHalf(t *testing.T) {
	quorumsAre(t, []quorum{
		{kindsOf(1, 0, 0, 0), 1, true}, {kindsOf(1, 0, 0, 0), 0, false}, {kindsOf(1, 0, 0, 0), 126, false},
		{kindsOf(3, 0, 0, 0), 1, false}, {kindsOf(3, 0, 0, 0), 2, false}, {kindsOf(3, 0, 0, 0), 3, true},
		{kindsOf(1, 2, 0, 0), 1, false}, {kindsOf(1, 2, 0, 0), 2, false}, {kindsOf(1, 2, 0, 0), 3, true},
		{kindsOf(3, 4, 0, 0), 1, false}, {kindsOf(3, 4, 0, 0), 4, false}, {kindsOf(3, 4, 0, 0), 3, true}, {kindsOf(3, 4, 0, 0), 6, true},
		{kindsOf(1, 6, 0, 0), 6, true}, // of witnesses alone
		{kindsOf(3, 12, 0, 0), 5, false}, {kindsOf(3, 12, 0, 0), 12, false}, {kindsOf(3, 12, 0, 0), 13, true},
		{kindsOf(127, 0, 0, 0), 7, false}, {kindsOf(127, 0, 0, 0), 15, true}, {kindsOf(63, 0, 0, 0), 7, false}, {kindsOf(63, 0, 0, 0), 15, true},
		{kindsOf(3, 4, 8, 16), 25, false},  // those that learn don't vote
		{kindsOf(3, 4, 8, 16), 120, false}, // others' bits alone
		{kindsOf(3, 4, 8, 16), 1 | 120, false}, {kindsOf(3, 4, 8, 16), 3 | 120, true},
		{kindsOf(3, 4, 0, 0), 1 | 1<<7 | 1<<20, false}, {kindsOf(3, 4, 0, 0), 5 | 1<<7 | 1<<20, true},
		{kindsOf(3, 4, 0, 0), -1, true}, {kindsOf(3, 4, 0, 0), -8, false}, {kindsOf(3, 4, 0, 0), -7, false}, {kindsOf(3, 4, 0, 0), -6, false}, {kindsOf(3, 4, 0, 0), -5, true},
		{kindsOf(3, 4, 0, 0), math.MinInt, false}, {kindsOf(3, 4, 0, 0), math.MaxInt, true}, {kindsOf(3, 4, 0, 0), math.MinInt | 6, true},
	})
} // P8.1

func TestQuorumOfConfigurationsThatAreNotRight(t *testing.T) {
	quorumsAre(t, []quorum{
		{api.Conf{}, 0, false}, {api.Conf{}, 127, false}, {api.Conf{}, -1, false}, // nobody votes
		{kindsOf(0, 0, 1, 2), 3, false},
		{kindsOf(0, 7, 0, 0), 3, true}, {kindsOf(0, 7, 0, 0), 1, false},
		{kindsOf(3, 6, 0, 0), 2, false}, {kindsOf(3, 6, 0, 0), 3, true}, // a node in two fields votes once
		{kindsOf(3, 3, 0, 0), 1, false},
		{kindsOf(1, 1<<7, 0, 0), 1, true}, {kindsOf(1<<7, 0, 0, 0), 1 << 7, false}, {kindsOf(7<<7|1, 0, 0, 0), 7<<7 | 1, true}, {kindsOf(7<<7|3, 0, 0, 0), 7<<7 | 1, false},
		{kindsOf(-1, 0, 0, 0), 15, true}, {kindsOf(-1, 0, 0, 0), 7, false}, {kindsOf(-128, 1, 0, 0), 1, true}, {kindsOf(-128, 0, 0, 0), -1, false},
		{kindsOf(1, math.MinInt|2, 0, 0), math.MinInt | 1, false}, {kindsOf(1, math.MinInt|2, 0, 0), 3, true},
		{kindsOf(1, 2, 3, 3), 3, true}, {kindsOf(1, 2, 3, -1), 1, false},
	})
} // P8.1

func kindIs(t *testing.T, c api.Conf, i int, want string) {
	t.Helper()
	if got := conf.Kind(c, i); got != want {
		t.Errorf("Kind(%+v, %d) = %q, want %q", c, i, got, want)
	}
}

func TestKind(t *testing.T) {
	names := [4]string{"full", "wit", "learn", "learnwit"}
	for i := range api.MaxNodes {
		kindIs(t, api.Conf{}, i, "")
		kindIs(t, kindsOf(127, 127, 127, 127), i, "full")
		kindIs(t, kindsOf(0, 127, 127, 127), i, "wit")
		kindIs(t, kindsOf(0, 0, 127, 127), i, "learn")
		kindIs(t, kindsOf(0, 0, 0, -1), i, "learnwit")
		kindIs(t, kindsOf(-128, 1<<7, math.MinInt, 1<<31), i, "")
		for k, name := range names {
			for n := range api.MaxNodes {
				c := api.Conf{}
				*fields(&c)[k] = 1 << n
				want := ""
				if n == i {
					want = name
				}
				kindIs(t, c, i, want)
			}
			for j := range k {
				c := api.Conf{}
				*fields(&c)[k] = 1 << i
				*fields(&c)[j] = 1 << i
				kindIs(t, c, i, names[j])
			}
		}
	}
} // P8.1

func TestKindOfNoNode(t *testing.T) {
	for _, c := range []api.Conf{{}, kindsOf(127, 0, 0, 0), kindsOf(-1, -1, -1, -1), kindsOf(0, -1, 0, 0), kindsOf(0, 0, -1, 0), kindsOf(0, 0, 0, -1), kindsOf(1, 6, 24, 96), kindsOf(1<<7, 1<<8, 1<<31, 1<<62)} {
		for _, i := range noNodes {
			kindIs(t, c, i, "")
		}
	}
} // P8.1

func nearIs(t *testing.T, a, b api.Conf, want bool) {
	t.Helper()
	if got := conf.Near(a, b); got != want {
		t.Errorf("Near(%+v, %+v) = %v", a, b, got)
	}
}

func TestNear(t *testing.T) {
	c := kindsOf(3, 4, 8, 16)
	nearIs(t, c, c, true)
	for _, r := range []struct {
		to         api.Conf
		there, ago bool
	}{
		{kindsOf(3, 4, 8|32, 16), true, true},  // one learns, and stops
		{kindsOf(3, 4, 8, 16|64), true, true},  // the same of a witness
		{kindsOf(3|8, 4, 0, 16), true, false},  // who learned is a voter
		{kindsOf(3, 4|16, 8, 0), true, false},  // the same of a witness
		{kindsOf(1, 4, 8, 16), true, false},    // a full one goes
		{kindsOf(3, 0, 8, 16), true, false},    // a witness goes
		{kindsOf(3, 4, 0, 16), true, true},     // one that learned stops
		{kindsOf(3, 4, 8, 0), true, true},      // the same of a witness
		{kindsOf(3|32, 4, 8, 16), false, true}, // nobody is a voter at once
		{kindsOf(3, 4|32, 8, 16), false, true},
		{kindsOf(3|4, 0, 8, 16), false, false},     // a voter's kind stays
		{kindsOf(1, 4|2, 8, 16), false, false},     // the same of a full one
		{kindsOf(3|16, 4, 8, 0), false, false},     // one that learned of one kind is a voter of the other one
		{kindsOf(3, 4|8, 0, 16), false, false},     // the same the other way
		{kindsOf(3, 4, 8|16, 0), false, false},     // what it learns to be stays
		{kindsOf(3, 4, 0, 8|16), false, false},     // the same the other way
		{kindsOf(1, 4, 8|2, 16), false, true},      // a voter that learns: only the way back is a step
		{kindsOf(3, 0, 8, 16|4), false, true},      // the same of a witness
		{kindsOf(1, 4, 8, 16|2), false, false},     // a full one learns to be a witness
		{kindsOf(3, 4, 8|32|64, 16), false, false}, // two at a time
		{kindsOf(3, 4, 8|32, 16|64), false, false}, // the same of both kinds
		{kindsOf(3|8, 4|16, 0, 0), false, false},   // both become voters
		{kindsOf(3, 4, 0, 0), false, false},        // both stop
		{kindsOf(1, 0, 8, 16), false, false},       // both go
		{kindsOf(1|32, 4, 8, 16), false, false},    // one goes, another one comes
		{kindsOf(1, 4, 8|32, 16), false, false},    // one goes, another one learns
		{kindsOf(1|8, 4, 0, 16), false, false},     // one goes, one that learned takes its place
		{kindsOf(3, 4, 32, 16), false, false},      // one stops, another one learns
		{kindsOf(3|8, 4, 32, 16), false, false},    // one becomes a voter, another one learns
		{kindsOf(0, 4, 8, 16), false, false},       // nobody is full
		{kindsOf(3, 4, 8, 16|8), false, false},     // one in two fields
		{kindsOf(3, 4, 8|128, 16), false, false},   // no node
	} {
		nearIs(t, c, r.to, r.there)
		nearIs(t, r.to, c, r.ago)
	}
	nearIs(t, kindsOf(1, 2, 0, 0), kindsOf(0, 2, 0, 0), false) // the last of Full
	nearIs(t, kindsOf(1, 0, 0, 0), api.Conf{}, false)
	nearIs(t, kindsOf(2, 0, 0, 0), kindsOf(1, 0, 0, 0), false)
} // P8.2

func TestNearOfConfigurationsThatAreNotRight(t *testing.T) {
	for _, w := range wrong() {
		nearIs(t, w, w, false)
		for _, c := range []api.Conf{{}, kindsOf(1, 0, 0, 0), kindsOf(3, 0, 0, 0), kindsOf(1, 2, 0, 0), kindsOf(1, 0, 2, 0), kindsOf(1, 0, 0, 2)} {
			nearIs(t, w, c, false)
			nearIs(t, c, w, false)
		}
		for i := range 4 { // what would be a step, were it right
			for n := range api.MaxNodes {
				c := w
				*fields(&c)[i] ^= 1 << n
				nearIs(t, w, c, false)
				nearIs(t, c, w, false)
			}
		}
	}
} // P8.2

// made is what one of the three steps answers.
type made struct {
	c api.Conf
	e api.Errno
}

var noConf = made{e: api.ErrConf}

// steps answers what all four would make of c and node i: Learn of both kinds, Promote, Remove.
func steps(c api.Conf, i int) [4]made {
	var l [4]made
	l[0].c, l[0].e = conf.Learn(c, i, false)
	l[1].c, l[1].e = conf.Learn(c, i, true)
	l[2].c, l[2].e = conf.Promote(c, i)
	l[3].c, l[3].e = conf.Remove(c, i)
	return l
}

func stepsAre(t *testing.T, c api.Conf, i int, want [4]made) {
	t.Helper()
	if got := steps(c, i); got != want {
		t.Errorf("of %+v and node %d: %+v, want %+v", c, i, got, want)
	}
}

func right(full, wit, learn, learnWit int) made { return made{c: kindsOf(full, wit, learn, learnWit)} }

func TestStepsOfEachState(t *testing.T) {
	c := kindsOf(3, 4, 8, 16)
	stepsAre(t, c, 0, [4]made{noConf, noConf, noConf, right(2, 4, 8, 16)})
	stepsAre(t, c, 1, [4]made{noConf, noConf, noConf, right(1, 4, 8, 16)})
	stepsAre(t, c, 2, [4]made{noConf, noConf, noConf, right(3, 0, 8, 16)})
	stepsAre(t, c, 3, [4]made{noConf, noConf, right(11, 4, 0, 16), right(3, 4, 0, 16)})
	stepsAre(t, c, 4, [4]made{noConf, noConf, right(3, 20, 8, 0), right(3, 4, 8, 0)})
	stepsAre(t, c, 5, [4]made{right(3, 4, 40, 16), right(3, 4, 8, 48), noConf, noConf})
	stepsAre(t, c, 6, [4]made{right(3, 4, 72, 16), right(3, 4, 8, 80), noConf, noConf})
} // P8.2

func TestStepsOfTheLastFullOne(t *testing.T) {
	for i := range api.MaxNodes {
		bit, rest := 1<<i, 127&^(1<<i)
		for _, c := range []api.Conf{kindsOf(bit, 0, 0, 0), kindsOf(bit, rest, 0, 0), kindsOf(bit, 0, rest, 0), kindsOf(bit, 0, 0, rest)} {
			stepsAre(t, c, i, [4]made{noConf, noConf, noConf, noConf})
		}
	}
	stepsAre(t, kindsOf(2, 1, 0, 0), 0, [4]made{noConf, noConf, noConf, right(2, 0, 0, 0)}) // the last witness may go
} // P8.2

func TestStepsTellErrorsInTheirOrder(t *testing.T) {
	all := func(e api.Errno) [4]made { return [4]made{{e: e}, {e: e}, {e: e}, {e: e}} }
	for _, c := range wrong() {
		for i := range api.MaxNodes {
			stepsAre(t, c, i, all(api.ErrConf))
		}
		for _, i := range noNodes {
			stepsAre(t, c, i, all(api.ErrConf))
		}
	}
	for _, c := range []api.Conf{kindsOf(1, 0, 0, 0), kindsOf(3, 4, 8, 16), kindsOf(127, 0, 0, 0), kindsOf(64, 63, 0, 0)} {
		for _, i := range noNodes {
			stepsAre(t, c, i, all(api.ErrArg))
		}
	}
} // P8.2
