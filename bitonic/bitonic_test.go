package bitonic

import (
	"fmt"
	"iter"
	"math"
	"math/rand/v2"
	"slices"
	"sync"
	"testing"
)

// powers are all n of which there is a network, written out.
func powers() []int {
	return []int{1, 2, 4, 8, 16, 32, 64, 128, 256, 512, 1024, 2048, 4096, 8192, 16384, 32768, 65536}
}

// roundsOf is how many rounds each of powers has, written out.
func roundsOf() []int {
	return []int{0, 1, 3, 6, 10, 15, 21, 28, 36, 45, 55, 66, 78, 91, 105, 120, 136}
}

// noPowers are n of which there is no network: below 0, 0, those beside each
// power, those that are some powers' sum or difference, greater powers, and both
// ends of the kind.
func noPowers() []int {
	l := []int{math.MinInt, math.MinInt + 1, math.MinInt32, -1 << 17, -1 << 16, -4, -2, -1, 0, math.MaxInt - 1, math.MaxInt, 1<<32 + 4, 1<<62 + 2, 1<<16 | 1<<15}
	for e := 2; e <= 16; e++ {
		l = append(l, 1<<e-1, 1<<e+1)
	}
	for e := 17; e <= 62; e++ {
		l = append(l, 1<<e-1, 1<<e, 1<<e+1)
	}
	return l
}

// noRounds are numbers of rounds that n places, a power, do not have.
func noRounds(n int) []int {
	count := Rounds(n)
	return []int{math.MinInt, math.MinInt + 1, -1 << 32, -136, -count - 1, -count, -3, -2, -1, count, count + 1, count + 2, 2*count + 1, 137, 256, 1 << 16, 1 << 32, 1<<32 + 1, math.MaxInt - 1, math.MaxInt}
}

// pair is one of a round: its places, the first one ahead.
type pair struct{ a, b int }

// turn is what a round is by the chapter's words: a stage and a step of it.
type turn struct{ stage, step int }

// turns are the rounds of a network of 2 to its power exponent places, in order.
func turns(exponent int) []turn {
	var l []turn
	for stage := 1; stage <= exponent; stage++ {
		for step := stage; step > 0; step-- {
			l = append(l, turn{stage, step})
		}
	}
	return l
}

// power is 2 to its power e, worked out by doubling.
func power(e int) int {
	p := 1
	for range e {
		p += p
	}
	return p
}

// isLower tells whether the bit is 0 by which the two places of a pair differ.
func (u turn) isLower(a int) bool { return a/power(u.step-1)%2 == 0 }

// isUp tells whether a divided by 2 to the stage's power is even.
func (u turn) isUp(a int) bool { return a/power(u.stage)%2 == 0 }

// wantPairs are the pairs of a round of n places by the chapter's words: all
// places, with that bit 0.
func (u turn) wantPairs(n int) []pair {
	var l []pair
	for a := 0; a < n; a++ {
		if u.isLower(a) {
			l = append(l, pair{a, a + power(u.step-1)})
		}
	}
	return l
}

// collect are all pairs that are handed out, in order.
func collect(pairs iter.Seq2[int, int]) []pair {
	var l []pair
	for a, b := range pairs {
		l = append(l, pair{a, b})
	}
	return l
}

// first are the first pairs that are handed out, as many as count.
func first(pairs iter.Seq2[int, int], count int) []pair {
	var l []pair
	for a, b := range pairs {
		if l = append(l, pair{a, b}); len(l) == count {
			break
		}
	}
	return l
}

// TestExample: the chapter's example.
func TestExample(t *testing.T) {
	if got := Rounds(4); got != 3 {
		t.Errorf("P13.1: Rounds(4): %d, not 3", got)
	}
	if got := collect(Round(4, 0)); !slices.Equal(got, []pair{{0, 1}, {2, 3}}) {
		t.Errorf("P13.1: Round(4, 0): %v", got)
	}
	if !Up(4, 0, 0) || Up(4, 0, 2) {
		t.Errorf("P13.1: Up of Round(4, 0): %v, %v, not true, false", Up(4, 0, 0), Up(4, 0, 2))
	}
}

// TestWrittenOut: all rounds of two, four and eight places, each pair with
// whether it is up.
func TestWrittenOut(t *testing.T) {
	type row struct {
		a, b int
		up   bool
	}
	for n, rounds := range map[int][][]row{
		1: {},
		2: {{{0, 1, true}}},
		4: {
			{{0, 1, true}, {2, 3, false}},
			{{0, 2, true}, {1, 3, true}},
			{{0, 1, true}, {2, 3, true}},
		},
		8: {
			{{0, 1, true}, {2, 3, false}, {4, 5, true}, {6, 7, false}},
			{{0, 2, true}, {1, 3, true}, {4, 6, false}, {5, 7, false}},
			{{0, 1, true}, {2, 3, true}, {4, 5, false}, {6, 7, false}},
			{{0, 4, true}, {1, 5, true}, {2, 6, true}, {3, 7, true}},
			{{0, 2, true}, {1, 3, true}, {4, 6, true}, {5, 7, true}},
			{{0, 1, true}, {2, 3, true}, {4, 5, true}, {6, 7, true}},
		},
	} {
		if got := Rounds(n); got != len(rounds) {
			t.Errorf("P13.1: Rounds(%d): %d, not %d", n, got, len(rounds))
		}
		for r, want := range rounds {
			var got []row
			for a, b := range Round(n, r) {
				got = append(got, row{a, b, Up(n, r, a)})
			}
			if !slices.Equal(got, want) {
				t.Errorf("P13.1: Round(%d, %d): %v, not %v", n, r, got, want)
			}
		}
	}
}

// TestRounds: each power, and all other numbers about them.
func TestRounds(t *testing.T) {
	want := map[int]int{}
	for e, n := range powers() {
		want[n] = roundsOf()[e]
		if got := Rounds(n); got != want[n] {
			t.Errorf("P13.1: Rounds(%d): %d, not %d", n, got, want[n])
		}
		if got := len(turns(e)); got != want[n] {
			t.Errorf("P13.1: %d places have %d rounds by the chapter's words, not %d", n, got, want[n])
		}
	}
	for n := -3000; n <= 1<<18+3; n++ {
		if got := Rounds(n); got != want[n] {
			t.Errorf("P13.1: Rounds(%d): %d, not %d", n, got, want[n])
		}
	}
	for _, n := range noPowers() {
		if got := Rounds(n); got != 0 {
			t.Errorf("P13.1: Rounds(%d): %d, not 0", n, got)
		}
	}
}

// TestPadded: each power, those beside it, all numbers about the networks', and
// both ends of the kind.
func TestPadded(t *testing.T) {
	pads := func(n, want int) {
		t.Helper()
		if got := Padded(n); got != want {
			t.Errorf("P13.1: Padded(%d): %d, not %d", n, got, want)
		}
	}
	for _, n := range powers() {
		pads(n, n)
		pads(n+1, min(2*n, 65536))
		if n > 2 {
			// One less is more than the power ahead of it.
			pads(n-1, n)
		}
	}
	for n := -3000; n <= 1<<18+3; n++ {
		want := 65536
		if i := slices.IndexFunc(powers(), func(p int) bool { return p >= n }); i >= 0 {
			want = powers()[i]
		}
		pads(n, want)
	}
	for _, n := range noPowers() {
		if n < 1 {
			pads(n, 1)
		}
		if n > 65536 {
			pads(n, 65536)
		}
	}
}

// TestRound: each power and each of its rounds against the chapter's words; first
// places rise, and each place is in just one pair.
func TestRound(t *testing.T) {
	for e, n := range powers() {
		if n > 2048 {
			break
		}
		for r, u := range turns(e) {
			got := collect(Round(n, r))
			if !slices.Equal(got, u.wantPairs(n)) {
				t.Fatalf("P13.1: Round(%d, %d), the stage %d, the step %d: %v", n, r, u.stage, u.step, got)
			}
			seen := make([]int, n)
			for i, p := range got {
				seen[p.a]++
				seen[p.b]++
				if i > 0 && got[i-1].a >= p.a {
					t.Errorf("P13.1: Round(%d, %d): the first place %d behind %d", n, r, p.a, got[i-1].a)
				}
			}
			if slices.ContainsFunc(seen, func(times int) bool { return times != 1 }) {
				t.Errorf("P13.1: Round(%d, %d): how often each place is in a pair: %v", n, r, seen)
			}
		}
	}
}

// TestGreatest: a network of 2^16 places, its first rounds, some between, and its
// last ones.
func TestGreatest(t *testing.T) {
	const n = 1 << 16
	all := turns(16)
	for _, r := range []int{0, 1, 2, 3, 27, 28, 60, 119, 120, 121, 134, 135} {
		got := collect(Round(n, r))
		if len(got) != n/2 || !slices.Equal(got, all[r].wantPairs(n)) {
			t.Errorf("P13.1: Round(%d, %d): %d pairs, not those of the stage %d, the step %d", n, r, len(got), all[r].stage, all[r].step)
		}
		for a := range n {
			if want := all[r].isLower(a) && all[r].isUp(a); Up(n, r, a) != want {
				t.Fatalf("P13.1: Up(%d, %d, %d): %v", n, r, a, !want)
			}
		}
	}
	if got := collect(Round(n, 0)); got[0] != (pair{0, 1}) || got[n/2-1] != (pair{65534, 65535}) {
		t.Errorf("P13.1: Round(%d, 0) is from %v to %v", n, got[0], got[n/2-1])
	}
	if got := collect(Round(n, 120)); got[0] != (pair{0, 32768}) || got[n/2-1] != (pair{32767, 65535}) {
		t.Errorf("P13.1: Round(%d, 120) is from %v to %v", n, got[0], got[n/2-1])
	}
	if got := collect(Round(n, 135)); got[0] != (pair{0, 1}) || got[n/2-1] != (pair{65534, 65535}) {
		t.Errorf("P13.1: Round(%d, 135) is from %v to %v", n, got[0], got[n/2-1])
	}
	if got := len(collect(Round(n, 136))); got != 0 {
		t.Errorf("P13.1: Round(%d, 136): %d pairs", n, got)
	}
}

// TestNoRound: rounds that there are not, and networks that there are not: no
// pairs, and none up; what is told can be ranged over all the same (R1).
func TestNoRound(t *testing.T) {
	none := func(n, r int) {
		t.Helper()
		pairs := Round(n, r)
		if pairs == nil {
			t.Fatalf("R1: Round(%d, %d) is nil", n, r)
		}
		for range 2 {
			if got := first(pairs, 5); len(got) != 0 {
				t.Errorf("P13.1: Round(%d, %d): %v, .. and not none", n, r, got)
			}
		}
		for _, a := range []int{math.MinInt, -1, 0, 1, 2, 3, 4, n - 1, n, n + 1, 1 << 16, math.MaxInt} {
			if Up(n, r, a) {
				t.Errorf("P13.1: Up(%d, %d, %d): true", n, r, a)
			}
		}
	}
	for _, n := range powers() {
		for _, r := range noRounds(n) {
			none(n, r)
		}
	}
	for _, n := range noPowers() {
		for _, r := range []int{math.MinInt, -2, -1, 0, 1, 2, 5, 16, 135, 136, 137, 1 << 16, math.MaxInt} {
			none(n, r)
		}
	}
	// The one place of the least network has no round at all.
	for r := -5; r <= 140; r++ {
		none(1, r)
	}
	for n := -70; n <= 600; n++ {
		if !slices.Contains(powers(), n) {
			for r := -1; r <= 46; r++ {
				none(n, r)
			}
		}
	}
}

// TestEnds: a range that is ended behind any pair: nothing more is handed out,
// and what was is what stands first. (What is told is called, too, as a range
// calls it, since a range does not tell of a pair more.)
func TestEnds(t *testing.T) {
	for e, n := range powers() {
		if n > 64 {
			break
		}
		for r, u := range turns(e) {
			want := u.wantPairs(n)
			for count := 1; count <= n/2; count++ {
				if got := first(Round(n, r), count); !slices.Equal(got, want[:count]) {
					t.Errorf("P13.1: the first %d of Round(%d, %d): %v", count, n, r, got)
				}
				calls := 0
				Round(n, r)(func(a, b int) bool {
					calls++
					return calls != count
				})
				if calls != count {
					t.Errorf("P13.1: Round(%d, %d), ended behind %d pairs: %d", n, r, count, calls)
				}
			}
		}
	}
	for _, count := range []int{1, 2, 3, 1000, 1<<15 - 1, 1 << 15} {
		for _, r := range []int{0, 15, 120, 135} {
			calls := 0
			Round(1<<16, r)(func(a, b int) bool {
				calls++
				return calls != count
			})
			if calls != count {
				t.Errorf("P13.1: Round(65536, %d), ended behind %d pairs: %d", r, count, calls)
			}
		}
	}
}

// TestLeft: a range may be left by any way out of it.
func TestLeft(t *testing.T) {
	inside := func(pairs iter.Seq2[int, int]) pair {
		for a, b := range pairs {
			return pair{a, b}
		}
		return pair{-1, -1}
	}
	if got := inside(Round(8, 3)); got != (pair{0, 4}) {
		t.Errorf("P13.1: returned out of Round(8, 3): %v", got)
	}
	var got []pair
outer:
	for r := range Rounds(8) {
		for a, b := range Round(8, r) {
			if a == 1 {
				continue outer
			}
			if r == 4 {
				break outer
			}
			got = append(got, pair{a, b})
		}
	}
	if !slices.Equal(got, []pair{{0, 1}, {2, 3}, {4, 5}, {6, 7}, {0, 2}, {0, 1}, {2, 3}, {4, 5}, {6, 7}, {0, 4}}) {
		t.Errorf("P13.1: rounds of 8 places, left by labels: %v", got)
	}
}

// TestTwice: what is told may be ranged over as often as one likes, also where it
// was ended early before (R1).
func TestTwice(t *testing.T) {
	for e, n := range powers() {
		if n > 128 {
			break
		}
		for r, u := range turns(e) {
			pairs, want := Round(n, r), u.wantPairs(n)
			for _, count := range []int{n / 2, n / 2, 1, 2, n/2 + 1, 1, n / 4, n / 2} {
				if count = max(count, 1); !slices.Equal(first(pairs, count), want[:min(count, n/2)]) {
					t.Errorf("R1: Round(%d, %d), ranged over once more, up to %d: not the same pairs", n, r, count)
				}
			}
			if got := collect(pairs); !slices.Equal(got, want) {
				t.Errorf("R1: Round(%d, %d), ranged over in the end: %v", n, r, got)
			}
		}
	}
}

// TestWithin: two that are ranged over one within the other, and one within
// itself, play no part for each other (R2).
func TestWithin(t *testing.T) {
	for r, u := range turns(4) {
		for s, v := range turns(3) {
			outer, inner := Round(16, r), Round(8, s)
			var got []pair
			for a, b := range outer {
				got = append(got, pair{a, b})
				if within := collect(inner); !slices.Equal(within, v.wantPairs(8)) {
					t.Errorf("R2: Round(8, %d) within Round(16, %d): %v", s, r, within)
				}
				if within := first(inner, 2); !slices.Equal(within, v.wantPairs(8)[:2]) {
					t.Errorf("R2: two of Round(8, %d) within Round(16, %d): %v", s, r, within)
				}
			}
			if !slices.Equal(got, u.wantPairs(16)) {
				t.Errorf("R2: Round(16, %d), with another within it: %v", r, got)
			}
		}
		self := Round(16, r)
		times := 0
		for a := range self {
			for range self {
				times++
				if times%8 == a%8 {
					break
				}
			}
			if got := collect(self); !slices.Equal(got, u.wantPairs(16)) {
				t.Errorf("R2: Round(16, %d) within itself: %v", r, got)
			}
		}
	}
}

// TestInTurns: two of the same round, a pair of the one and a pair of the other in
// turns (R2).
func TestInTurns(t *testing.T) {
	same := Round(32, 11)
	want := turns(5)[11].wantPairs(32)
	one, stopOne := iter.Pull2(same)
	defer stopOne()
	two, stopTwo := iter.Pull2(same)
	defer stopTwo()
	for i := range want {
		for _, next := range []func() (int, int, bool){one, two} {
			if a, b, ok := next(); !ok || (pair{a, b}) != want[i] {
				t.Errorf("R2: the pair %d of Round(32, 11), in turns: %d, %d, %v", i, a, b, ok)
			}
		}
	}
	if _, _, ok := one(); ok {
		t.Error("R2: Round(32, 11), in turns, goes on behind its end")
	}
}

// TestUp: each place of each round, those about its ends, and far ones.
func TestUp(t *testing.T) {
	for e, n := range powers() {
		if n > 512 {
			break
		}
		for r, u := range turns(e) {
			for a := range n {
				if want := u.isLower(a) && u.isUp(a); Up(n, r, a) != want {
					t.Errorf("P13.1: Up(%d, %d, %d): %v, of the stage %d, the step %d", n, r, a, !want, u.stage, u.step)
				}
			}
			for a := range n + 3 {
				for _, far := range []int{-1 - a, -2*n - a, n + a, 2*n + a, 4*n + a, 1<<16 + a, 1<<32 + a, -1<<32 + a, 1<<62 + a, math.MinInt + a, math.MaxInt - a} {
					if Up(n, r, far) {
						t.Errorf("P13.1: Up(%d, %d, %d): true, of a place that there is not", n, r, far)
					}
				}
			}
		}
	}
}

// TestUpBoth: in the last stage all pairs are up, in the first round every other
// one; in the rounds of a stage between, as many as are down.
func TestUpBoth(t *testing.T) {
	for e, n := range powers() {
		if n == 1 || n > 4096 {
			continue
		}
		for r, u := range turns(e) {
			up, i := 0, 0
			for a := range Round(n, r) {
				is := Up(n, r, a)
				if is {
					up++
				}
				if u.stage == e && !is {
					t.Errorf("P13.1: Up(%d, %d, %d): false, in the last stage", n, r, a)
				}
				if r == 0 && is != (i%2 == 0) {
					t.Errorf("P13.1: Up(%d, 0, %d): %v, of the pair %d of the first round", n, a, is, i)
				}
				i++
			}
			if want := n / 4; u.stage < e && up != want {
				t.Errorf("P13.1: %d pairs of Round(%d, %d) are up, not %d", up, n, r, want)
			}
		}
	}
}

// sorted is what stands at the places behind all rounds: in each round the lesser
// one of a pair goes to its first place where it is up, else to its second one.
func sorted(l []int) []int {
	l = slices.Clone(l)
	for r := range Rounds(len(l)) {
		for a, b := range Round(len(l), r) {
			low, high := min(l[a], l[b]), max(l[a], l[b])
			if Up(len(l), r, a) {
				l[a], l[b] = low, high
			} else {
				l[a], l[b] = high, low
			}
		}
	}
	return l
}

// rises tells where what stands behind all rounds does not rise, or is not what
// stood there ahead of them.
func rises(t *testing.T, what string, l []int) {
	t.Helper()
	got, want := sorted(l), slices.Sorted(slices.Values(l))
	if !slices.Equal(got, want) {
		t.Errorf("P13.1, what follows: %s of %d places does not rise", what, len(l))
	}
}

// TestZerosAndOnes: every arrangement of them, of small networks.
func TestZerosAndOnes(t *testing.T) {
	for _, n := range []int{1, 2, 4, 8, 16} {
		l := make([]int, n)
		for bits := range 1 << n {
			for i := range l {
				l[i] = bits >> i & 1
			}
			rises(t, fmt.Sprintf("the arrangement %b", bits), l)
		}
	}
}

// TestArrangements: of all networks but the greatest many arrangements, with ties
// and with the least and the greatest number.
func TestArrangements(t *testing.T) {
	chance := rand.New(rand.NewPCG(13, 1))
	for _, n := range powers() {
		if n > 4096 {
			break
		}
		for what, number := range map[string]func(i int) int{
			"rising":           func(i int) int { return i - n/2 },
			"falling":          func(i int) int { return n/2 - i },
			"all alike":        func(int) int { return 7 },
			"rising, falling":  func(i int) int { return min(i, n-i) },
			"falling, rising":  func(i int) int { return max(i, n-i) },
			"a saw":            func(i int) int { return i % 5 },
			"a saw downwards":  func(i int) int { return -i * 7 % 11 },
			"the kind's ends":  func(i int) int { return []int{math.MaxInt, math.MinInt, 0}[i*i%3] },
			"a low one behind": func(i int) int { return -((i + 1) / n) },
			"a high one ahead": func(i int) int { return 1 / (i + 1) },
		} {
			l := make([]int, n)
			for i := range l {
				l[i] = number(i)
			}
			rises(t, what, l)
		}
		for range max(2, 4096/n) {
			rises(t, "numbers of chance", anyNumbers(chance, n))
			rises(t, "unlike numbers", chance.Perm(n))
		}
	}
}

// anyNumbers are n numbers of chance, with ties, and the least and the greatest
// number among them.
func anyNumbers(chance *rand.Rand, n int) []int {
	l := make([]int, n)
	kinds := 1 + chance.IntN(2*n)
	for i := range l {
		l[i] = chance.IntN(kinds) - kinds/2
	}
	l[chance.IntN(n)] = math.MinInt
	l[chance.IntN(n)] = math.MaxInt
	return l
}

// TestGreatestRises: numbers of chance at the places of the greatest networks.
func TestGreatestRises(t *testing.T) {
	chance := rand.New(rand.NewPCG(13, 2))
	for _, n := range []int{1 << 13, 1 << 14, 1 << 15, 1 << 16} {
		rises(t, "numbers of chance", anyNumbers(chance, n))
	}
}

// TestAllOrders: eight unlike numbers in every order.
func TestAllOrders(t *testing.T) {
	var arrange func(l []int, at int)
	arrange = func(l []int, at int) {
		if at == len(l) {
			rises(t, fmt.Sprintf("the order %v", l), l)
			return
		}
		for i := at; i < len(l); i++ {
			l[at], l[i] = l[i], l[at]
			arrange(l, at+1)
			l[at], l[i] = l[i], l[at]
		}
	}
	arrange([]int{0, 1, 2, 3, 4, 5, 6, 7}, 0)
}

// TestAgain: the same answers when asked again, whatever was asked ahead, and by
// many at once (R2).
func TestAgain(t *testing.T) {
	shared := Round(64, 9)
	want := turns(6)
	var all sync.WaitGroup
	for range 8 {
		all.Go(func() {
			for range 20 {
				Round(3, 3)
				Up(-1, 1<<40, 7)
				Rounds(math.MinInt)
				if Rounds(64) != 21 || Padded(33) != 64 {
					t.Errorf("R2: Rounds(64): %d, Padded(33): %d", Rounds(64), Padded(33))
				}
				if got := collect(shared); !slices.Equal(got, want[9].wantPairs(64)) {
					t.Errorf("R2: Round(64, 9), shared: %v", got)
				}
				for r, u := range want {
					if got := collect(Round(64, r)); !slices.Equal(got, u.wantPairs(64)) {
						t.Errorf("R2: Round(64, %d): %v", r, got)
					}
					for a := range 64 {
						if Up(64, r, a) != (u.isLower(a) && u.isUp(a)) {
							t.Errorf("R2: Up(64, %d, %d): %v", r, a, Up(64, r, a))
						}
					}
				}
			}
		})
	}
	all.Wait()
}
