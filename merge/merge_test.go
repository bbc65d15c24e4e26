package merge

import (
	"cmp"
	"fmt"
	"math"
	"math/rand/v2"
	"slices"
	"sync"
	"testing"

	"domino/api"
	"domino/bitonic"
)

// orders are the two that a list is sorted by.
func orders() []bool { return []bool{true, false} }

// alive is a record that is not dead.
func alive(key, seq, value int64) api.Record {
	return api.Record{Key: key, Seq: seq, Value: value}
}

// dead is a dead one that says more.
func dead(key, seq, value int64) api.Record {
	return api.Record{Dead: true, Key: key, Seq: seq, Value: value}
}

// keyed are records of those Keys, each with its place as Seq and Value.
func keyed(keys ...int64) []api.Record {
	l := make([]api.Record, len(keys))
	for i, key := range keys {
		l[i] = alive(key, int64(i), int64(i))
	}
	return l
}

// stands tells whether a stands ahead of b, by the words of chapter 9.
func stands(a, b api.Record, seq bool) bool {
	switch {
	case a.Dead:
		return false
	case b.Dead:
		return true
	case a.Key != b.Key:
		return a.Key < b.Key
	default:
		return seq && a.Seq < b.Seq
	}
}

// wantSort are l's records, each at the place that as many have ahead of it as
// stand ahead of it, or, of ties, came ahead of it.
func wantSort(l []api.Record, seq bool) []api.Record {
	sorted := make([]api.Record, len(l))
	for i, r := range l {
		place := 0
		for j, other := range l {
			if stands(other, r, seq) || j < i && !stands(r, other, seq) {
				place++
			}
		}
		sorted[place] = r
	}
	return sorted
}

// wantSorted tells whether no record stands ahead of the one ahead of it.
func wantSorted(l []api.Record, seq bool) bool {
	for i := 1; i < len(l); i++ {
		if stands(l[i], l[i-1], seq) {
			return false
		}
	}
	return true
}

// wantSplit are both, sorted, and parted behind as many as a has.
func wantSplit(a, b []api.Record, seq bool) ([]api.Record, []api.Record) {
	both := wantSort(append(slices.Clone(a), b...), seq)
	return both[:len(a)], both[len(a):]
}

// numbered are the records of l, each with its place as Value: it plays no part,
// but tells them all apart.
func numbered(l []api.Record) []api.Record {
	l = slices.Clone(l)
	for i := range l {
		l[i].Value = int64(i)
	}
	return l
}

// sorts holds Sort of l by both orders against the chapter's words, and Sorted of
// what was, and of what is told.
func sorts(t *testing.T, what string, l []api.Record) {
	t.Helper()
	for _, seq := range orders() {
		was := slices.Clone(l)
		got, want := Sort(l, seq), wantSort(l, seq)
		if !slices.Equal(got, want) {
			t.Errorf("P14.1: Sort(%s: %v, %v): %v, not %v", what, l, seq, got, want)
		}
		if !slices.Equal(l, was) {
			t.Errorf("R3: Sort(%s, %v) left %v, not %v", what, seq, l, was)
		}
		if again := Sort(got, seq); !slices.Equal(again, got) {
			t.Errorf("P14.1: %s, sorted again, %v: %v, not %v", what, seq, again, got)
		}
		if !Sorted(got, seq) {
			t.Errorf("P14.1: Sorted(%s, sorted, %v): false", what, seq)
		}
		if is := Sorted(l, seq); is != wantSorted(l, seq) {
			t.Errorf("P14.1: Sorted(%s: %v, %v): %v", what, l, seq, is)
		}
	}
}

// splits holds Split of a and b by both orders against the chapter's words.
func splits(t *testing.T, what string, a, b []api.Record) {
	t.Helper()
	for _, seq := range orders() {
		wasA, wasB := slices.Clone(a), slices.Clone(b)
		low, high := Split(a, b, seq)
		wantLow, wantHigh := wantSplit(a, b, seq)
		if !slices.Equal(low, wantLow) || !slices.Equal(high, wantHigh) {
			t.Errorf("P14.1: Split(%s: %v, %v, %v): %v, %v, not %v, %v", what, a, b, seq, low, high, wantLow, wantHigh)
		}
		if len(low) != len(a) || len(high) != len(b) {
			t.Errorf("P14.1: Split(%s, %v) of %d and %d: %d, %d", what, seq, len(a), len(b), len(low), len(high))
		}
		for _, h := range high {
			for _, l := range low {
				if stands(h, l, seq) {
					t.Errorf("P14.1: Split(%s, %v): %v of the second answer stands ahead of %v of the first", what, seq, h, l)
				}
			}
		}
		if !Sorted(low, seq) || !Sorted(high, seq) {
			t.Errorf("P14.1: Split(%s, %v): %v, %v are not sorted", what, seq, low, high)
		}
		if !slices.Equal(a, wasA) || !slices.Equal(b, wasB) {
			t.Errorf("R3: Split(%s, %v) left %v, %v, not %v, %v", what, seq, a, b, wasA, wasB)
		}
	}
}

// arrange calls visit with each order of the records of l.
func arrange(l []api.Record, visit func([]api.Record)) {
	var from func(at int)
	from = func(at int) {
		if at == len(l) {
			visit(l)
			return
		}
		for i := at; i < len(l); i++ {
			l[at], l[i] = l[i], l[at]
			from(at + 1)
			l[at], l[i] = l[i], l[at]
		}
	}
	from(0)
}

// lists calls visit with each list of count records out of kinds.
func lists(kinds []api.Record, count int, visit func([]api.Record)) {
	l := make([]api.Record, count)
	var from func(at int)
	from = func(at int) {
		if at == count {
			visit(l)
			return
		}
		for _, r := range kinds {
			l[at] = r
			from(at + 1)
		}
	}
	from(0)
}

// edges are numbers at which a byte, a sign or a bound turns.
func edges() []int64 {
	return []int64{0, 1, -1, 255, 256, -256, math.MaxInt32, math.MinInt32, 1 << 32, -1 << 32, math.MaxInt64 - 1, math.MaxInt64, math.MinInt64, math.MinInt64 + 1}
}

// anyRecord is a record of chance: its numbers out of a few, or out of the edges,
// now and then a dead one that says more.
func anyRecord(chance *rand.Rand, kinds int) api.Record {
	number := func() int64 {
		if chance.IntN(4) == 0 {
			return edges()[chance.IntN(len(edges()))]
		}
		return int64(chance.IntN(kinds)) - int64(kinds/2)
	}
	return api.Record{Dead: chance.IntN(5) == 0, Key: number(), Value: number(), Seq: number()}
}

// anyList is a list of n records of chance.
func anyList(chance *rand.Rand, n int) []api.Record {
	kinds := 1 + chance.IntN(2*n+1)
	l := make([]api.Record, n)
	for i := range l {
		l[i] = anyRecord(chance, kinds)
	}
	return l
}

// TestExample: the chapter's example.
func TestExample(t *testing.T) {
	for _, seq := range orders() {
		low, high := Split([]api.Record{{Key: 3}}, []api.Record{{Key: 1}}, seq)
		if !slices.Equal(low, []api.Record{{Key: 1}}) || !slices.Equal(high, []api.Record{{Key: 3}}) {
			t.Errorf("P14.1: Split([3], [1], %v): %v, %v", seq, low, high)
		}
	}
}

// TestWrittenOut: a few lists, and how they stand by each order, written out.
func TestWrittenOut(t *testing.T) {
	none := api.Record{Dead: true}
	for what, row := range map[string]struct{ l, bySeq, not []api.Record }{
		"no record": {},
		"one":       {[]api.Record{alive(5, 6, 7)}, []api.Record{alive(5, 6, 7)}, []api.Record{alive(5, 6, 7)}},
		"a dead one that says more": {
			[]api.Record{dead(5, 6, 7)},
			[]api.Record{dead(5, 6, 7)},
			[]api.Record{dead(5, 6, 7)},
		},
		"two Keys": {
			[]api.Record{alive(1, 9, 9), alive(2, 0, 0)},
			[]api.Record{alive(1, 9, 9), alive(2, 0, 0)},
			[]api.Record{alive(1, 9, 9), alive(2, 0, 0)},
		},
		"two Keys, the other way round": {
			[]api.Record{alive(2, 0, 0), alive(1, 9, 9)},
			[]api.Record{alive(1, 9, 9), alive(2, 0, 0)},
			[]api.Record{alive(1, 9, 9), alive(2, 0, 0)},
		},
		"one Key, two Seqs": {
			[]api.Record{alive(1, 0, 5), alive(1, 9, 4)},
			[]api.Record{alive(1, 0, 5), alive(1, 9, 4)},
			[]api.Record{alive(1, 0, 5), alive(1, 9, 4)},
		},
		"one Key, two Seqs, the other way round": {
			[]api.Record{alive(1, 9, 4), alive(1, 0, 5)},
			[]api.Record{alive(1, 0, 5), alive(1, 9, 4)},
			[]api.Record{alive(1, 9, 4), alive(1, 0, 5)},
		},
		"one Key and Seq, two Values": {
			[]api.Record{alive(1, 1, 5), alive(1, 1, 4)},
			[]api.Record{alive(1, 1, 5), alive(1, 1, 4)},
			[]api.Record{alive(1, 1, 5), alive(1, 1, 4)},
		},
		"a dead one ahead": {
			[]api.Record{none, alive(1, 1, 1)},
			[]api.Record{alive(1, 1, 1), none},
			[]api.Record{alive(1, 1, 1), none},
		},
		"a dead one of a lesser Key ahead": {
			[]api.Record{dead(-5, -5, -5), alive(1, 1, 1)},
			[]api.Record{alive(1, 1, 1), dead(-5, -5, -5)},
			[]api.Record{alive(1, 1, 1), dead(-5, -5, -5)},
		},
		"two dead ones": {
			[]api.Record{dead(2, 2, 2), dead(1, 1, 1)},
			[]api.Record{dead(2, 2, 2), dead(1, 1, 1)},
			[]api.Record{dead(2, 2, 2), dead(1, 1, 1)},
		},
		"as many as a block has": {
			[]api.Record{alive(3, 1, 0), none, alive(-2, 4, 1), alive(3, 0, 2), dead(-9, 0, 3), alive(1, 7, 4), alive(-2, 4, 5), alive(1, 2, 6)},
			[]api.Record{alive(-2, 4, 1), alive(-2, 4, 5), alive(1, 2, 6), alive(1, 7, 4), alive(3, 0, 2), alive(3, 1, 0), none, dead(-9, 0, 3)},
			[]api.Record{alive(-2, 4, 1), alive(-2, 4, 5), alive(1, 7, 4), alive(1, 2, 6), alive(3, 1, 0), alive(3, 0, 2), none, dead(-9, 0, 3)},
		},
		"both ends of the kind": {
			[]api.Record{alive(math.MaxInt64, math.MinInt64, 0), alive(0, 0, 1), alive(math.MinInt64, math.MaxInt64, 2), alive(-1, 0, 3), alive(math.MinInt64, math.MinInt64, 4)},
			[]api.Record{alive(math.MinInt64, math.MinInt64, 4), alive(math.MinInt64, math.MaxInt64, 2), alive(-1, 0, 3), alive(0, 0, 1), alive(math.MaxInt64, math.MinInt64, 0)},
			[]api.Record{alive(math.MinInt64, math.MaxInt64, 2), alive(math.MinInt64, math.MinInt64, 4), alive(-1, 0, 3), alive(0, 0, 1), alive(math.MaxInt64, math.MinInt64, 0)},
		},
	} {
		if got := Sort(row.l, true); !slices.Equal(got, row.bySeq) {
			t.Errorf("P14.1: Sort(%s, by seq): %v, not %v", what, got, row.bySeq)
		}
		if got := Sort(row.l, false); !slices.Equal(got, row.not) {
			t.Errorf("P14.1: Sort(%s, not by seq): %v, not %v", what, got, row.not)
		}
		sorts(t, what, row.l)
	}
}

// TestNothing: no records, nil or not, and nil beside some (R1, R3).
func TestNothing(t *testing.T) {
	some := keyed(2, 1)
	for _, seq := range orders() {
		for _, l := range [][]api.Record{nil, {}, some[:0], some[2:]} {
			if got := Sort(l, seq); len(got) != 0 {
				t.Errorf("P14.1: Sort of no record, %v: %v", seq, got)
			}
			if !Sorted(l, seq) {
				t.Errorf("P14.1: Sorted of no record, %v: false", seq)
			}
			for _, k := range [][]api.Record{nil, {}, some[1:1]} {
				if low, high := Split(l, k, seq); len(low) != 0 || len(high) != 0 {
					t.Errorf("P14.1: Split of no record twice, %v: %v, %v", seq, low, high)
				}
			}
			if low, high := Split(l, some, seq); len(low) != 0 || !slices.Equal(high, wantSort(some, seq)) {
				t.Errorf("P14.1: Split of no record and two, %v: %v, %v", seq, low, high)
			}
			if low, high := Split(some, l, seq); len(high) != 0 || !slices.Equal(low, wantSort(some, seq)) {
				t.Errorf("P14.1: Split of two and no record, %v: %v, %v", seq, low, high)
			}
		}
	}
}

// TestLengths: lists of all lengths up to some dozens, and of some more: sorted
// already, the other way round, all alike, and in between.
func TestLengths(t *testing.T) {
	var lengths []int
	for n := range 40 {
		lengths = append(lengths, n)
	}
	for _, n := range append(lengths, 47, 48, 63, 64, 65, 96, 100, 127, 128, 129) {
		for what, r := range map[string]func(i int) api.Record{
			"rising Keys":                func(i int) api.Record { return alive(int64(i), int64(-i), 0) },
			"falling Keys":               func(i int) api.Record { return alive(int64(-i), int64(i), 0) },
			"rising Seqs":                func(i int) api.Record { return alive(7, int64(i), 0) },
			"falling Seqs":               func(i int) api.Record { return alive(7, int64(-i), 0) },
			"all alike":                  func(int) api.Record { return alive(7, 7, 0) },
			"all dead":                   func(i int) api.Record { return dead(int64(-i), int64(-i), 0) },
			"Keys up and down":           func(i int) api.Record { return alive(int64(min(i, n-i)), int64(-i), 0) },
			"Keys down and up":           func(i int) api.Record { return alive(int64(max(i, n-i)), int64(-i), 0) },
			"a saw of Keys":              func(i int) api.Record { return alive(int64(i*7%5), int64(i*11%3), 0) },
			"a saw of Seqs":              func(i int) api.Record { return alive(int64(i%2), int64(i*5%7), 0) },
			"the least one last":         func(i int) api.Record { return alive(-int64((i+1)/n), int64(-i), 0) },
			"the greatest one first":     func(i int) api.Record { return alive(int64(1/(i+1)), int64(i), 0) },
			"dead ones at the even":      func(i int) api.Record { return api.Record{Dead: i%2 == 0, Key: int64(-i), Seq: int64(i)} },
			"dead ones at the odd":       func(i int) api.Record { return api.Record{Dead: i%2 == 1, Key: int64(-i), Seq: int64(i)} },
			"falling behind a dead half": func(i int) api.Record { return api.Record{Dead: i < n/2, Key: int64(-i / 3), Seq: int64(-i)} },
		} {
			l := make([]api.Record, n)
			for i := range l {
				l[i] = r(i)
			}
			sorts(t, fmt.Sprintf("%s, %d", what, n), numbered(l))
		}
	}
}

// TestEdges: records of any two edges as Key and Seq, in orders of chance.
func TestEdges(t *testing.T) {
	chance := rand.New(rand.NewPCG(14, 1))
	for _, a := range edges() {
		for _, b := range edges() {
			l := numbered([]api.Record{alive(a, b, 0), alive(b, a, 0), alive(a, a, 0), alive(b, b, 0), dead(a, b, 0), dead(b, a, 0)})
			chance.Shuffle(len(l), func(i, j int) { l[i], l[j] = l[j], l[i] })
			sorts(t, "two edges", l)
			splits(t, "two edges", l[:3], l[3:])
		}
	}
	var all []api.Record
	for _, n := range edges() {
		all = append(all, alive(n, 5, 0), alive(5, n, 0), alive(n, -n, 0), dead(n, n, 0))
	}
	for range 10 {
		chance.Shuffle(len(all), func(i, j int) { all[i], all[j] = all[j], all[i] })
		sorts(t, "all edges", numbered(all))
	}
}

// TestDead: dead ones at some places, at all and at none: by each order they
// stand last, as they came, and say what they said.
func TestDead(t *testing.T) {
	for n := 1; n <= 9; n++ {
		for places := range 1 << n {
			l := make([]api.Record, n)
			var want, last []api.Record
			for i := range l {
				l[i] = alive(5, 5, int64(i))
				if places>>i&1 == 1 {
					l[i] = dead(int64(-i), int64(-i), int64(i))
					last = append(last, l[i])
				} else {
					want = append(want, l[i])
				}
			}
			want = append(want, last...)
			for _, seq := range orders() {
				if got := Sort(l, seq); !slices.Equal(got, want) {
					t.Errorf("P14.1: Sort(%v, %v), dead ones at %b: %v, not %v", l, seq, places, got, want)
				}
			}
			sorts(t, "dead ones", l)
		}
	}
}

// TestZerosAndOnes: every arrangement of two Keys, with Seqs that do not rise with
// the places.
func TestZerosAndOnes(t *testing.T) {
	for n := 1; n <= 11; n++ {
		l := make([]api.Record, n)
		for keys := range 1 << n {
			for i := range l {
				l[i] = alive(int64(keys>>i&1), int64(i*i%4), int64(i))
			}
			sorts(t, fmt.Sprintf("the Keys %b", keys), l)
		}
	}
}

// TestEveryList: every list of up to five out of a few kinds, each record with
// its place as Value.
func TestEveryList(t *testing.T) {
	kinds := []api.Record{alive(1, 1, 0), alive(1, 2, 0), alive(2, 1, 0), alive(-1, 5, 0), dead(0, 0, 0), dead(3, -3, 0)}
	for n := range 6 {
		lists(kinds, n, func(l []api.Record) { sorts(t, "a list of kinds", numbered(l)) })
	}
}

// TestEveryOrder: seven records, some of them ties, in every order, and all ways
// to part five of them.
func TestEveryOrder(t *testing.T) {
	seven := []api.Record{alive(1, 1, 0), alive(1, 1, 1), alive(1, 0, 2), alive(0, 9, 3), alive(2, -9, 4), dead(0, 0, 5), dead(-1, 0, 6)}
	arrange(seven, func(l []api.Record) { sorts(t, "an order", l) })
	arrange(seven[1:6], func(l []api.Record) {
		for first := range len(l) + 1 {
			splits(t, "an order, parted", l[:first], l[first:])
		}
	})
}

// TestChance: many lists of chance.
func TestChance(t *testing.T) {
	chance := rand.New(rand.NewPCG(14, 2))
	for range 2000 {
		sorts(t, "a list of chance", anyList(chance, chance.IntN(24)))
	}
	for range 40 {
		sorts(t, "a long list of chance", anyList(chance, 50+chance.IntN(100)))
	}
}

// TestAllThere: all that was there is there, once, each with all its fields.
func TestAllThere(t *testing.T) {
	chance := rand.New(rand.NewPCG(14, 3))
	fields := func(a, b api.Record) int {
		return cmp.Or(cmp.Compare(number(a.Dead), number(b.Dead)), cmp.Compare(a.Key, b.Key), cmp.Compare(a.Value, b.Value), cmp.Compare(a.Seq, b.Seq))
	}
	same := func(a, b []api.Record) bool {
		return slices.Equal(slices.SortedFunc(slices.Values(a), fields), slices.SortedFunc(slices.Values(b), fields))
	}
	for range 1000 {
		l := anyList(chance, chance.IntN(20))
		part := chance.IntN(len(l) + 1)
		for _, seq := range orders() {
			if got := Sort(l, seq); !same(got, l) {
				t.Errorf("P14.1, what follows: Sort(%v, %v): %v: not all that was there", l, seq, got)
			}
			low, high := Split(l[:part], l[part:], seq)
			if !same(slices.Concat(low, high), l) {
				t.Errorf("P14.1, what follows: Split(%v, %v, %v): %v, %v: not all that was there", l[:part], l[part:], seq, low, high)
			}
		}
	}
}

// number is 1 of what is true, else 0.
func number(is bool) int {
	if is {
		return 1
	}
	return 0
}

// TestTies: lists of ties alone, of records that differ in what plays no part:
// they stay as they came.
func TestTies(t *testing.T) {
	chance := rand.New(rand.NewPCG(14, 4))
	stays := func(what string, l []api.Record, seq bool) {
		t.Helper()
		if got := Sort(l, seq); !slices.Equal(got, l) {
			t.Errorf("P14.1, R10: Sort(%s: %v, %v): %v", what, l, seq, got)
		}
		if !Sorted(l, seq) {
			t.Errorf("P14.1: Sorted(%s: %v, %v): false", what, l, seq)
		}
		part := len(l) / 3
		if low, high := Split(l[:part], l[part:], seq); !slices.Equal(low, l[:part]) || !slices.Equal(high, l[part:]) {
			t.Errorf("P14.1, R10: Split(%s: %v, %v, %v): %v, %v", what, l[:part], l[part:], seq, low, high)
		}
	}
	for n := range 40 {
		byValue, bySeq, deadOnes := make([]api.Record, n), make([]api.Record, n), make([]api.Record, n)
		key := edges()[n%len(edges())]
		for i := range n {
			byValue[i] = alive(key, -key, int64(chance.Uint64()))
			bySeq[i] = alive(key, int64(chance.Uint64()), int64(chance.Uint64()))
			deadOnes[i] = dead(int64(chance.Uint64()), int64(chance.Uint64()), int64(chance.Uint64()))
		}
		stays("one Key and Seq, Values of chance", byValue, true)
		stays("one Key and Seq, Values of chance", byValue, false)
		stays("one Key, Seqs of chance", bySeq, false)
		stays("dead ones that say anything", deadOnes, true)
		stays("dead ones that say anything", deadOnes, false)
	}
}

// TestManyTies: lists in which many of a few kinds are ties, told apart by Value:
// of each kind Values rise in the end.
func TestManyTies(t *testing.T) {
	chance := rand.New(rand.NewPCG(14, 5))
	for range 300 {
		l := make([]api.Record, 30+chance.IntN(40))
		for i := range l {
			l[i] = api.Record{Dead: chance.IntN(4) == 0, Key: int64(chance.IntN(3)), Seq: int64(chance.IntN(2)), Value: int64(i)}
		}
		for _, seq := range orders() {
			got := Sort(l, seq)
			for i, a := range got {
				for _, b := range got[i+1:] {
					if stands(b, a, seq) {
						t.Fatalf("P14.1: Sort(%v, %v): %v stands behind %v", l, seq, b, a)
					}
					if !stands(a, b, seq) && a.Value >= b.Value {
						t.Fatalf("P14.1: Sort(%v, %v): of ties %v behind %v", l, seq, b, a)
					}
				}
			}
		}
	}
}

// TestSorted: lists that are sorted, and such with one record at the wrong place.
func TestSorted(t *testing.T) {
	is := func(what string, l []api.Record, seq, want bool) {
		t.Helper()
		if got := Sorted(l, seq); got != want {
			t.Errorf("P14.1: Sorted(%s: %v, %v): %v", what, l, seq, got)
		}
	}
	for _, seq := range orders() {
		is("one", keyed(3), seq, true)
		is("a dead one", []api.Record{dead(1, 1, 1)}, seq, true)
		is("two", keyed(3, 4), seq, true)
		is("two ties", []api.Record{alive(3, 3, 2), alive(3, 3, 1)}, seq, true)
		is("two, the other way round", keyed(4, 3), seq, false)
		is("Keys that fall and Seqs that rise", keyed(9, 8, 7, 6), seq, false)
		is("dead ones at the end", append(keyed(1, 1, 2), dead(9, 9, 9), dead(-9, -9, -9)), seq, true)
		is("a dead one ahead of another", append([]api.Record{dead(-9, -9, -9)}, keyed(1, 2)...), seq, false)
		is("a dead one in the middle", []api.Record{alive(1, 1, 1), dead(2, 2, 2), alive(3, 3, 3)}, seq, false)
		is("a dead one ahead of the last", []api.Record{alive(1, 1, 1), alive(2, 2, 2), dead(2, 2, 2), alive(3, 3, 3)}, seq, false)
		is("dead ones ahead of all", []api.Record{dead(1, 1, 1), dead(1, 1, 1), alive(0, 0, 0)}, seq, false)
		is("Seqs that fall", []api.Record{alive(1, 2, 0), alive(1, 1, 0)}, seq, !seq)
		is("Seqs that fall ahead of a dead one", []api.Record{alive(1, 2, 0), alive(1, 1, 0), dead(0, 0, 0)}, seq, !seq)
		is("Seqs that fall where Keys rise", []api.Record{alive(1, 2, 0), alive(2, 1, 0)}, seq, true)
		is("the kind's ends", []api.Record{alive(math.MinInt64, 0, 0), alive(math.MaxInt64, 0, 0)}, seq, true)
		is("the kind's ends, the other way round", []api.Record{alive(math.MaxInt64, 0, 0), alive(math.MinInt64, 0, 0)}, seq, false)
		is("the kind's ends of Seq", []api.Record{alive(0, math.MaxInt64, 0), alive(0, math.MinInt64, 0)}, seq, !seq)
	}
	for n := 2; n <= 20; n++ {
		for wrong := range n {
			l := make([]api.Record, n)
			for i := range l {
				l[i] = alive(int64(2*i), 0, 0)
			}
			for _, seq := range orders() {
				is("rising Keys", l, seq, true)
			}
			// Too great for its place, but at the last one; too small, but at the first.
			high, low := slices.Clone(l), slices.Clone(l)
			high[wrong].Key = int64(2*n + 1)
			low[wrong].Key = -1
			killed, late := slices.Clone(l), slices.Clone(l)
			killed[wrong].Dead = true
			for i := range late {
				late[i].Key = 5
			}
			late[wrong].Seq = 1
			for _, seq := range orders() {
				is(fmt.Sprintf("a Key too great at %d", wrong), high, seq, wrong == n-1)
				is(fmt.Sprintf("a Key too small at %d", wrong), low, seq, wrong == 0)
				is(fmt.Sprintf("a dead one at %d", wrong), killed, seq, wrong == n-1)
				is(fmt.Sprintf("a Seq too great at %d", wrong), late, seq, wrong == n-1 || !seq)
			}
		}
	}
}

// TestSplit: blocks of one length and of different ones, by chance and written
// out.
func TestSplit(t *testing.T) {
	low, high := Split(keyed(5, 1, 9), keyed(1, 5), false)
	if !slices.Equal(low, []api.Record{alive(1, 1, 1), alive(1, 0, 0), alive(5, 0, 0)}) || !slices.Equal(high, []api.Record{alive(5, 1, 1), alive(9, 2, 2)}) {
		t.Errorf("P14.1: Split([5 1 9], [1 5], not by seq): %v, %v", low, high)
	}
	low, high = Split(keyed(5, 1, 9), keyed(1, 5), true)
	if !slices.Equal(low, []api.Record{alive(1, 0, 0), alive(1, 1, 1), alive(5, 0, 0)}) || !slices.Equal(high, []api.Record{alive(5, 1, 1), alive(9, 2, 2)}) {
		t.Errorf("P14.1: Split([5 1 9], [1 5], by seq): %v, %v", low, high)
	}
	chance := rand.New(rand.NewPCG(14, 6))
	for a := range 10 {
		for b := range 10 {
			for range 10 {
				splits(t, "two of chance", anyList(chance, a), anyList(chance, b))
			}
			ties := make([]api.Record, a+b)
			for i := range ties {
				ties[i] = alive(4, 4, int64(i))
			}
			splits(t, "ties", ties[:a], ties[a:])
			splits(t, "ties, b's ahead in memory", ties[b:], ties[:b])
		}
	}
	splits(t, "of one alone", keyed(3, 1, 2), nil)
	splits(t, "of the other alone", nil, keyed(3, 1, 2))
	splits(t, "the same twice", keyed(3, 1, 2), keyed(3, 1, 2))
}

// TestTiesOfTwo: of ties a's stand ahead of b's, whichever list is the greater.
func TestTiesOfTwo(t *testing.T) {
	for a := range 6 {
		for b := range 6 {
			var first, second, want []api.Record
			for i := range a {
				first = append(first, alive(0, 0, int64(i)))
			}
			for i := range b {
				second = append(second, alive(0, 0, int64(100+i)))
			}
			want = append(append(want, first...), second...)
			for _, seq := range orders() {
				low, high := Split(first, second, seq)
				if !slices.Equal(low, want[:a]) || !slices.Equal(high, want[a:]) {
					t.Errorf("P14.1: Split of %d and %d ties, %v: %v, %v", a, b, seq, low, high)
				}
			}
		}
	}
}

// network is what the blocks are behind all rounds of chapter 13: each sorted, and
// then split pair by pair, the lower half to the first place of a pair that is up.
func network(blocks [][]api.Record, seq bool) [][]api.Record {
	after := make([][]api.Record, len(blocks))
	for i, l := range blocks {
		after[i] = Sort(l, seq)
	}
	for r := range bitonic.Rounds(len(blocks)) {
		for a, b := range bitonic.Round(len(blocks), r) {
			low, high := Split(after[a], after[b], seq)
			if bitonic.Up(len(blocks), r, a) {
				after[a], after[b] = low, high
			} else {
				after[a], after[b] = high, low
			}
		}
	}
	return after
}

// TestNetwork: blocks of one size behind all rounds are sorted, block behind
// block, and all that was there is there.
func TestNetwork(t *testing.T) {
	chance := rand.New(rand.NewPCG(14, 7))
	ways := map[string]func(i, n int) api.Record{
		"of chance":    func(_, n int) api.Record { return anyRecord(chance, 1+n/2) },
		"falling Keys": func(i, _ int) api.Record { return alive(int64(-i), int64(i), 0) },
		"falling Seqs": func(i, _ int) api.Record { return alive(int64(i%2), int64(-i), 0) },
		"ties":         func(i, _ int) api.Record { return alive(int64(i%3), 0, 0) },
		"dead ones":    func(i, _ int) api.Record { return api.Record{Dead: i%3 != 2, Key: int64(-i)} },
		"all dead":     func(i, _ int) api.Record { return dead(int64(-i), 0, 0) },
	}
	for _, count := range []int{1, 2, 4, 8, 16} {
		for size := 1; size <= 4; size++ {
			for what, r := range ways {
				for range 6 {
					all := make([]api.Record, count*size)
					for i := range all {
						all[i] = r(i, len(all))
					}
					sortedByRounds(t, fmt.Sprintf("%d blocks of %d, %s", count, size, what), numbered(all), size)
				}
			}
		}
	}
}

// sortedByRounds tells where blocks of that size, made of l, are not sorted behind
// all rounds, or do not hold what l does.
func sortedByRounds(t *testing.T, what string, l []api.Record, size int) {
	t.Helper()
	for _, seq := range orders() {
		blocks := network(slices.Collect(slices.Chunk(l, size)), seq)
		for i, b := range blocks {
			if len(b) != size {
				t.Errorf("P14.1, what follows: %s, %v: the block %d has %d", what, seq, i, len(b))
			}
		}
		got := slices.Concat(blocks...)
		if !wantSorted(got, seq) {
			t.Errorf("P14.1, what follows: %s, %v: %v is not sorted", what, seq, got)
		}
		seen := map[int64]int{}
		for _, r := range got {
			if r != l[r.Value] {
				t.Errorf("P14.1, what follows: %s, %v: %v is not as it was", what, seq, r)
			}
			seen[r.Value]++
		}
		if len(seen) != len(l) {
			t.Errorf("P14.1, what follows: %s, %v: %d of %d are there", what, seq, len(seen), len(l))
		}
	}
}

// TestNetworkZerosAndOnes: every arrangement of two Keys in four blocks of two and
// of three.
func TestNetworkZerosAndOnes(t *testing.T) {
	for _, size := range []int{2, 3} {
		l := make([]api.Record, 4*size)
		for keys := range 1 << len(l) {
			for i := range l {
				l[i] = alive(int64(keys>>i&1), 0, int64(i))
			}
			sortedByRounds(t, fmt.Sprintf("the Keys %b", keys), l, size)
		}
	}
}

// TestHandedIn: what is handed in and the room behind its end are as they were,
// the two lists of Split lying in one array, too (R3).
func TestHandedIn(t *testing.T) {
	chance := rand.New(rand.NewPCG(14, 8))
	for range 300 {
		room := anyList(chance, 20)
		was := slices.Clone(room)
		from := chance.IntN(8)
		middle := from + chance.IntN(6)
		to := middle + chance.IntN(6)
		left := func(what string) {
			t.Helper()
			if !slices.Equal(room, was) {
				t.Fatalf("R3: %s left %v, not %v", what, room, was)
			}
		}
		for _, seq := range orders() {
			Sort(room[from:to], seq)
			left("Sort")
			Sorted(room[from:to], seq)
			left("Sorted")
			// Side by side, the other way round, the same twice, one within the other.
			for what, two := range map[string][2][]api.Record{
				"two side by side":         {room[from:middle], room[middle:to]},
				"two, the other way round": {room[middle:to], room[from:middle]},
				"the same twice":           {room[from:to], room[from:to]},
				"one within the other":     {room[from:to], room[from:middle]},
				"the other within the one": {room[middle:to], room[from:to]},
			} {
				low, high := Split(two[0], two[1], seq)
				left("Split of " + what)
				wantLow, wantHigh := wantSplit(two[0], two[1], seq)
				if !slices.Equal(low, wantLow) || !slices.Equal(high, wantHigh) {
					t.Errorf("P14.1: Split of %s, %v: %v, %v, not %v, %v", what, seq, low, high, wantLow, wantHigh)
				}
			}
		}
	}
}

// spoil writes over all records of l and over the room behind its end.
func spoil(l []api.Record) {
	l = l[:cap(l)]
	for i := range l {
		l[i] = dead(-7, -7, -7)
	}
}

// TestHandedOut: what is told is new memory: who writes into it, or into what was
// handed in, changes nothing else, nor do the answers of Split each other (R3).
func TestHandedOut(t *testing.T) {
	chance := rand.New(rand.NewPCG(14, 9))
	for n := range 20 {
		for _, seq := range orders() {
			l := wantSort(anyList(chance, n), seq) // sorted already, so that nothing need move
			was := slices.Clone(l)
			got := Sort(l, seq)
			spoil(got)
			if !slices.Equal(l, was) {
				t.Errorf("R3: Sort of %d, %v: who writes into the answer changes what was handed in", n, seq)
			}
			got = Sort(l, seq)
			spoil(l)
			if !slices.Equal(got, was) {
				t.Errorf("R3: Sort of %d, %v: who writes into what was handed in changes the answer", n, seq)
			}
			for part := range n + 1 {
				apart(t, slices.Clone(was), part, seq)
			}
		}
	}
}

// apart tells where the answers of Split of l, parted, share memory with l or with
// each other.
func apart(t *testing.T, l []api.Record, part int, seq bool) {
	t.Helper()
	was := slices.Clone(l)
	wantLow, wantHigh := wantSplit(l[:part], l[part:], seq)
	low, high := Split(l[:part], l[part:], seq)
	spoil(low)
	if !slices.Equal(high, wantHigh) || !slices.Equal(l, was) {
		t.Errorf("R3: Split of %d of %d, %v: who writes into the first answer changes more", part, len(l), seq)
	}
	low, high = Split(l[:part], l[part:], seq)
	// One more than it has: in the room behind its end, if there is some.
	_ = append(low, dead(-7, -7, -7))
	spoil(high)
	if !slices.Equal(low, wantLow) || !slices.Equal(l, was) {
		t.Errorf("R3: Split of %d of %d, %v: who writes into the second answer changes more", part, len(l), seq)
	}
	low, high = Split(l[:part], l[part:], seq)
	spoil(l)
	if !slices.Equal(low, wantLow) || !slices.Equal(high, wantHigh) {
		t.Errorf("R3: Split of %d of %d, %v: who writes into what was handed in changes the answers", part, len(l), seq)
	}
}

// TestAgain: the same answers when asked again, whatever was asked ahead, and by
// many at once (R2).
func TestAgain(t *testing.T) {
	chance := rand.New(rand.NewPCG(14, 10))
	l := anyList(chance, 16)
	var all sync.WaitGroup
	for range 8 {
		all.Go(func() {
			for range 20 {
				for _, seq := range orders() {
					Sort(keyed(9, 1, 1), !seq)
					Sorted(l[3:], !seq)
					if got := Sort(l, seq); !slices.Equal(got, wantSort(l, seq)) {
						t.Errorf("R2: Sort(%v, %v): %v", l, seq, got)
					}
					low, high := Split(l[:8], l[8:], seq)
					wantLow, wantHigh := wantSplit(l[:8], l[8:], seq)
					if !slices.Equal(low, wantLow) || !slices.Equal(high, wantHigh) {
						t.Errorf("R2: Split of %v, %v: %v, %v", l, seq, low, high)
					}
					if Sorted(l, seq) || !Sorted(low, seq) || !Sorted(high, seq) {
						t.Errorf("R2: Sorted of %v, of its lower half, of the other one, %v", l, seq)
					}
				}
			}
		})
	}
	all.Wait()
}
