package chain

import (
	"fmt"
	"math"
	"math/rand/v2"
	"slices"
	"sync"
	"testing"

	"domino/api"
	"domino/merge"
	"domino/spec"
	"domino/vm"
)

const least, most = math.MinInt64, math.MaxInt64

// meaning is a program that may be, with what its Fold and its Finish come to.
type meaning struct {
	p      api.Program
	fold   func(a, v int64) int64
	finish func(key, v int64) int64
}

// none is a dead record.
func none() api.Record { return api.Record{Dead: true} }

// at is what comes out of a key and its value.
func at(key, value int64) api.Record { return api.Record{Key: key, Value: value} }

// from is a record with a Seq.
func from(key, value, seq int64) api.Record {
	return api.Record{Key: key, Value: value, Seq: seq}
}

// dead is a dead one that says more.
func dead(key, value, seq int64) api.Record {
	return api.Record{Dead: true, Key: key, Value: value, Seq: seq}
}

// first and last are what a Fold and a Finish without an operation come to; add
// and inOrder are what sum's Fold and ordered's do.
func first(a, _ int64) int64   { return a }
func last(_, v int64) int64    { return v }
func add(a, b int64) int64     { return a + b }
func inOrder(a, v int64) int64 { return 31*a + v }

// adds are n operations that add the register 1 to the register 0.
func adds(n int) []api.Op {
	return slices.Repeat([]api.Op{{Code: api.OpAdd, B: 1}}, n)
}

// sum adds the values of a key.
func sum() meaning {
	return meaning{api.Program{K: 1, Fold: adds(1)}, add, last}
}

// ordered makes of values in another order something else, and of each key.
func ordered() meaning {
	return meaning{
		p: api.Program{
			K:      2,
			Fold:   []api.Op{{Code: api.OpSet, D: 2, N: 31}, {Code: api.OpMul, B: 2}, {Code: api.OpAdd, B: 1}},
			Finish: []api.Op{{Code: api.OpAdd}, {Code: api.OpSub, B: 1}},
		},
		fold:   inOrder,
		finish: func(key, v int64) int64 { return 2*v - key },
	}
}

// meanings are programs of all kinds, by what they do.
func meanings() map[string]meaning {
	sevens := func(int64, int64) int64 { return 7 }
	emits := slices.Repeat([]api.Op{{Code: api.OpEmit, D: 7, A: 6, B: 5, C: 4, N: 3}}, api.MaxOps)
	return map[string]meaning{
		"add":                 sum(),
		"ordered":             ordered(),
		"nothing":             {api.Program{K: 1}, first, last},
		"nothing, with a map": {api.Program{K: 4, Map: emits}, first, last},
		"the last value":      {api.Program{K: 3, Fold: []api.Op{{Code: api.OpOr, A: 1, B: 1}}}, last, last},
		"the greatest value": {
			api.Program{K: 1, Fold: []api.Op{{Code: api.OpLess, D: 2, A: 0, B: 1}, {Code: api.OpPick, A: 2, B: 1, C: 0}}},
			func(a, v int64) int64 { return max(a, v) }, last,
		},
		"how many": {
			api.Program{K: 1, Fold: []api.Op{{Code: api.OpSet, D: 3, N: 1}, {Code: api.OpAdd, B: 3}}},
			func(a, _ int64) int64 { return a + 1 }, last,
		},
		"the key":           {api.Program{K: 1, Finish: []api.Op{{Code: api.OpOr, A: 1, B: 1}}}, first, first},
		"the key less it":   {api.Program{K: 1, Fold: adds(1), Finish: []api.Op{{Code: api.OpSub, A: 1, B: 0}}}, add, func(key, v int64) int64 { return key - v }},
		"it less the key":   {api.Program{K: 1, Fold: adds(1), Finish: []api.Op{{Code: api.OpSub, A: 0, B: 1}}}, add, func(key, v int64) int64 { return v - key }},
		"always 7":          {api.Program{K: 1, Fold: []api.Op{{Code: api.OpSet, N: 7}}}, sevens, last},
		"7 in the end":      {api.Program{K: 1, Finish: []api.Op{{Code: api.OpSet, N: 7}}}, first, sevens},
		"0 in the end":      {api.Program{K: 1, Fold: adds(1), Finish: []api.Op{{Code: api.OpSet}}}, add, func(int64, int64) int64 { return 0 }},
		"0 in other places": {api.Program{K: 1, Fold: []api.Op{{Code: api.OpAdd, D: 1, A: 0, B: 1}}, Finish: []api.Op{{Code: api.OpAdd, D: 7, A: 0, B: 1}}}, first, last},
		"as many as may be": {
			api.Program{K: 4, Map: emits, Fold: adds(api.MaxOps), Finish: adds(api.MaxOps)},
			func(a, v int64) int64 { return a + 40*v },
			func(key, v int64) int64 { return v + 40*key },
		},
		"a register that is left": {
			// Were one Fold's registers there in the next, or in Finish, they would count.
			api.Program{K: 1, Fold: []api.Op{{Code: api.OpAdd, D: 0, A: 0, B: 2}, {Code: api.OpAdd, D: 2, A: 0, B: 1}}, Finish: []api.Op{{Code: api.OpAdd, B: 2}}},
			first, last,
		},
	}
}

// results are what each operation comes to, but for OpSet and OpEmit.
func results() map[int]func(a, b, c int64) int64 {
	truth := func(is bool) int64 {
		if is {
			return 1
		}
		return 0
	}
	return map[int]func(a, b, c int64) int64{
		api.OpAdd:  func(a, b, _ int64) int64 { return a + b },
		api.OpSub:  func(a, b, _ int64) int64 { return a - b },
		api.OpMul:  func(a, b, _ int64) int64 { return a * b },
		api.OpAnd:  func(a, b, _ int64) int64 { return a & b },
		api.OpOr:   func(a, b, _ int64) int64 { return a | b },
		api.OpXor:  func(a, b, _ int64) int64 { return a ^ b },
		api.OpLess: func(a, b, _ int64) int64 { return truth(a < b) },
		api.OpSame: func(a, b, _ int64) int64 { return truth(a == b) },
		api.OpPick: func(a, b, c int64) int64 {
			if a != 0 {
				return b
			}
			return c
		},
		api.OpShift: func(a, b, _ int64) int64 { return a >> (b & 63) },
	}
}

// runs are what comes out of l and what is carried on, the chapter's words done a
// second way: carry and l are parted into runs of one Key; what comes of a run
// stands where the next one begins, and the last one is carried on.
func runs(m meaning, carry api.Record, l []api.Record) ([]api.Record, api.Record) {
	all := append([]api.Record{carry}, l...)
	out := slices.Repeat([]api.Record{none()}, len(l))
	for begin := 0; ; {
		end := begin + 1
		for end < len(all) && !all[begin].Dead && !all[end].Dead && all[end].Key == all[begin].Key {
			end++
		}
		run := all[begin:end]
		v := run[0].Value
		for _, r := range run[1:] {
			v = m.fold(v, r.Value)
		}
		switch {
		case end == len(all) && run[0].Dead:
			return out, none()
		case end == len(all):
			return out, at(run[0].Key, v)
		case !run[0].Dead:
			out[end-1] = at(run[0].Key, m.finish(run[0].Key, v))
		}
		begin = end
	}
}

// tells tells where Step does not tell what is written out.
func tells(t *testing.T, what string, m meaning, carry api.Record, l, want []api.Record, on api.Record) {
	t.Helper()
	was := slices.Clone(l)
	out, next := Step(m.p, carry, l)
	if !slices.Equal(out, want) || next != on {
		t.Errorf("P15.1: %s: Step(%+v, %+v): %+v, %+v, not %+v, %+v", what, carry, l, out, next, want, on)
	}
	if !slices.Equal(l, was) {
		t.Errorf("R3: %s: Step left %+v, not %+v", what, l, was)
	}
	for _, r := range append(out, next) {
		if r.Dead && r != none() || r.Seq != 0 {
			t.Errorf("P15.1: %s: %+v says more than the chapter does", what, r)
		}
	}
}

// holds holds Step against the chapter's words done a second way.
func holds(t *testing.T, what string, m meaning, carry api.Record, l []api.Record) {
	t.Helper()
	want, on := runs(m, carry, l)
	tells(t, what, m, carry, l, want, on)
}

// edges are numbers at which a byte, a sign or a bound turns.
func edges() []int64 {
	return []int64{0, 1, -1, 255, 256, -256, math.MaxInt32, math.MinInt32, 1 << 32, -1 << 32, 1<<32 + 1, most - 1, most, least, least + 1}
}

// carries are some of each kind.
func carries() []api.Record {
	return []api.Record{none(), dead(1, 5, 9), dead(0, 0, 1), at(1, 5), from(1, 5, 77), from(1, 5, -1), at(0, 0), from(0, 0, 8), at(2, -3), at(least, most), from(most, least, most)}
}

// lists calls visit with each list of count records out of kinds.
func lists(kinds []api.Record, count int, visit func([]api.Record)) {
	l := make([]api.Record, count)
	var fill func(place int)
	fill = func(place int) {
		if place == count {
			visit(l)
			return
		}
		for _, r := range kinds {
			l[place] = r
			fill(place + 1)
		}
	}
	fill(0)
}

// anyNumber is one of chance: out of a few, or out of the edges.
func anyNumber(chance *rand.Rand, few int) int64 {
	if chance.IntN(4) == 0 {
		return edges()[chance.IntN(len(edges()))]
	}
	return int64(chance.IntN(few)) - int64(few/2)
}

// anyRecord is one of chance, now and then a dead one that says more.
func anyRecord(chance *rand.Rand, keys int) api.Record {
	return api.Record{Dead: chance.IntN(5) == 0, Key: anyNumber(chance, keys), Value: anyNumber(chance, 1000), Seq: anyNumber(chance, 64)}
}

// anyList is a list of n records of chance, with runs of one Key.
func anyList(chance *rand.Rand, n int) []api.Record {
	keys := 1 + chance.IntN(5)
	l := make([]api.Record, n)
	for i := range l {
		l[i] = anyRecord(chance, keys)
		if i > 0 && chance.IntN(2) == 0 {
			l[i].Key = l[i-1].Key
		}
	}
	return l
}

// anyPart is a part of chance that may stand in a Fold and in a Finish.
func anyPart(chance *rand.Rand) []api.Op {
	part := make([]api.Op, chance.IntN(api.MaxOps+1))
	register := func() int { return chance.IntN(3) }
	for i := range part {
		part[i] = api.Op{Code: 1 + chance.IntN(api.OpShift), D: register(), A: register(), B: register(), C: register(), N: anyNumber(chance, 9)}
	}
	return part
}

// anyMeaning is a program of chance that may be.
func anyMeaning(chance *rand.Rand) meaning {
	p := api.Program{K: 1 + chance.IntN(api.MaxK), Fold: anyPart(chance), Finish: anyPart(chance)}
	return meaning{
		p:      p,
		fold:   func(a, v int64) int64 { return vm.Fold(p, a, v) },
		finish: func(key, v int64) int64 { return vm.Finish(p, key, v) },
	}
}

// TestExample: the chapter's example.
func TestExample(t *testing.T) {
	tells(t, "the chapter's example", sum(), none(), []api.Record{at(1, 5), at(1, 6), none()}, []api.Record{none(), none(), at(1, 11)}, none())
}

// TestWrittenOut: a few lists, and what comes out of them, written out.
func TestWrittenOut(t *testing.T) {
	twice := ordered() // in the end twice it, less the key
	for what, row := range map[string]struct {
		m     meaning
		carry api.Record
		l     []api.Record
		want  []api.Record
		on    api.Record
	}{
		"no record, a dead carry":                  {sum(), none(), nil, nil, none()},
		"no record, a dead carry that says more":   {sum(), dead(1, 5, 9), nil, nil, none()},
		"no record, a carry":                       {sum(), at(1, 5), nil, nil, at(1, 5)},
		"no record, a carry with a Seq":            {sum(), from(1, 5, 9), nil, nil, at(1, 5)},
		"no record, a carry of zeros":              {sum(), from(0, 0, 9), nil, nil, at(0, 0)},
		"no record, a Finish":                      {twice, at(1, 5), nil, nil, at(1, 5)},
		"of its Key":                               {sum(), at(1, 5), []api.Record{from(1, 6, 3)}, []api.Record{none()}, at(1, 11)},
		"of its Key, a carry with a Seq":           {sum(), from(1, 5, 9), []api.Record{from(1, 6, 3)}, []api.Record{none()}, at(1, 11)},
		"of another Key":                           {sum(), at(1, 5), []api.Record{from(2, 6, 3)}, []api.Record{at(1, 5)}, at(2, 6)},
		"of another Key, a carry with a Seq":       {sum(), from(1, 5, 9), []api.Record{from(2, 6, 3)}, []api.Record{at(1, 5)}, at(2, 6)},
		"of a lesser Key":                          {sum(), at(1, 5), []api.Record{from(-1, 6, 3)}, []api.Record{at(1, 5)}, at(-1, 6)},
		"a dead one":                               {sum(), at(1, 5), []api.Record{none()}, []api.Record{at(1, 5)}, none()},
		"a dead one of its Key":                    {sum(), at(1, 5), []api.Record{dead(1, 6, 3)}, []api.Record{at(1, 5)}, none()},
		"a dead one of another Key":                {sum(), at(1, 5), []api.Record{dead(2, 6, 3)}, []api.Record{at(1, 5)}, none()},
		"a dead one, a carry with a Seq":           {sum(), from(1, 5, 9), []api.Record{none()}, []api.Record{at(1, 5)}, none()},
		"behind a dead carry":                      {sum(), none(), []api.Record{from(1, 6, 3)}, []api.Record{none()}, at(1, 6)},
		"behind a dead carry, of the Key 0":        {sum(), none(), []api.Record{from(0, 6, 3)}, []api.Record{none()}, at(0, 6)},
		"behind a dead carry that has its Key":     {sum(), dead(1, 5, 9), []api.Record{from(1, 6, 3)}, []api.Record{none()}, at(1, 6)},
		"behind a dead carry that has another Key": {sum(), dead(2, 5, 9), []api.Record{from(1, 6, 3)}, []api.Record{none()}, at(1, 6)},
		"a dead one behind a dead carry":           {sum(), dead(1, 5, 9), []api.Record{dead(1, 6, 3)}, []api.Record{none()}, none()},
		"a run of one Key":                         {sum(), none(), []api.Record{from(4, 1, 0), from(4, 2, 1), from(4, 3, 2), from(4, 4, 3)}, []api.Record{none(), none(), none(), none()}, at(4, 10)},
		"a run in another order":                   {twice, none(), []api.Record{at(4, 3), at(4, 2), at(4, 1), none()}, []api.Record{none(), none(), none(), at(4, 2*(31*(31*3+2)+1)-4)}, none()},
		"Keys that change each time":               {twice, none(), []api.Record{at(1, 1), at(2, 2), at(3, 3), at(4, 4)}, []api.Record{none(), at(1, 1), at(2, 2), at(3, 3)}, at(4, 4)},
		"a Key that comes back":                    {sum(), none(), []api.Record{at(1, 1), at(2, 2), at(1, 3), at(1, 4), none()}, []api.Record{none(), at(1, 1), at(2, 2), none(), at(1, 7)}, none()},
		"a Key that comes back behind a dead one":  {sum(), at(1, 1), []api.Record{none(), at(1, 3), dead(1, 9, 9), at(1, 4), none()}, []api.Record{at(1, 1), none(), at(1, 3), none(), at(1, 4)}, none()},
		"dead ones at the beginning":               {sum(), none(), []api.Record{dead(1, 9, 9), none(), at(1, 3), at(1, 4)}, []api.Record{none(), none(), none(), none()}, at(1, 7)},
		"dead ones in the middle":                  {sum(), none(), []api.Record{at(1, 3), dead(1, 9, 9), none(), at(2, 4)}, []api.Record{none(), at(1, 3), none(), none()}, at(2, 4)},
		"dead ones at the end":                     {sum(), none(), []api.Record{at(1, 3), at(2, 4), dead(2, 9, 9), dead(2, 9, 9)}, []api.Record{none(), at(1, 3), at(2, 4), none()}, none()},
		"dead ones alone":                          {sum(), at(0, 0), []api.Record{none(), dead(0, 1, 2), dead(3, 4, 5)}, []api.Record{at(0, 0), none(), none()}, none()},
		"the kind's ends as Keys":                  {sum(), at(least, 1), []api.Record{at(least, 2), at(most, 3), at(most, 4), at(least, 5)}, []api.Record{none(), at(least, 3), none(), at(most, 7)}, at(least, 5)},
		"Values that go round":                     {sum(), at(1, most), []api.Record{at(1, 1), at(1, least), at(2, least), at(2, -1), none()}, []api.Record{none(), none(), at(1, 0), none(), at(2, most)}, none()},
		"a Finish that goes round":                 {twice, at(most, least), []api.Record{none()}, []api.Record{at(most, least+1)}, none()},
		"zeros that are alive":                     {sum(), none(), []api.Record{at(0, 0), at(1, 0), at(0, 0), none()}, []api.Record{none(), at(0, 0), at(1, 0), at(0, 0)}, none()},
		"not finished ahead of the next":           {twice, at(3, 10), []api.Record{from(3, 4, 1), from(0, 1, 2), none()}, []api.Record{none(), at(3, 2*314-3), at(0, 2)}, none()},
	} {
		tells(t, what, row.m, row.carry, row.l, row.want, row.on)
		if want, on := runs(row.m, row.carry, row.l); !slices.Equal(want, row.want) || on != row.on {
			t.Errorf("the chapter's words done a second way: %s: %+v, %+v, not %+v, %+v", what, want, on, row.want, row.on)
		}
	}
}

// TestNothing: no records, nil or not, behind each carry: the carry goes on, and
// says no more than the chapter does (R3).
func TestNothing(t *testing.T) {
	some := []api.Record{at(1, 2), at(1, 3)}
	for what, m := range meanings() {
		for _, carry := range carries() {
			for _, l := range [][]api.Record{nil, {}, some[:0], some[1:1], some[2:]} {
				want := at(carry.Key, carry.Value)
				if carry.Dead {
					want = none()
				}
				tells(t, what, m, carry, l, nil, want)
			}
		}
	}
}

// TestOne: one record of each kind behind each carry, by each program.
func TestOne(t *testing.T) {
	for what, m := range meanings() {
		for _, carry := range carries() {
			for _, r := range append(carries(), from(carry.Key, 7, 3), dead(carry.Key, 7, 3), from(carry.Key+1, 7, 3), from(carry.Key-1, 7, 3), from(-carry.Key, 7, 3), from(carry.Key^least, 7, 3), from(carry.Key^1<<32, 7, 3)) {
				holds(t, what, m, carry, []api.Record{r})
			}
		}
	}
}

// TestKeyBits: of two Keys that differ in one bit alone nothing is folded.
func TestKeyBits(t *testing.T) {
	for _, key := range edges() {
		for bit := range 64 {
			other := key ^ 1<<bit
			tells(t, "two Keys that differ in a bit", sum(), at(key, 3), []api.Record{at(other, 4), at(key, 5)}, []api.Record{at(key, 3), at(other, 4)}, at(key, 5))
		}
	}
}

// TestEdges: any two edges as Keys and Values, by each program.
func TestEdges(t *testing.T) {
	for what, m := range meanings() {
		for _, a := range edges() {
			for _, b := range edges() {
				holds(t, what, m, from(a, b, a), []api.Record{from(a, a, b), from(b, a, a), from(b, b, b), dead(b, a, b), from(a, b, b), from(b, a, a), from(b, b, a)})
			}
		}
	}
}

// TestEveryList: every list of up to five out of a few kinds behind each carry.
func TestEveryList(t *testing.T) {
	kinds := []api.Record{from(1, 3, 5), from(2, 4, 6), from(-1, 7, 0), none(), dead(1, 9, 9)}
	for n := range 6 {
		lists(kinds, n, func(l []api.Record) {
			for _, carry := range []api.Record{none(), dead(1, 5, 9), from(1, 5, 2), at(2, 6)} {
				holds(t, "a list of kinds", ordered(), carry, l)
			}
		})
	}
}

// TestLengths: lists of all lengths up to some dozens, and of some more: as many
// come out as go in.
func TestLengths(t *testing.T) {
	var lengths []int
	for n := range 70 {
		lengths = append(lengths, n)
	}
	for _, n := range append(lengths, 127, 128, 129, 255, 256, 257, 1000) {
		for what, r := range map[string]func(i int) api.Record{
			"one Key":                   func(i int) api.Record { return from(7, int64(i), int64(i)) },
			"Keys that change":          func(i int) api.Record { return from(int64(i), int64(i), int64(i)) },
			"two Keys by turns":         func(i int) api.Record { return from(int64(i%2), int64(i), int64(i)) },
			"runs of three":             func(i int) api.Record { return from(int64(i/3), int64(i), int64(i)) },
			"runs that come back":       func(i int) api.Record { return from(int64(i/2%3), int64(i), int64(i)) },
			"all dead":                  func(i int) api.Record { return dead(7, int64(i), int64(i)) },
			"dead ones at the even":     func(i int) api.Record { return api.Record{Dead: i%2 == 0, Key: 7, Value: int64(i)} },
			"dead ones at the odd":      func(i int) api.Record { return api.Record{Dead: i%2 == 1, Key: 7, Value: int64(i)} },
			"dead ones in the half":     func(i int) api.Record { return api.Record{Dead: i < n/2, Key: int64(i / 2), Value: int64(i)} },
			"dead ones behind the half": func(i int) api.Record { return api.Record{Dead: i >= n/2, Key: int64(i / 2), Value: int64(i)} },
		} {
			l := make([]api.Record, n)
			for i := range l {
				l[i] = r(i)
			}
			for _, carry := range []api.Record{none(), from(7, 1, 4)} {
				holds(t, fmt.Sprintf("%s, %d", what, n), ordered(), carry, l)
				if out, _ := Step(sum().p, carry, l); len(out) != n {
					t.Errorf("P15.1: %s, %d: %d come out", what, n, len(out))
				}
			}
		}
	}
}

// TestOperations: each operation in a Fold and in a Finish, of what each register
// holds there.
func TestOperations(t *testing.T) {
	values := []int64{0, 1, -1, 2, 5, -7, 63, 64, 1 << 40, most, least}
	try := func(what string, m meaning) {
		t.Helper()
		for _, a := range values {
			for _, b := range values {
				holds(t, what, m, at(b, a), []api.Record{at(b, b), at(b, a), at(a, a), at(a, b), none()})
			}
		}
	}
	for code, result := range results() {
		op, turned := api.Op{Code: code, A: 0, B: 1, C: 0, N: 9}, api.Op{Code: code, A: 1, B: 0, C: 1, N: 9}
		try(fmt.Sprintf("the code %d in a Fold", code), meaning{
			api.Program{K: 1, Fold: []api.Op{op}},
			func(a, v int64) int64 { return result(a, v, a) }, last,
		})
		try(fmt.Sprintf("the code %d in a Fold, the registers the other way round", code), meaning{
			api.Program{K: 1, Fold: []api.Op{turned}},
			func(a, v int64) int64 { return result(v, a, v) }, last,
		})
		try(fmt.Sprintf("the code %d in a Finish", code), meaning{
			api.Program{K: 1, Finish: []api.Op{op}},
			first, func(key, v int64) int64 { return result(v, key, v) },
		})
		try(fmt.Sprintf("the code %d in a Finish, the registers the other way round", code), meaning{
			api.Program{K: 1, Finish: []api.Op{turned}},
			first, func(key, v int64) int64 { return result(key, v, key) },
		})
	}
	for _, n := range values {
		set := []api.Op{{Code: api.OpSet, A: 1, B: 1, C: 1, N: n}}
		always := func(int64, int64) int64 { return n }
		try("OpSet in a Fold", meaning{api.Program{K: 1, Fold: set}, always, last})
		try("OpSet in a Finish", meaning{api.Program{K: 1, Finish: set}, first, always})
	}
}

// TestParts: parts of no operation, and of all numbers of them that may be.
func TestParts(t *testing.T) {
	l := []api.Record{at(3, 1), at(3, 2), at(4, 5), none(), at(4, 6)}
	for n := range int64(api.MaxOps + 1) {
		for k := 1; k <= api.MaxK; k++ {
			emits := slices.Repeat([]api.Op{{Code: api.OpEmit, N: int64(k - 1)}}, int(n))
			more := func(a, v int64) int64 { return a + n*v }
			end := func(key, v int64) int64 { return v + n*key }
			what := fmt.Sprintf("%d operations, K %d", n, k)
			holds(t, what, meaning{api.Program{K: k, Map: emits}, first, last}, at(3, 7), l)
			holds(t, what, meaning{api.Program{K: k, Fold: adds(int(n))}, more, last}, at(3, 7), l)
			holds(t, what, meaning{api.Program{K: k, Finish: adds(int(n))}, first, end}, at(3, 7), l)
			holds(t, what, meaning{api.Program{K: k, Map: emits, Fold: adds(int(n)), Finish: adds(int(n))}, more, end}, at(3, 7), l)
		}
	}
}

// refuses tells where something is told of a program that may not be.
func refuses(t *testing.T, what string, p api.Program) {
	t.Helper()
	if vm.Check(p) != api.ErrProgram {
		t.Errorf("%s: a program that may be", what)
	}
	for _, carry := range carries() {
		for _, l := range [][]api.Record{nil, {}, {none()}, {at(1, 6)}, {at(1, 6), at(1, 7), at(2, 8), dead(1, 9, 9), at(0, 0)}} {
			if out, on := Step(p, carry, l); len(out) != 0 || on != none() {
				t.Errorf("P15.1: %s: Step(%+v, %+v): %+v, %+v", what, carry, l, out, on)
			}
		}
	}
}

// far are numbers that are none of a register, of a code, nor of a K.
func far() []int {
	return []int{-1, -2, -8, -256, math.MinInt, -1 << 32, 13, 64, 255, 256, 257, 1 << 31, 1 << 32, 1<<32 + 1, math.MaxInt}
}

// within calls try with a program that has op in a part, at its beginning, in its
// middle and at its end, for each part.
func within(k int, op api.Op, try func(part, what string, p api.Program)) {
	for _, row := range [][2]int{{0, 0}, {0, 2}, {2, 2}, {2, 0}, {0, 39}, {39, 0}} {
		l := slices.Concat(adds(row[0]), []api.Op{op}, adds(row[1]))
		what := fmt.Sprintf("%+v behind %d, ahead of %d, K %d", op, row[0], row[1], k)
		try("Map", what, api.Program{K: k, Map: l, Fold: adds(1), Finish: adds(1)})
		try("Fold", what, api.Program{K: k, Fold: l, Finish: adds(1)})
		try("Finish", what, api.Program{K: k, Fold: adds(1), Finish: l})
	}
}

// TestK: programs with a K that may not be.
func TestK(t *testing.T) {
	for _, k := range append(far(), 0, api.MaxK+1, api.MaxK+2) {
		refuses(t, fmt.Sprintf("K %d", k), api.Program{K: k})
		refuses(t, fmt.Sprintf("K %d, with operations", k), api.Program{K: k, Map: adds(1), Fold: adds(1), Finish: adds(1)})
	}
	refuses(t, "the zero value", api.Program{})
}

// TestTooMany: programs with a part of too many operations.
func TestTooMany(t *testing.T) {
	for _, n := range []int{api.MaxOps + 1, api.MaxOps + 2, 2 * api.MaxOps, 256, 256 + api.MaxOps} {
		what := fmt.Sprintf("%d operations", n)
		refuses(t, "a Map of "+what, api.Program{K: 1, Map: adds(n), Fold: adds(1)})
		refuses(t, "a Fold of "+what, api.Program{K: 1, Fold: adds(n)})
		refuses(t, "a Finish of "+what, api.Program{K: 1, Fold: adds(1), Finish: adds(n)})
		refuses(t, "parts of "+what, api.Program{K: 1, Map: adds(n), Fold: adds(n), Finish: adds(n)})
	}
}

// TestOperationsThatMayNotBe: programs with a Code that is none, with registers
// that are none, with an OpEmit that names no slot, or where it may not stand.
func TestOperationsThatMayNotBe(t *testing.T) {
	refused := func(part, what string, p api.Program) { refuses(t, part+": "+what, p) }
	for _, code := range append(far(), 0) {
		within(1, api.Op{Code: code}, refused)
	}
	for _, register := range append(far(), api.Registers, api.Registers+1) {
		for _, code := range []int{api.OpSet, api.OpAdd, api.OpPick, api.OpShift, api.OpEmit} {
			within(1, api.Op{Code: code, D: register}, refused)
			within(1, api.Op{Code: code, A: register}, refused)
			within(1, api.Op{Code: code, B: register}, refused)
			within(1, api.Op{Code: code, C: register}, refused)
		}
	}
	for k := 1; k <= api.MaxK; k++ {
		for _, n := range []int64{-1, 0, 1, 2, 3, 4, 5, 256, 1 << 32, -1 << 32, most, least} {
			within(k, api.Op{Code: api.OpEmit, N: n}, func(part, what string, p api.Program) {
				if part != "Map" || n < 0 || n >= int64(k) {
					refuses(t, part+": "+what, p)
					return
				}
				m := sum()
				m.p, m.finish = p, func(key, v int64) int64 { return v + key }
				holds(t, part+": "+what, m, at(1, 5), []api.Record{at(1, 6), at(2, 7), none()})
			})
		}
	}
}

// cut is Step of the pieces of l between the places, one behind the other, the
// carry going on.
func cut(p api.Program, carry api.Record, l []api.Record, places ...int) ([]api.Record, api.Record) {
	var all []api.Record
	begin := 0
	for _, end := range append(places, len(l)) {
		out, on := Step(p, carry, l[begin:end])
		all, carry, begin = append(all, out...), on, end
	}
	return all, carry
}

// TestCut: records that are cut at each place, at each two, and between all of
// them, tell the same as in one.
func TestCut(t *testing.T) {
	chance := rand.New(rand.NewPCG(15, 1))
	for what, m := range meanings() {
		for n := range 12 {
			l := anyList(chance, n)
			for _, carry := range []api.Record{none(), dead(1, 5, 9), from(0, 5, 9), anyRecord(chance, 3)} {
				want, on := Step(m.p, carry, l)
				same := func(places ...int) {
					t.Helper()
					if got, next := cut(m.p, carry, l, places...); !slices.Equal(got, want) || next != on {
						t.Errorf("P15.1: %s: %+v behind %+v, cut at %v: %+v, %+v, not %+v, %+v", what, l, carry, places, got, next, want, on)
					}
				}
				var all []int
				for a := range n + 1 {
					same(a)
					for b := a; b <= n; b++ {
						same(a, b)
					}
					all = append(all, a)
				}
				same(all...)
			}
		}
	}
}

// TestBlocks: long lists, cut into blocks of each size that may be.
func TestBlocks(t *testing.T) {
	chance := rand.New(rand.NewPCG(15, 2))
	m := ordered()
	for size := 1; size <= api.MaxBlock; size++ {
		for range 20 {
			l := anyList(chance, size*(1+chance.IntN(api.MaxBlocks)))
			var got []api.Record
			on := none()
			for b := range slices.Chunk(l, size) {
				var out []api.Record
				out, on = Step(m.p, on, b)
				if len(out) != size {
					t.Errorf("P15.1: of a block of %d come %d", size, len(out))
				}
				got = append(got, out...)
			}
			want, next := runs(m, none(), l)
			if !slices.Equal(got, want) || on != next {
				t.Errorf("P15.1: %+v in blocks of %d: %+v, %+v, not %+v, %+v", l, size, got, on, want, next)
			}
		}
	}
}

// living are those of l that are not dead.
func living(l []api.Record) []api.Record {
	return slices.DeleteFunc(slices.Clone(l), func(r api.Record) bool { return r.Dead })
}

// byKey are the keys of l, by rising keys, each with all that it has, folded in the
// order in which it stands, and finished.
func byKey(m meaning, l []api.Record) []api.Record {
	values := map[int64][]int64{}
	var keys []int64
	for _, r := range living(l) {
		if values[r.Key] == nil {
			keys = append(keys, r.Key)
		}
		values[r.Key] = append(values[r.Key], r.Value)
	}
	slices.Sort(keys)
	var all []api.Record
	for _, key := range keys {
		v := values[key][0]
		for _, more := range values[key][1:] {
			v = m.fold(v, more)
		}
		all = append(all, at(key, m.finish(key, v)))
	}
	return all
}

// TestOnce: behind sorted records, and a dead one, each key has come out once, with
// all that it has.
func TestOnce(t *testing.T) {
	chance := rand.New(rand.NewPCG(15, 3))
	once := func(what string, m meaning, l []api.Record) {
		t.Helper()
		for _, seq := range []bool{true, false} {
			sorted := merge.Sort(l, seq)
			out, on := Step(m.p, none(), append(slices.Clone(sorted), none()))
			if want := byKey(m, sorted); !slices.Equal(living(out), want) {
				t.Errorf("P15.1, what follows: %s: %+v: %+v, not %+v", what, sorted, living(out), want)
			}
			if on != none() {
				t.Errorf("P15.1: %s: %+v is carried on behind a dead one", what, on)
			}
		}
	}
	for what, m := range meanings() {
		for n := range 20 {
			once(what, m, anyList(chance, n))
		}
		once(what, m, anyList(chance, 200))
		var all []api.Record
		for i, key := range edges() {
			all = append(all, from(key, int64(i), 2), from(key, int64(i*i), 1), from(-key, 3, 0), dead(key, 1, 1))
		}
		once(what, m, all)
	}
	for range 200 {
		once("a program of chance", anyMeaning(chance), anyList(chance, chance.IntN(30)))
	}
}

// TestAsSpec: what a map tells, sorted, and a dead one behind it, comes to what
// package spec tells of the whole.
func TestAsSpec(t *testing.T) {
	chance := rand.New(rand.NewPCG(15, 4))
	for range 300 {
		m := anyMeaning(chance)
		m.p.Map = []api.Op{{Code: api.OpAnd, D: 3, A: 0, B: 1}}
		for slot := range m.p.K {
			m.p.Map = append(m.p.Map, api.Op{Code: api.OpEmit, A: chance.IntN(4), B: chance.IntN(4), C: chance.IntN(4), N: int64(slot)})
		}
		k := api.Params{Records: 1 + chance.IntN(12), K: m.p.K, Block: api.MaxBlock, Workers: 1}
		pairs := make([]api.Pair, k.Records)
		var l []api.Record
		for i := range pairs {
			pairs[i] = api.Pair{Key: anyNumber(chance, 4), Value: anyNumber(chance, 9)}
			l = append(l, vm.Map(m.p, int64(i), pairs[i])...)
		}
		out, _ := Step(m.p, none(), append(merge.Sort(l, true), none()))
		want, e := spec.Run(m.p, k, pairs)
		if e != api.OK {
			t.Fatalf("spec.Run: %d", e)
		}
		var got []api.Pair
		for _, r := range living(out) {
			got = append(got, api.Pair{Key: r.Key, Value: r.Value})
		}
		if !slices.Equal(got, want) {
			t.Errorf("P15.1, what follows: %+v of %+v: %+v, not %+v", m.p, pairs, got, want)
		}
	}
}

// TestChance: many lists of chance, by programs of chance and by all others.
func TestChance(t *testing.T) {
	chance := rand.New(rand.NewPCG(15, 5))
	all := meanings()
	for range 3000 {
		holds(t, "a program of chance", anyMeaning(chance), anyRecord(chance, 3), anyList(chance, chance.IntN(24)))
	}
	for what, m := range all {
		for range 200 {
			holds(t, what, m, anyRecord(chance, 3), anyList(chance, chance.IntN(24)))
		}
		holds(t, what, m, anyRecord(chance, 3), anyList(chance, 500))
	}
}

// TestSamePlaces: of two lists whose Keys change at the same places, and whose dead
// ones stand at the same places, what comes out that is not dead stands at the
// same places.
func TestSamePlaces(t *testing.T) {
	chance := rand.New(rand.NewPCG(15, 6))
	places := func(l []api.Record) []bool {
		var are []bool
		for _, r := range l {
			are = append(are, r.Dead)
		}
		return are
	}
	for range 2000 {
		l := append([]api.Record{anyRecord(chance, 3)}, anyList(chance, chance.IntN(24))...)
		other := slices.Clone(l)
		for i := range other {
			// Another Key wherever one begins, but for dead ones, that may say anything.
			other[i].Key, other[i].Value, other[i].Seq = int64(chance.Uint64()), int64(chance.Uint64()), int64(chance.Uint64())
			if i > 0 && !l[i].Dead && !l[i-1].Dead && l[i].Key == l[i-1].Key {
				other[i].Key = other[i-1].Key
			}
		}
		m, n := anyMeaning(chance), anyMeaning(chance)
		a, onA := Step(m.p, l[0], l[1:])
		b, onB := Step(n.p, other[0], other[1:])
		if !slices.Equal(places(a), places(b)) || onA.Dead != onB.Dead {
			t.Errorf("P15.1: of %+v come %+v, %+v, of %+v, which changes at the same places, %+v, %+v", l, a, onA, other, b, onB)
		}
	}
}

// spoilt is what is written over what was handed in or out.
func spoilt() api.Record { return dead(-7, -7, -7) }

// spoil writes over all of l and over the room behind its end.
func spoil(l []api.Record) {
	l = l[:cap(l)]
	for i := range l {
		l[i] = spoilt()
	}
}

// roomy is a program whose parts lie in one row of operations, and that row.
func roomy() (api.Program, []api.Op) {
	row := slices.Concat(adds(1), ordered().p.Fold, ordered().p.Finish, adds(3))
	return api.Program{K: 2, Map: row[:1], Fold: row[1:4], Finish: row[4:6]}, row
}

// TestHandedIn: the records, the parts of the program and the room behind their
// ends are as they were (R3).
func TestHandedIn(t *testing.T) {
	chance := rand.New(rand.NewPCG(15, 7))
	for range 500 {
		room := anyList(chance, 20)
		was := slices.Clone(room)
		p, row := roomy()
		rowWas := slices.Clone(row)
		begin := chance.IntN(10)
		end := begin + chance.IntN(10)
		carry := anyRecord(chance, 3)
		m := ordered()
		m.p = p
		want, on := runs(m, carry, room[begin:end])
		got, next := Step(p, carry, room[begin:end])
		if !slices.Equal(got, want) || next != on {
			t.Errorf("P15.1: %+v behind %+v: %+v, %+v, not %+v, %+v", room[begin:end], carry, got, next, want, on)
		}
		p.K = 0
		Step(p, carry, room[begin:end])
		if !slices.Equal(room, was) {
			t.Fatalf("R3: Step left %+v, not %+v", room, was)
		}
		if !slices.Equal(row, rowWas) {
			t.Fatalf("R3: Step left %+v, not %+v", row, rowWas)
		}
	}
}

// TestHandedOut: what is told is new memory: it is not changed by what is done to
// what was handed in, nor by later calls, nor the other way round (R3).
func TestHandedOut(t *testing.T) {
	chance := rand.New(rand.NewPCG(15, 8))
	for n := range 20 {
		for _, l := range [][]api.Record{anyList(chance, n), slices.Repeat([]api.Record{none()}, n), slices.Repeat([]api.Record{at(1, 2)}, n)} {
			carry := anyRecord(chance, 3)
			was := slices.Clone(l)
			p, row := roomy()
			m := ordered()
			want, on := runs(m, carry, l)

			out, _ := Step(p, carry, l)
			again, _ := Step(p, carry, l)
			spoil(out)
			if !slices.Equal(l, was) || !slices.Equal(again, want) {
				t.Errorf("R3: of %d: who writes into the answer changes more", n)
			}

			out, next := Step(p, carry, l)
			Step(p, at(9, 9), []api.Record{at(9, 9), at(8, 8), none(), spoilt()})
			spoil(l)
			for i := range row {
				row[i] = api.Op{Code: api.OpSet, N: -7}
			}
			if !slices.Equal(out, want) || next != on {
				t.Errorf("R3: of %d: who writes into what was handed in changes the answer: %+v, %+v, not %+v, %+v", n, out, next, want, on)
			}
		}
	}
}

// TestAgain: the same answers when asked again, whatever was asked ahead, and by
// many at once (R2).
func TestAgain(t *testing.T) {
	chance := rand.New(rand.NewPCG(15, 9))
	l, carry := anyList(chance, 40), from(1, 2, 3)
	all := meanings()
	var asking sync.WaitGroup
	for range 8 {
		asking.Go(func() {
			for range 5 {
				for what, m := range all {
					want, on := runs(m, carry, l)
					if got, next := Step(m.p, carry, l); !slices.Equal(got, want) || next != on {
						t.Errorf("R2: %s: %+v, %+v, not %+v, %+v", what, got, next, want, on)
					}
					Step(api.Program{}, carry, l)
				}
			}
		})
	}
	asking.Wait()
}
