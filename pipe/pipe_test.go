package pipe

import (
	"cmp"
	"fmt"
	"math"
	"math/rand/v2"
	"slices"
	"strconv"
	"sync"
	"testing"

	"domino/api"
	"domino/record"
	"domino/spec"
	"domino/vm"
)

const least, most = math.MinInt64, math.MaxInt64

// none is a dead record.
func none() api.Record { return api.Record{Dead: true} }

// of is a record that is alive.
func of(key, value, seq int64) api.Record {
	return api.Record{Key: key, Value: value, Seq: seq}
}

// pair is what goes in, and comes out.
func pair(key, value int64) api.Pair { return api.Pair{Key: key, Value: value} }

// sizes are the public numbers of a job with one worker.
func sizes(records, k, block int) api.Params {
	return api.Params{Records: records, K: k, Block: block, Workers: 1}
}

// set, op and emit are operations: a number into the register d; what comes of the
// registers a and b into d; the registers a and b into a slot, alive if c is not 0.
func set(d int, n int64) api.Op           { return api.Op{Code: api.OpSet, D: d, N: n} }
func op(code, d, a, b int) api.Op         { return api.Op{Code: code, D: d, A: a, B: b} }
func emit(slot int64, a, b, c int) api.Op { return api.Op{Code: api.OpEmit, A: a, B: b, C: c, N: slot} }

// sum and row are folds: row hangs on the order of the values; turned is a finish
// that hangs on the key, and tells something else when it is done once more.
func sum() []api.Op { return []api.Op{op(api.OpAdd, 0, 0, 1)} }
func row() []api.Op {
	return []api.Op{set(2, 31), op(api.OpMul, 0, 0, 2), op(api.OpAdd, 0, 0, 1)}
}
func turned() []api.Op {
	return []api.Op{set(2, 3), op(api.OpMul, 0, 0, 2), op(api.OpSub, 0, 0, 1)}
}

// slots is a map that does first, and then, for each of k slots, what each says.
func slots(k int, first []api.Op, each func(slot int64) []api.Op) []api.Op {
	l := slices.Clone(first)
	for slot := range int64(k) {
		l = append(l, each(slot)...)
	}
	return l
}

// plain is a map that emits key and value as they are in each of k slots.
func plain(k int) []api.Op {
	return slots(k, []api.Op{set(3, 1)}, func(slot int64) []api.Op { return []api.Op{emit(slot, 0, 1, 3)} })
}

// unlike is a map that emits in each of k slots another key than in any other one,
// of any record: the later, the lesser.
func unlike(k int) []api.Op {
	return slots(k, []api.Op{set(3, 1), set(4, -4), op(api.OpMul, 4, 4, 2)}, func(slot int64) []api.Op {
		return []api.Op{set(5, slot), op(api.OpSub, 6, 4, 5), emit(slot, 6, 1, 3)}
	})
}

// programs are some of each kind, of k slots.
func programs(k int) map[string]api.Program {
	may := func(m []api.Op) api.Program {
		return api.Program{K: k, Map: m, Fold: row(), Finish: turned()}
	}
	return map[string]api.Program{
		"no operation":             {K: k},
		"sums":                     {K: k, Map: plain(k), Fold: sum()},
		"the pair in each slot":    may(plain(k)),
		"a map that emits nothing": may([]api.Op{set(3, 1)}),
		"dead ones alone":          may(slots(k, nil, func(slot int64) []api.Op { return []api.Op{emit(slot, 0, 1, 3)} })),
		"the same key each time":   may(slots(k, []api.Op{set(3, 1), set(4, 7)}, func(slot int64) []api.Op { return []api.Op{emit(slot, 4, 1, 3)} })),
		"a key for each record":    may(unlike(k)),
		"a key for each slot": may(slots(k, []api.Op{set(3, 1)}, func(slot int64) []api.Op {
			return []api.Op{set(4, -slot), emit(slot, 4, 1, 3)}
		})),
		"dead where the value's bit is 0": may(slots(k, nil, func(slot int64) []api.Op {
			return []api.Op{set(3, 1<<slot), op(api.OpAnd, 3, 3, 1), emit(slot, 0, 1, 3)}
		})),
		"the last slot alone":  may([]api.Op{set(3, 1), emit(int64(k)-1, 0, 1, 3)}),
		"the first slot alone": may([]api.Op{set(3, 1), emit(0, 0, 1, 3)}),
		"the number as the value": may(slots(k, []api.Op{set(3, 1), set(5, 1)}, func(slot int64) []api.Op {
			return []api.Op{op(api.OpSub, 0, 0, 5), emit(slot, 0, 2, 3)}
		})),
	}
}

// edges are numbers at which a byte, a sign or a bound turns.
func edges() []int64 {
	return []int64{0, 1, -1, 255, -256, math.MaxInt32, math.MinInt32, 1 << 32, -1 << 32, 1<<32 + 1, most - 1, most, least, least + 1}
}

// anyNumber is one of chance: out of a few, or out of the edges.
func anyNumber(chance *rand.Rand, few int64) int64 {
	if chance.IntN(6) == 0 {
		return edges()[chance.IntN(len(edges()))]
	}
	return chance.Int64N(few) - few/2
}

// anyPairs are n pairs of chance.
func anyPairs(chance *rand.Rand, n int) []api.Pair {
	keys := 1 + chance.Int64N(12)
	l := make([]api.Pair, n)
	for i := range l {
		l[i] = pair(anyNumber(chance, keys), anyNumber(chance, 100))
	}
	return l
}

// anyPart is a part of chance that may stand where there are so many slots.
func anyPart(chance *rand.Rand, slots int) []api.Op {
	l := make([]api.Op, chance.IntN(api.MaxOps+1))
	for i := range l {
		l[i] = api.Op{Code: 1 + chance.IntN(api.OpShift), D: chance.IntN(8), A: chance.IntN(8), B: chance.IntN(8), C: chance.IntN(8), N: anyNumber(chance, 9)}
		if slots > 0 && chance.IntN(3) == 0 {
			l[i].Code, l[i].N = api.OpEmit, chance.Int64N(int64(slots))
		}
	}
	return l
}

// anyProgram is one of chance that may be, of k slots.
func anyProgram(chance *rand.Rand, k int) api.Program {
	return api.Program{K: k, Map: anyPart(chance, k), Fold: anyPart(chance, 0), Finish: anyPart(chance, 0)}
}

// allSizes are the public numbers of all jobs that may be, with one worker.
func allSizes() []api.Params {
	var all []api.Params
	for records := 1; records <= api.MaxRecords; records++ {
		for k := 1; k <= api.MaxK; k++ {
			for block := 1; block <= api.MaxBlock; block++ {
				if p := sizes(records, k, block); spec.Right(p) == api.OK {
					all = append(all, p)
				}
			}
		}
	}
	return all
}

// anySizes are the public numbers of a job of chance that may be.
func anySizes(chance *rand.Rand) api.Params {
	for {
		p := api.Params{Records: 1 + chance.IntN(api.MaxRecords), K: 1 + chance.IntN(api.MaxK), Block: 1 + chance.IntN(api.MaxBlock), Workers: 1 + chance.IntN(api.MaxWorkers)}
		if spec.Right(p) == api.OK {
			return p
		}
	}
}

// counted is how many blocks the input has, and how many all are, counted up one
// by one.
func counted(p api.Params) (input, all int) {
	for input*p.Block < p.Records {
		input++
	}
	for all = 1; all < p.K*input+1; {
		all += all
	}
	return input, all
}

// roundsOf is how many rounds a network of so many blocks has, counted up one by
// one.
func roundsOf(all int) int {
	n := 0
	for size := 2; size <= all; size *= 2 {
		for apart := size / 2; apart >= 1; apart /= 2 {
			n++
		}
	}
	return n
}

// rank is 1 of a dead one, else 0.
func rank(r api.Record) int {
	if r.Dead {
		return 1
	}
	return 0
}

// arranged are the records of l in order, by seq or not, by the library's sort.
func arranged(l []api.Record, seq bool) []api.Record {
	l = slices.Clone(l)
	slices.SortStableFunc(l, func(a, b api.Record) int {
		if a.Dead || b.Dead {
			return cmp.Compare(rank(a), rank(b))
		}
		if c := cmp.Compare(a.Key, b.Key); c != 0 || !seq {
			return c
		}
		return cmp.Compare(a.Seq, b.Seq)
	})
	return l
}

// words are what stands in all blocks behind each stage, the chapter's words done
// a second way: block by block of the input.
func words(g api.Program, p api.Params, in []api.Pair) [][][]api.Record {
	input, all := counted(p)
	blocks := make([][]api.Record, all)
	for i := range blocks {
		blocks[i] = slices.Repeat([]api.Record{none()}, p.Block)
	}
	for i := range input {
		var made []api.Record
		for place := i * p.Block; place < (i+1)*p.Block; place++ {
			if place < len(in) {
				made = append(made, vm.Map(g, int64(place), in[place])...)
			} else {
				made = append(made, slices.Repeat([]api.Record{none()}, p.K)...)
			}
		}
		for j := range p.K {
			blocks[p.K*i+j] = arranged(made[p.Block*j:p.Block*(j+1)], true)
		}
	}
	told := network([][][]api.Record{nil, blocks}, true)
	return network(append(told, foldedAlong(g, told[len(told)-1])), false)
}

// network are the stages told, with those of each round behind them.
func network(told [][][]api.Record, seq bool) [][][]api.Record {
	all := len(told[len(told)-1])
	for size := 2; size <= all; size *= 2 {
		for apart := size / 2; apart >= 1; apart /= 2 {
			was, is := told[len(told)-1], make([][]api.Record, all)
			for a := range all {
				b := a ^ apart
				both := arranged(slices.Concat(was[min(a, b)], was[max(a, b)]), seq)
				// a keeps the lesser ones, where it is the lower one and it is up, or
				// neither of these.
				if (a < b) == (a&size == 0) {
					is[a] = both[:len(was[a])]
				} else {
					is[a] = both[len(was[b]):]
				}
			}
			told = append(told, is)
		}
	}
	return told
}

// foldedAlong are the blocks behind the fold: all records in one row, parted into
// runs of one key; what comes of a run stands where the next one begins.
func foldedAlong(g api.Program, blocks [][]api.Record) [][]api.Record {
	l := slices.Concat(blocks...)
	out := slices.Repeat([]api.Record{none()}, len(l))
	for begin, end := 0, 0; begin < len(l); begin = end {
		v := l[begin].Value
		for end = begin + 1; end < len(l) && !l[begin].Dead && !l[end].Dead && l[end].Key == l[begin].Key; end++ {
			v = vm.Fold(g, v, l[end].Value)
		}
		if !l[begin].Dead && end < len(l) {
			out[end] = of(l[begin].Key, vm.Finish(g, l[begin].Key, v), 0)
		}
	}
	is := make([][]api.Record, len(blocks))
	for i, b := range blocks {
		is[i] = arranged(out[:len(b)], false)
		out = out[len(b):]
	}
	return is
}

// same tells whether the blocks are the same, record by record.
func same(a, b [][]api.Record) bool {
	return slices.EqualFunc(a, b, slices.Equal[[]api.Record])
}

// copied are the blocks of l in memory of their own.
func copied(l [][]api.Record) [][]api.Record {
	c := make([][]api.Record, len(l))
	for i, b := range l {
		c[i] = slices.Clone(b)
	}
	return c
}

// stands tells where behind n stages something else stands than what is wanted.
func stands(t *testing.T, what string, g api.Program, p api.Params, in []api.Pair, n int, want [][]api.Record) {
	t.Helper()
	if l, e := Stage(g, p, in, n); e != api.OK || !same(l, want) {
		t.Errorf("P16.1: %s: Stage %d of %+v, %+v: %+v, error %d, not %+v", what, n, p, in, l, e, want)
	}
}

// runs tells where Run tells something else than spec.Run.
func runs(t *testing.T, what string, g api.Program, p api.Params, in []api.Pair) {
	t.Helper()
	l, e := Run(g, p, in)
	if want, f := spec.Run(g, p, in); e != f || !slices.Equal(l, want) {
		t.Errorf("P16.2: %s: Run of %+v, %+v: %v, error %d, not %v, error %d", what, p, in, l, e, want, f)
	}
}

// holds holds Stage against the chapter's words done a second way, at the stages
// that are named, and Run against spec.Run.
func holds(t *testing.T, what string, g api.Program, p api.Params, in []api.Pair, at ...int) {
	t.Helper()
	want := words(g, p, in)
	for _, n := range at {
		stands(t, what, g, p, in, n, want[n])
	}
	runs(t, what, g, p, in)
}

// everyStage are all stages of a job; mainStages those at which something begins or
// ends, and one of chance.
func everyStage(p api.Params) []int {
	_, all := counted(p)
	var l []int
	for n := range 2*roundsOf(all) + 3 {
		l = append(l, n)
	}
	return l
}
func mainStages(chance *rand.Rand, p api.Params) []int {
	_, all := counted(p)
	r := roundsOf(all)
	return []int{0, 1, 1 + r, 2 + r, chance.IntN(2*r + 3), 2*r + 2}
}

// TestExample: the chapter's example.
func TestExample(t *testing.T) {
	if input, all := Blocks(sizes(3, 1, 2)); input != 2 || all != 4 {
		t.Errorf("P16.1: Blocks: %d and %d, not 2 and 4", input, all)
	}
}

// TestBlocksWrittenOut: a few public numbers, and how many blocks they need: about
// the ends of a block, about powers of two, and about MaxBlocks.
func TestBlocksWrittenOut(t *testing.T) {
	for _, row := range [][5]int{
		{1, 1, 1, 1, 2}, {1, 1, 8, 1, 2}, {1, 4, 1, 1, 8}, {1, 3, 1, 1, 4}, {1, 2, 8, 1, 4},
		{2, 1, 1, 2, 4}, {2, 1, 2, 1, 2}, {3, 1, 2, 2, 4}, {3, 1, 1, 3, 4}, {4, 1, 1, 4, 8},
		{7, 1, 1, 7, 8}, {8, 1, 1, 8, 16}, {8, 1, 8, 1, 2}, {9, 1, 8, 2, 4}, {15, 1, 1, 15, 16}, {16, 1, 1, 16, 32},
		{5, 3, 1, 5, 16}, {6, 3, 1, 6, 32}, {7, 2, 1, 7, 16}, {8, 2, 1, 8, 32}, {3, 4, 1, 3, 16}, {4, 4, 1, 4, 32},
		{30, 1, 1, 30, 32}, {31, 1, 1, 31, 32}, {32, 1, 1, 0, 0}, {33, 1, 1, 0, 0}, {62, 1, 2, 31, 32}, {63, 1, 2, 0, 0}, {64, 1, 2, 0, 0},
		{15, 2, 1, 15, 32}, {16, 2, 1, 0, 0}, {17, 2, 1, 0, 0}, {60, 2, 4, 15, 32}, {61, 2, 4, 0, 0},
		{10, 3, 1, 10, 32}, {11, 3, 1, 0, 0}, {64, 3, 8, 8, 32}, {60, 3, 6, 10, 32}, {61, 3, 6, 0, 0},
		{7, 4, 1, 7, 32}, {8, 4, 1, 0, 0}, {56, 4, 8, 7, 32}, {57, 4, 8, 0, 0}, {64, 4, 8, 0, 0}, {64, 1, 8, 8, 16},
	} {
		for workers := 1; workers <= api.MaxWorkers; workers++ {
			p := sizes(row[0], row[1], row[2])
			p.Workers = workers
			if input, all := Blocks(p); input != row[3] || all != row[4] {
				t.Errorf("P16.1: Blocks of %+v: %d and %d, not %d and %d", p, input, all, row[3], row[4])
			}
		}
	}
}

// mayBe tells whether the public numbers may be, by package api's limits.
func mayBe(p api.Params) bool {
	for _, row := range [][2]int{{p.Records, api.MaxRecords}, {p.K, api.MaxK}, {p.Block, api.MaxBlock}, {p.Workers, api.MaxWorkers}} {
		if row[0] < 1 || row[0] > row[1] {
			return false
		}
	}
	input, _ := counted(p)
	return p.K*input < api.MaxBlocks
}

// counts tells where Blocks does not tell what is counted up.
func counts(t *testing.T, p api.Params) {
	t.Helper()
	var input, all int
	if mayBe(p) {
		input, all = counted(p)
	}
	if a, b := Blocks(p); a != input || b != all {
		t.Errorf("P16.1: Blocks of %+v: %d and %d, not %d and %d", p, a, b, input, all)
	}
	if refused := spec.Right(p) != api.OK; refused != (all == 0) {
		t.Errorf("P16.1: spec.Right of %+v: refused: %t", p, refused)
	}
}

// TestBlocks: all public numbers within their bounds, and some past each.
func TestBlocks(t *testing.T) {
	for records := -2; records <= api.MaxRecords+3; records++ {
		for k := -1; k <= api.MaxK+2; k++ {
			for block := -1; block <= api.MaxBlock+2; block++ {
				for workers := -1; workers <= api.MaxWorkers+2; workers++ {
					counts(t, api.Params{Records: records, K: k, Block: block, Workers: workers})
				}
			}
		}
	}
}

// far are numbers far out of all bounds, some of which are within them when they are
// cut to fewer bits.
func far() []int {
	return []int{math.MinInt, math.MinInt + 1, -1 << 32, -1<<32 + 1, -256, -255, -64, 256, 257, 1 << 16, 1<<16 + 1, 1 << 31, 1 << 32, 1<<32 + 1, 1 << 62, 1<<62 + 1, math.MaxInt - 1, math.MaxInt}
}

// TestBlocksFar: public numbers far out of their bounds, one or all of them.
func TestBlocksFar(t *testing.T) {
	for _, n := range far() {
		for _, p := range []api.Params{
			{Records: n, K: 1, Block: 1, Workers: 1}, {Records: 1, K: n, Block: 1, Workers: 1}, {Records: 1, K: 1, Block: n, Workers: 1}, {Records: 1, K: 1, Block: 1, Workers: n},
			{Records: n, K: n, Block: 1, Workers: 1}, {Records: n, K: 1, Block: n, Workers: 1}, {Records: n, K: n, Block: n, Workers: n},
		} {
			if input, all := Blocks(p); input != 0 || all != 0 {
				t.Errorf("P16.1: Blocks of %+v: %d and %d", p, input, all)
			}
		}
	}
}

// each are blocks of one record.
func each(l ...api.Record) [][]api.Record {
	var blocks [][]api.Record
	for _, r := range l {
		blocks = append(blocks, []api.Record{r})
	}
	return blocks
}

// TestWrittenOut: a job of blocks of one record, stage by stage.
func TestWrittenOut(t *testing.T) {
	g := api.Program{K: 1, Map: plain(1), Fold: row(), Finish: turned()}
	p, in := sizes(3, 1, 1), []api.Pair{pair(3, 10), pair(2, 20), pair(3, 30)}
	first, second, third, d := of(3, 10, 0), of(2, 20, 1), of(3, 30, 2), none()
	two, three := of(2, 3*20-2, 0), of(3, 3*(31*10+30)-3, 0)
	want := [][][]api.Record{
		nil,
		each(first, second, third, d),
		each(second, first, d, third), // 0 1 up, 2 3 not
		each(second, first, d, third), // 0 2 up, 1 3 up
		each(second, first, third, d), // 0 1 up, 2 3 up
		each(d, two, d, three),
		each(two, d, d, three), // 0 1 up, 2 3 not
		each(two, three, d, d), // 0 2 up, 1 3 up
		each(two, three, d, d), // 0 1 up, 2 3 up
	}
	for n, blocks := range want {
		stands(t, "written out", g, p, in, n, blocks)
	}
	if !slices.EqualFunc(words(g, p, in), want, same) {
		t.Errorf("the chapter's words done a second way: %+v", words(g, p, in))
	}
	told, e := Run(g, p, in)
	if want := []api.Pair{pair(2, 58), pair(3, 1017)}; e != api.OK || !slices.Equal(told, want) {
		t.Errorf("P16.2: Run: %v, error %d, not %v", told, e, want)
	}
}

// both is a program that emits the key, and it the other way round, both with the
// value, where the value is not 0.
func both() api.Program {
	m := []api.Op{emit(0, 0, 1, 1), op(api.OpSub, 4, 5, 0), emit(1, 4, 1, 1)}
	return api.Program{K: 2, Map: m, Fold: row(), Finish: turned()}
}

// TestMappedWrittenOut: what stands behind the first stage: the records of each
// block of the input in blocks of their own, each sorted.
func TestMappedWrittenOut(t *testing.T) {
	d := none()
	in := []api.Pair{pair(5, 1), pair(-3, 2), pair(4, 3), pair(1, 4), pair(0, 5)}
	for _, row := range []struct {
		in    []api.Pair
		block int
		want  [][]api.Record
	}{
		{in[:1], 1, [][]api.Record{{of(5, 1, 0)}, {of(-5, 1, 1)}, {d}, {d}}},
		{in[:1], 2, [][]api.Record{{of(-5, 1, 1), of(5, 1, 0)}, {d, d}, {d, d}, {d, d}}},
		{in[:1], 3, [][]api.Record{{of(-5, 1, 1), of(5, 1, 0), d}, {d, d, d}, {d, d, d}, {d, d, d}}},
		{in[:2], 2, [][]api.Record{{of(-5, 1, 1), of(5, 1, 0)}, {of(-3, 2, 2), of(3, 2, 3)}, {d, d}, {d, d}}},
		{in[:2], 3, [][]api.Record{{of(-5, 1, 1), of(-3, 2, 2), of(5, 1, 0)}, {of(3, 2, 3), d, d}, {d, d, d}, {d, d, d}}},
		{in[:3], 2, [][]api.Record{{of(-5, 1, 1), of(5, 1, 0)}, {of(-3, 2, 2), of(3, 2, 3)}, {of(-4, 3, 5), of(4, 3, 4)}, {d, d}, {d, d}, {d, d}, {d, d}, {d, d}}},
		{in[:4], 3, [][]api.Record{{of(-5, 1, 1), of(-3, 2, 2), of(5, 1, 0)}, {of(-4, 3, 5), of(3, 2, 3), of(4, 3, 4)}, {of(-1, 4, 7), of(1, 4, 6), d}, {d, d, d}, {d, d, d}, {d, d, d}, {d, d, d}, {d, d, d}}},
		// By Seq, where keys are alike; the dead ones behind.
		{[]api.Pair{pair(7, 0), pair(0, 5), pair(0, 4)}, 3, [][]api.Record{{of(0, 5, 2), d, d}, {of(0, 5, 3), of(0, 4, 4), of(0, 4, 5)}, {d, d, d}, {d, d, d}}},
		{[]api.Pair{pair(7, 0), pair(-7, 0)}, 1, each(d, d, d, d, d, d, d, d)},
	} {
		stands(t, "mapped", both(), sizes(len(row.in), 2, row.block), row.in, 1, row.want)
	}
}

// TestFoldedWrittenOut: what stands behind the fold: a key whose records lie in
// several blocks, one whose last record is the last one of its block, and dead ones.
func TestFoldedWrittenOut(t *testing.T) {
	g := api.Program{K: 1, Map: plain(1), Fold: row()}
	d := none()
	for _, row := range []struct {
		what string
		in   []api.Pair
		want [][]api.Record
	}{
		{"a key in two blocks", []api.Pair{pair(1, 1), pair(1, 2), pair(1, 3), pair(2, 4), pair(2, 5)}, [][]api.Record{{d, d}, {of(1, (1*31+2)*31+3, 0), d}, {of(2, 4*31+5, 0), d}, {d, d}}},
		{"a key that ends with its block", []api.Pair{pair(2, 4), pair(1, 1), pair(2, 5), pair(1, 2)}, [][]api.Record{{d, d}, {of(1, 1*31+2, 0), d}, {of(2, 4*31+5, 0), d}, {d, d}}},
		{"a key in all blocks", []api.Pair{pair(9, 1), pair(9, 2), pair(9, 3), pair(9, 4), pair(9, 5), pair(9, 6)}, [][]api.Record{{d, d}, {d, d}, {d, d}, {of(9, ((((1*31+2)*31+3)*31+4)*31+5)*31+6, 0), d}}},
		{"a key for each record", []api.Pair{pair(4, 1), pair(3, 2), pair(2, 3), pair(1, 4)}, [][]api.Record{{of(1, 4, 0), d}, {of(2, 3, 0), of(3, 2, 0)}, {of(4, 1, 0), d}, {d, d}}},
		{"one in each block that comes out", []api.Pair{pair(1, 1), pair(2, 2), pair(2, 3), pair(3, 4)}, [][]api.Record{{of(1, 1, 0), d}, {of(2, 2*31+3, 0), d}, {of(3, 4, 0), d}, {d, d}}},
		{"one record", []api.Pair{pair(-6, 6)}, [][]api.Record{{of(-6, 6, 0), d}, {d, d}}},
		{"two records", []api.Pair{pair(-6, 6), pair(-7, 7)}, [][]api.Record{{of(-7, 7, 0), d}, {of(-6, 6, 0), d}}},
	} {
		p := sizes(len(row.in), 1, 2)
		_, all := counted(p)
		stands(t, row.what, g, p, row.in, 2+roundsOf(all), row.want)
	}
}

// TestEveryStage: every stage of every job that may be, with programs and inputs of
// chance.
func TestEveryStage(t *testing.T) {
	for block := 1; block <= api.MaxBlock; block++ {
		for k := 1; k <= api.MaxK; k++ {
			t.Run(fmt.Sprintf("Block %d, K %d", block, k), func(t *testing.T) {
				t.Parallel()
				chance := rand.New(rand.NewPCG(16, uint64(8*k+block)))
				for _, p := range allSizes() {
					if p.K != k || p.Block != block {
						continue
					}
					g := anyProgram(chance, k)
					if chance.IntN(2) == 0 {
						g.Map = plain(k) // most of the others emit little
					}
					holds(t, "every stage", g, p, anyPairs(chance, p.Records), everyStage(p)...)
				}
			})
		}
	}
}

// TestPrograms: programs of all kinds, with inputs of chance.
func TestPrograms(t *testing.T) {
	for k := 1; k <= api.MaxK; k++ {
		for what, g := range programs(k) {
			t.Run(fmt.Sprintf("%s, K %d", what, k), func(t *testing.T) {
				t.Parallel()
				chance := rand.New(rand.NewPCG(16, 100))
				for _, p := range allSizes() {
					if p.K == k && chance.IntN(20) == 0 {
						holds(t, what, g, p, anyPairs(chance, p.Records), mainStages(chance, p)...)
					}
				}
			})
		}
	}
}

// TestChance: programs, public numbers and inputs of chance.
func TestChance(t *testing.T) {
	for seed := range uint64(8) {
		t.Run(strconv.Itoa(int(seed)), func(t *testing.T) {
			t.Parallel()
			chance := rand.New(rand.NewPCG(16, 200+seed))
			for range 100 {
				p := anySizes(chance)
				holds(t, "chance", anyProgram(chance, p.K), p, anyPairs(chance, p.Records), mainStages(chance, p)...)
			}
		})
	}
}

// TestKeysAndValues: the least and the greatest keys and values, any two of them,
// and all of them at once.
func TestKeysAndValues(t *testing.T) {
	chance := rand.New(rand.NewPCG(16, 300))
	for what, g := range programs(2) {
		for _, a := range edges() {
			for _, b := range edges() {
				runs(t, what, g, sizes(4, 2, 3), []api.Pair{pair(a, b), pair(b, a), pair(a, a), pair(b, b)})
			}
		}
		var in []api.Pair
		for _, n := range edges() {
			in = append(in, pair(n, most), pair(n, least), pair(-n, n))
		}
		p := sizes(len(in), 2, 6)
		holds(t, what, g, p, in, mainStages(chance, p)...)
	}
	// A dead one stands behind the greatest key, and is none of a key 0.
	g := api.Program{K: 1, Map: []api.Op{emit(0, 0, 1, 1)}, Fold: sum()}
	d := none()
	in := []api.Pair{pair(0, 0), pair(most, 3), pair(0, 5), pair(least, 0), pair(least, 4)}
	stands(t, "the ends of the keys", g, sizes(5, 1, 3), in, 1, [][]api.Record{{of(0, 5, 2), of(most, 3, 1), d}, {of(least, 4, 4), d, d}, {d, d, d}, {d, d, d}})
	stands(t, "the ends of the keys", g, sizes(5, 1, 3), in, 4, [][]api.Record{{of(least, 4, 4), of(0, 5, 2), of(most, 3, 1)}, {d, d, d}, {d, d, d}, {d, d, d}})
	stands(t, "the ends of the keys", g, sizes(5, 1, 3), in, 8, [][]api.Record{{of(least, 4, 0), of(0, 5, 0), of(most, 3, 0)}, {d, d, d}, {d, d, d}, {d, d, d}})
}

// TestNoStages: behind none there are no blocks, whatever the input.
func TestNoStages(t *testing.T) {
	for _, p := range allSizes() {
		l, e := Stage(api.Program{K: p.K, Map: plain(p.K)}, p, make([]api.Pair, p.Records), 0)
		if e != api.OK || len(l) != 0 {
			t.Errorf("P16.1: Stage 0 of %+v: %+v, error %d", p, l, e)
		}
	}
}

// TestMapped: each block behind the first stage has the records of its own block of
// the input, and of no other one, in the order in which they were made.
func TestMapped(t *testing.T) {
	for _, p := range allSizes() {
		g := api.Program{K: p.K, Map: unlike(p.K)}
		in := make([]api.Pair, p.Records)
		for i := range in {
			in[i].Value = int64(100 + i)
		}
		l, e := Stage(g, p, in, 1)
		if input, all := counted(p); e != api.OK || len(l) != all {
			t.Fatalf("P16.1: Stage 1 of %+v: %d blocks of %d, error %d", p, input, len(l), e)
		}
		for i, b := range l {
			// The later a record, the lesser its key.
			want := slices.Repeat([]api.Record{none()}, p.Block)
			n := 0
			for seq := min((i+1)*p.Block, p.Records*p.K) - 1; seq >= i*p.Block; seq-- {
				key := -4*(seq/p.K) - seq%p.K
				want[n] = of(int64(key), int64(100+seq/p.K), int64(seq))
				n++
			}
			if !slices.Equal(b, want) {
				t.Errorf("P16.1: Stage 1 of %+v: the block %d is %+v, not %+v", p, i, b, want)
			}
		}
	}
}

// ahead tells whether a record of a stands ahead of one of b, by seq or not.
func ahead(a, b []api.Record, seq bool) bool {
	for _, r := range a {
		for _, q := range b {
			if seq && record.Before(r, q) == 1 || !seq && record.Ahead(r, q) == 1 {
				return true
			}
		}
	}
	return false
}

// TestRounds: of each two blocks that are held against each other in a round the
// one that the network names has the lesser records, and both have what both had.
func TestRounds(t *testing.T) {
	chance := rand.New(rand.NewPCG(16, 400))
	for range 40 {
		p := anySizes(chance)
		g, in := programs(p.K)["the pair in each slot"], anyPairs(chance, p.Records)
		_, all := counted(p)
		n := 1
		for _, seq := range []bool{true, false} {
			for size := 2; size <= all; size *= 2 {
				for apart := size / 2; apart >= 1; apart /= 2 {
					was, _ := Stage(g, p, in, n)
					is, _ := Stage(g, p, in, n+1)
					for a := range all {
						b := a ^ apart
						if b < a {
							continue
						}
						first, second := is[a], is[b]
						if a&size != 0 {
							first, second = second, first
						}
						if ahead(second, first, seq) {
							t.Errorf("P16.1: Stage %d of %+v: the blocks %d and %d: %+v and %+v", n+1, p, a, b, is[a], is[b])
						}
						if !slices.Equal(arranged(slices.Concat(was[a], was[b]), true), arranged(slices.Concat(is[a], is[b]), true)) {
							t.Errorf("P16.1: Stage %d of %+v: the blocks %d and %d have other records: %+v and %+v, not %+v and %+v", n+1, p, a, b, is[a], is[b], was[a], was[b])
						}
						if ahead(is[a][1:], is[a][:1], seq) || ahead(is[b][1:], is[b][:1], seq) {
							t.Errorf("P16.1: Stage %d of %+v: the blocks %d and %d are not sorted: %+v and %+v", n+1, p, a, b, is[a], is[b])
						}
					}
					n++
				}
			}
			n++ // the fold
		}
	}
}

// TestSorted: behind the first rounds all records stand sorted by seq, from block to
// block; behind the last ones each key stands once, by rising keys, and all dead
// ones behind.
func TestSorted(t *testing.T) {
	chance := rand.New(rand.NewPCG(16, 500))
	for range 200 {
		p := anySizes(chance)
		g, in := api.Program{K: p.K, Map: plain(p.K), Fold: row(), Finish: turned()}, anyPairs(chance, p.Records)
		if chance.IntN(2) == 0 {
			g.Map = anyPart(chance, p.K)
		}
		_, all := counted(p)
		r := roundsOf(all)
		mapped, _ := Stage(g, p, in, 1)
		sorted, _ := Stage(g, p, in, 1+r)
		if !slices.Equal(slices.Concat(sorted...), arranged(slices.Concat(mapped...), true)) {
			t.Errorf("P16.1: Stage %d of %+v: %+v", 1+r, p, sorted)
		}
		end, _ := Stage(g, p, in, 2+2*r)
		row := slices.Concat(end...)
		for i, r := range row {
			if r.Dead && r != none() || r.Seq != 0 {
				t.Errorf("P16.1: the last stage of %+v: %+v says more than the chapter does", p, r)
			}
			if i > 0 && !r.Dead && (row[i-1].Dead || row[i-1].Key >= r.Key) {
				t.Errorf("P16.1: the last stage of %+v: %+v stands behind %+v", p, r, row[i-1])
			}
		}
	}
}

// TestRunIsTheLastStage: Run is what is not dead behind the last stage, in order.
func TestRunIsTheLastStage(t *testing.T) {
	chance := rand.New(rand.NewPCG(16, 600))
	for range 100 {
		p := anySizes(chance)
		g, in := api.Program{K: p.K, Map: plain(p.K), Fold: anyPart(chance, 0), Finish: anyPart(chance, 0)}, anyPairs(chance, p.Records)
		_, all := counted(p)
		l, _ := Stage(g, p, in, 2+2*roundsOf(all))
		var want []api.Pair
		for _, r := range slices.Concat(l...) {
			if !r.Dead {
				want = append(want, pair(r.Key, r.Value))
			}
		}
		if told, e := Run(g, p, in); e != api.OK || !slices.Equal(told, want) {
			t.Errorf("P16.2: Run of %+v, %+v: %v, error %d, not %v", p, in, told, e, want)
		}
	}
}

// TestOtherBlocks: blocks of other sizes, and more workers, tell the same of the
// same input, all that spec.Run tells.
func TestOtherBlocks(t *testing.T) {
	chance := rand.New(rand.NewPCG(16, 700))
	for k := 1; k <= api.MaxK; k++ {
		for what, g := range programs(k) {
			in := anyPairs(chance, 1+chance.IntN(20))
			var first []api.Pair
			for block := api.MaxBlock; block >= 1; block-- {
				p := sizes(len(in), k, block)
				if spec.Right(p) != api.OK {
					continue
				}
				p.Workers = 1 + block%api.MaxWorkers
				runs(t, what, g, p, in)
				told, e := Run(g, p, in)
				if block == api.MaxBlock {
					first = told
				}
				if e != api.OK || !slices.Equal(told, first) {
					t.Errorf("P16.2: %s: Run of %+v, %+v: %v, error %d, not %v", what, p, in, told, e, first)
				}
			}
		}
	}
}

// TestWorkers: how many workers there are turns no stage.
func TestWorkers(t *testing.T) {
	chance := rand.New(rand.NewPCG(16, 800))
	for workers := 1; workers <= api.MaxWorkers; workers++ {
		p := sizes(9, 3, 2)
		p.Workers = workers
		holds(t, "workers", programs(3)["the pair in each slot"], p, anyPairs(chance, 9), everyStage(p)...)
	}
}

// TestSameShape: whatever is in the input, and whatever the program, each stage has
// as many blocks of as many records.
func TestSameShape(t *testing.T) {
	chance := rand.New(rand.NewPCG(16, 900))
	for range 10 {
		p := anySizes(chance)
		_, all := counted(p)
		alike := slices.Repeat([]api.Pair{pair(most, least)}, p.Records)
		for what, g := range programs(p.K) {
			for _, in := range [][]api.Pair{make([]api.Pair, p.Records), alike, anyPairs(chance, p.Records)} {
				for _, n := range mainStages(chance, p) {
					want := all
					if n == 0 {
						want = 0
					}
					l, e := Stage(g, p, in, n)
					if e != api.OK || len(l) != want {
						t.Errorf("P16.1: %s: Stage %d of %+v: %d blocks, error %d, not %d", what, n, p, len(l), e, want)
					}
					for i, b := range l {
						if len(b) != p.Block {
							t.Errorf("P16.1: %s: Stage %d of %+v: the block %d has %d records", what, n, p, i, len(b))
						}
					}
				}
			}
		}
	}
}

// refuses tells where Stage, at each of some stages, and Run do not tell an error,
// or tell something beside it.
func refuses(t *testing.T, what string, g api.Program, p api.Params, in []api.Pair, want api.Errno, stages ...int) {
	t.Helper()
	for _, n := range stages {
		if l, e := Stage(g, p, in, n); e != want || len(l) != 0 {
			t.Errorf("P16.1: %s: Stage %d of %+v: %+v, error %d, not %d", what, n, p, l, e, want)
		}
	}
	if _, e := spec.Run(g, p, in); e != want {
		t.Errorf("P12.1: %s: spec.Run: error %d, not %d", what, e, want)
	}
	if l, e := Run(g, p, in); e != want || len(l) != 0 {
		t.Errorf("P16.2: %s: Run of %+v: %v, error %d, not %d", what, p, l, e, want)
	}
}

// wrongSizes are public numbers that may not be: each of them past its bounds.
func wrongSizes() []api.Params {
	all := []api.Params{{}, sizes(32, 1, 1), sizes(16, 2, 1), sizes(11, 3, 1), sizes(64, 4, 8), sizes(8, 4, 1)}
	for _, n := range append(far(), -1, 0) {
		all = append(all, sizes(n, 1, 1), sizes(3, n, 1), sizes(3, 1, n), api.Params{Records: 3, K: 1, Block: 1, Workers: n})
	}
	return append(all, sizes(65, 1, 8), sizes(3, 5, 1), sizes(3, 1, 9), api.Params{Records: 3, K: 1, Block: 1, Workers: 5})
}

// wrongPrograms are programs that may not be, or that have another K than k.
func wrongPrograms(k int) map[string]api.Program {
	all := map[string]api.Program{
		"the zero value":           {},
		"a code that is none":      {K: k, Map: []api.Op{op(13, 0, 0, 0)}},
		"a code 0":                 {K: k, Fold: []api.Op{op(0, 0, 0, 0)}},
		"a register 8":             {K: k, Fold: []api.Op{op(api.OpAdd, 0, 8, 0)}},
		"a register below 0":       {K: k, Finish: []api.Op{op(api.OpAdd, -1, 0, 0)}},
		"a slot past the last one": {K: k, Map: []api.Op{emit(int64(k), 0, 1, 3)}},
		"a slot below 0":           {K: k, Map: []api.Op{emit(-1, 0, 1, 3)}},
		"an emit in a fold":        {K: k, Map: plain(k), Fold: []api.Op{emit(0, 0, 1, 3)}},
		"an emit in a finish":      {K: k, Map: plain(k), Finish: []api.Op{emit(0, 0, 1, 3)}},
		"too long a map":           {K: k, Map: slices.Repeat(sum(), api.MaxOps+1)},
		"too long a fold":          {K: k, Fold: slices.Repeat(sum(), api.MaxOps+1)},
		"too long a finish":        {K: k, Finish: slices.Repeat(sum(), api.MaxOps+1)},
	}
	for _, other := range append(far(), -1, 0, 1, 2, 3, 4, 5) {
		if other != k {
			all[fmt.Sprintf("K %d", other)] = api.Program{K: other, Fold: sum()}
		}
	}
	return all
}

// wrongPairs are lists that are not as long as records: none, nil or not, too few,
// and too many.
func wrongPairs(records int) [][]api.Pair {
	all := [][]api.Pair{nil, {}, make([]api.Pair, records+1), make([]api.Pair, records+7), make([]api.Pair, 256+records)}
	for n := 1; n < records; n++ {
		all = append(all, make([]api.Pair, n))
	}
	return all
}

// anyStages are stages that there are, of a job that may be, and some that there
// are not.
func anyStages() []int {
	return append(far(), -33, -2, -1, 0, 1, 2, 8, 9, 32, 33, 34, 99)
}

// TestErrors: the errors of spec.Run, in its order, whatever the stage, and whatever
// else is wrong behind them.
func TestErrors(t *testing.T) {
	right := api.Program{K: 1, Map: plain(1), Fold: sum()}
	for _, p := range wrongSizes() {
		refuses(t, "public numbers", right, p, make([]api.Pair, 3), api.ErrArg, anyStages()...)
		refuses(t, "public numbers, and no pairs", right, p, nil, api.ErrArg, anyStages()...)
		for what, g := range wrongPrograms(1) {
			refuses(t, "public numbers, and "+what, g, p, make([]api.Pair, 3), api.ErrArg, -1, 0, 99)
			refuses(t, "public numbers, and no pairs, and "+what, g, p, nil, api.ErrArg, -1, 0, 99)
		}
	}
	for _, p := range []api.Params{sizes(3, 1, 1), sizes(3, 2, 2), sizes(5, 3, 8), sizes(7, 4, 1), sizes(1, 1, 1), sizes(31, 1, 1), sizes(64, 3, 8)} {
		for what, g := range wrongPrograms(p.K) {
			refuses(t, what, g, p, make([]api.Pair, p.Records), api.ErrProgram, anyStages()...)
			for _, in := range wrongPairs(p.Records) {
				refuses(t, fmt.Sprintf("%d pairs, and %s", len(in), what), g, p, in, api.ErrProgram, -1, 0, 99)
			}
		}
		for what, g := range programs(p.K) {
			for _, in := range wrongPairs(p.Records) {
				refuses(t, fmt.Sprintf("%d pairs of %s", len(in), what), g, p, in, api.ErrArg, anyStages()...)
			}
		}
	}
}

// TestStagesThatThereAreNot: a stage below 0, or past the last one, of each job that
// may be, alone; Run asks for none of them.
func TestStagesThatThereAreNot(t *testing.T) {
	for i, p := range allSizes() {
		if i%7 != 0 && p.Records > 4 {
			continue
		}
		g, in := api.Program{K: p.K, Map: plain(p.K), Fold: sum()}, make([]api.Pair, p.Records)
		_, all := counted(p)
		past := 2*roundsOf(all) + 3
		for _, n := range append(far(), -1, -2, -past, past, past+1, 2*past) {
			if l, e := Stage(g, p, in, n); e != api.ErrArg || len(l) != 0 {
				t.Errorf("P16.1: Stage %d of %+v: %+v, error %d", n, p, l, e)
			}
		}
		if l, e := Stage(g, p, in, past-1); e != api.OK || len(l) != all {
			t.Errorf("P16.1: Stage %d of %+v: %+v, error %d", past-1, p, l, e)
		}
	}
}

// withRoom is l as the front part of a longer list, all of which is told, too.
func withRoom[E any](l []E, behind E) (front, all []E) {
	all = append(slices.Clone(l), slices.Repeat([]E{behind}, 9)...)
	return all[:len(l)], all
}

// TestHandedIn: what is handed in, with the room behind its ends, is as it was, and
// what is told does not hang on what becomes of it (R3).
func TestHandedIn(t *testing.T) {
	chance := rand.New(rand.NewPCG(16, 1000))
	for k := 1; k <= api.MaxK; k++ {
		for what, given := range programs(k) {
			mapped, allMapped := withRoom(given.Map, emit(0, 7, 7, 7))
			folds, allFolds := withRoom(given.Fold, set(0, 99))
			ends, allEnds := withRoom(given.Finish, set(0, 98))
			p := sizes(7, k, 3)
			pairs := anyPairs(chance, 7)
			in, allPairs := withRoom(pairs, pair(1, 5555))
			g := api.Program{K: k, Map: mapped, Fold: folds, Finish: ends}
			before := fmt.Sprint(allMapped, allFolds, allEnds, allPairs)
			want := words(given, p, pairs)
			var told [][][]api.Record
			for n := range want {
				l, _ := Stage(g, p, in, n)
				told = append(told, l)
			}
			run, _ := Run(g, p, in)
			Stage(g, p, allPairs, 3)
			Run(g, sizes(7, k%4+1, 3), in)
			if fmt.Sprint(allMapped, allFolds, allEnds, allPairs) != before {
				t.Errorf("R3: %s: what was handed in was changed", what)
			}
			clear(allMapped)
			clear(allFolds)
			clear(allEnds)
			clear(allPairs)
			if !slices.EqualFunc(told, want, same) {
				t.Errorf("R3: %s: what Stage told hangs on what was handed in", what)
			}
			if wanted, _ := spec.Run(given, p, pairs); !slices.Equal(run, wanted) {
				t.Errorf("R3: %s: what Run told hangs on what was handed in: %v, not %v", what, run, wanted)
			}
		}
	}
}

// TestNilAndEmpty: parts that are nil are as those of no operation (R3).
func TestNilAndEmpty(t *testing.T) {
	for _, p := range []api.Params{sizes(1, 1, 1), sizes(5, 3, 2)} {
		in := make([]api.Pair, p.Records)
		for _, fold := range [][]api.Op{nil, sum()} {
			without := api.Program{K: p.K, Map: plain(p.K), Fold: fold}
			empty := api.Program{K: p.K, Map: plain(p.K), Fold: append([]api.Op{}, fold...), Finish: []api.Op{}}
			for _, n := range everyStage(p) {
				l, _ := Stage(without, p, in, n)
				stands(t, "parts of no operation", empty, p, in, n, l)
			}
			runs(t, "parts of no operation", empty, p, in)
			runs(t, "parts that are nil", without, p, in)
		}
		holds(t, "no map", api.Program{K: p.K, Map: []api.Op{}}, p, in, everyStage(p)...)
	}
	for _, in := range [][]api.Pair{nil, {}} {
		refuses(t, "no pairs", api.Program{K: 1}, sizes(1, 1, 1), in, api.ErrArg, 0, 1)
	}
}

// spoil writes over all of l, and over the room behind its end.
func spoil[E any](l []E, with E) {
	l = l[:cap(l)]
	for i := range l {
		l[i] = with
	}
}

// TestHandedOut: what is told is new memory: no two blocks share any, who writes
// into one, or behind its end, changes nothing else, and later calls do not change
// it (R3).
func TestHandedOut(t *testing.T) {
	chance := rand.New(rand.NewPCG(16, 1100))
	for _, p := range []api.Params{sizes(1, 1, 1), sizes(5, 1, 2), sizes(7, 2, 3), sizes(12, 3, 8), sizes(9, 4, 4)} {
		for what, g := range programs(p.K) {
			in := anyPairs(chance, p.Records)
			was := slices.Clone(in)
			for n, want := range words(g, p, in) {
				first, _ := Stage(g, p, in, n)
				second, _ := Stage(g, p, in, n)
				Run(g, p, anyPairs(chance, p.Records))
				for i := range first {
					rest := copied(first)
					spoil(first[i], of(-7, -7, -7))
					rest[i] = first[i]
					if !same(first, rest) {
						t.Errorf("R3: %s: Stage %d of %+v: who writes into the block %d changes others", what, n, p, i)
					}
				}
				spoil(first, []api.Record{of(-8, -8, -8)})
				if !same(second, want) || !slices.Equal(in, was) {
					t.Errorf("R3: %s: Stage %d of %+v: who writes into what is told changes more", what, n, p)
				}
				stands(t, what, g, p, in, n, want)
			}
			told, _ := Run(g, p, in)
			again, _ := Run(g, p, in)
			want := slices.Clone(told)
			spoil(told, pair(-7, -7))
			if !slices.Equal(again, want) || !slices.Equal(in, was) {
				t.Errorf("R3: %s: Run of %+v: who writes into what is told changes more", what, p)
			}
			runs(t, what, g, p, in)
		}
	}
}

// TestAgain: the same is told again, whatever was asked ahead, and by many at once
// (R2).
func TestAgain(t *testing.T) {
	chance := rand.New(rand.NewPCG(16, 1200))
	var asking sync.WaitGroup
	for k := 1; k <= api.MaxK; k++ {
		for what, g := range programs(k) {
			p := sizes(6, k, 3)
			in := anyPairs(chance, 6)
			for range 2 {
				asking.Go(func() {
					Run(api.Program{}, p, in)
					Blocks(api.Params{})
					holds(t, what, g, p, in, 1, 2, 3, 0, 8, 5, 1)
					Stage(g, p, in, -1)
					holds(t, what, g, p, in, 8, 1, 5)
				})
			}
		}
	}
	asking.Wait()
}

// TestLeft: stages that are ranged over may be left at each of them, and ranged
// over again (R1).
func TestLeft(t *testing.T) {
	chance := rand.New(rand.NewPCG(16, 1300))
	p := sizes(9, 2, 3)
	g, in := programs(2)["the pair in each slot"], anyPairs(chance, 9)
	want := words(g, p, in)
	sequence := stages(g, p, in)
	for left := range want {
		var got [][][]api.Record
		for n, l := range sequence {
			if n != len(got) {
				t.Fatalf("P16.1: the stage %d is numbered %d", len(got), n)
			}
			got = append(got, copied(l))
			if n == left {
				break
			}
		}
		if !slices.EqualFunc(got, want[:left+1], same) {
			t.Errorf("P16.1: the stages up to %d: %+v", left, got)
		}
	}
	// And what was told of one stage is not changed by those behind it.
	var got [][][]api.Record
	for _, l := range sequence {
		got = append(got, l)
	}
	if !slices.EqualFunc(got, want, same) {
		t.Errorf("P16.1: all stages: %+v", got)
	}
}
