package spec

import (
	"fmt"
	"math"
	"math/rand/v2"
	"slices"
	"sort"
	"sync"
	"testing"

	"domino/api"
	"domino/vm"
)

// job is a program, and what its parts are in Go: emits tells of a pair with its
// number and of a slot the key and the value, and whether they are emitted.
type job struct {
	name   string
	g      api.Program
	emits  func(n, slot int64, in api.Pair) (key, value int64, alive bool)
	fold   func(a, v int64) int64
	finish func(key, v int64) int64
}

// set is the operation that lays n into the register d.
func set(d int, n int64) api.Op { return api.Op{Code: api.OpSet, D: d, N: n} }

// op is the operation of that code, of the registers a and b, into d.
func op(code, d, a, b int) api.Op { return api.Op{Code: code, D: d, A: a, B: b} }

// emit is the operation that lays the registers a and b into the slot n, alive if
// the register c is not 0.
func emit(n int64, a, b, c int) api.Op { return api.Op{Code: api.OpEmit, A: a, B: b, C: c, N: n} }

// plain is a map that emits key and value in each of k slots.
func plain(k int) []api.Op {
	l := []api.Op{set(3, 1)}
	for slot := range int64(k) {
		l = append(l, emit(slot, 0, 1, 3))
	}
	return l
}

// asItIs are the records of plain.
func asItIs(_, _ int64, in api.Pair) (int64, int64, bool) { return in.Key, in.Value, true }

// spread is a map that emits in each of k slots another key, key times 10 and
// the slot, and value times 10 and the slot.
func spread(k int) []api.Op {
	l := []api.Op{set(3, 10), set(4, 1), op(api.OpMul, 0, 0, 3), op(api.OpMul, 1, 1, 3)}
	for slot := range int64(k) {
		l = append(l, emit(slot, 0, 1, 3), op(api.OpAdd, 0, 0, 4), op(api.OpAdd, 1, 1, 4))
	}
	return l
}

// isSpread are the records of spread.
func isSpread(_, slot int64, in api.Pair) (int64, int64, bool) {
	return in.Key*10 + slot, in.Value*10 + slot, true
}

// marked is a map that emits in each of k slots the key, and the pair's number
// times 4 and the slot, the last slot first; dead where the value's bit of the
// slot is not set.
func marked(k int) []api.Op {
	l := []api.Op{set(3, 4), op(api.OpMul, 2, 2, 3)}
	for slot := int64(k) - 1; slot >= 0; slot-- {
		l = append(l, set(4, slot), op(api.OpAdd, 5, 2, 4), set(6, 1<<slot), op(api.OpAnd, 6, 6, 1), emit(slot, 0, 5, 6))
	}
	return l
}

// isMarked are the records of marked.
func isMarked(n, slot int64, in api.Pair) (int64, int64, bool) {
	return in.Key, n*4 + slot, in.Value>>slot&1 == 1
}

// sum, product, row and last are folds: row hangs on the order of the values, and
// on each of them.
func sum() []api.Op     { return []api.Op{op(api.OpAdd, 0, 0, 1)} }
func product() []api.Op { return []api.Op{op(api.OpMul, 0, 0, 1)} }
func row() []api.Op {
	return []api.Op{set(2, 1000003), op(api.OpMul, 0, 0, 2), op(api.OpAdd, 0, 0, 1)}
}
func last() []api.Op { return []api.Op{op(api.OpOr, 0, 1, 1)} }

// isSum, isProduct, isRow and isLast are the same in Go; isFirst is a fold of no
// operation.
func isSum(a, v int64) int64     { return a + v }
func isProduct(a, v int64) int64 { return a * v }
func isRow(a, v int64) int64     { return a*1000003 + v }
func isLast(_, v int64) int64    { return v }
func isFirst(a, _ int64) int64   { return a }

// turned is a finish that tells another number when it is done once more, and
// hangs on the key: the value times 3, less the key, and 1.
func turned() []api.Op {
	return []api.Op{set(2, 3), op(api.OpMul, 0, 0, 2), op(api.OpSub, 0, 0, 1), set(2, 1), op(api.OpAdd, 0, 0, 2)}
}

// isTurned is the same in Go; isNone is a finish of no operation.
func isTurned(key, v int64) int64 { return v*3 - key + 1 }
func isNone(_, v int64) int64     { return v }

// jobs are all maps with all folds and all finishes, of k slots.
func jobs(k int) []job {
	var all []job
	for _, m := range []struct {
		name  string
		ops   []api.Op
		emits func(n, slot int64, in api.Pair) (int64, int64, bool)
	}{{"plain", plain(k), asItIs}, {"spread", spread(k), isSpread}, {"marked", marked(k), isMarked}} {
		for _, f := range []struct {
			name string
			ops  []api.Op
			fold func(a, v int64) int64
		}{{"sum", sum(), isSum}, {"product", product(), isProduct}, {"row", row(), isRow}, {"last", last(), isLast}, {"first", nil, isFirst}} {
			for _, e := range []struct {
				name   string
				ops    []api.Op
				finish func(key, v int64) int64
			}{{"turned", turned(), isTurned}, {"none", nil, isNone}} {
				g := api.Program{K: k, Map: m.ops, Fold: f.ops, Finish: e.ops}
				name := fmt.Sprintf("%s, %s, %s, K %d", m.name, f.name, e.name, k)
				all = append(all, job{name, g, m.emits, f.fold, e.finish})
			}
		}
	}
	return all
}

// wantRun is what j is to tell of in: the values of each key laid up in order,
// the keys put in order, and then all of it done in Go.
func wantRun(j job, in []api.Pair) []api.Pair {
	values := map[int64][]int64{}
	for n, p := range in {
		for slot := range j.g.K {
			if key, value, alive := j.emits(int64(n), int64(slot), p); alive {
				values[key] = append(values[key], value)
			}
		}
	}
	var keys []int64
	for key := range values {
		keys = append(keys, key)
	}
	sort.Slice(keys, func(i, j int) bool { return keys[i] < keys[j] })
	var want []api.Pair
	for _, key := range keys {
		so := values[key][0]
		for _, v := range values[key][1:] {
			so = j.fold(so, v)
		}
		want = append(want, api.Pair{Key: key, Value: j.finish(key, so)})
	}
	return want
}

// vmJob is a program of any kind as a job: its parts are what vm tells.
func vmJob(name string, g api.Program) job {
	return job{
		name: name,
		g:    g,
		emits: func(n, slot int64, in api.Pair) (int64, int64, bool) {
			r := vm.Map(g, n, in)[slot]
			return r.Key, r.Value, !r.Dead
		},
		fold:   func(a, v int64) int64 { return vm.Fold(g, a, v) },
		finish: func(key, v int64) int64 { return vm.Finish(g, key, v) },
	}
}

// fits are params of that many records and slots: the greatest blocks, of which
// the fewest are needed.
func fits(records, k int) api.Params {
	return api.Params{Records: records, K: k, Block: api.MaxBlock, Workers: 1}
}

// most is how many records a job of k slots may have.
func most(k int) int {
	return []int{64, 64, 64, 56}[k-1]
}

// tells tells where Run does not answer just want.
func tells(t *testing.T, what string, g api.Program, k api.Params, in, want []api.Pair) {
	t.Helper()
	if got, e := Run(g, k, in); e != api.OK || !slices.Equal(got, want) {
		t.Errorf("P12.1: Run of %s, %+v: %v, error %d, not %v", what, in, got, e, want)
	}
}

// does tells where Run does not answer what j is to tell of in.
func does(t *testing.T, j job, in []api.Pair) {
	t.Helper()
	tells(t, j.name, j.g, fits(len(in), j.g.K), in, wantRun(j, in))
}

// refuses tells where Run does not answer the error, and no pairs.
func refuses(t *testing.T, what string, g api.Program, k api.Params, in []api.Pair, want api.Errno) {
	t.Helper()
	if l, e := Run(g, k, in); e != want || len(l) != 0 {
		t.Errorf("P12.1, R4, R5: Run of %s: %v, error %d, not %d", what, l, e, want)
	}
}

// sums is a program that may be, of k slots.
func sums(k int) api.Program {
	return api.Program{K: k, Map: plain(k), Fold: sum()}
}

// TestExample: the chapter's example, written out.
func TestExample(t *testing.T) {
	g := api.Program{
		K:    1,
		Map:  []api.Op{{Code: api.OpSet, D: 3, N: 1}, {Code: api.OpEmit, A: 0, B: 1, C: 3}},
		Fold: []api.Op{{Code: api.OpAdd, D: 0, A: 0, B: 1}},
	}
	in := []api.Pair{{Key: 7, Value: 1}, {Key: -3, Value: 20}, {Key: 7, Value: 300}, {Key: 0, Value: -4}, {Key: -3, Value: 5}, {Key: 7, Value: 60}}
	want := []api.Pair{{Key: -3, Value: 25}, {Key: 0, Value: -4}, {Key: 7, Value: 361}}
	tells(t, "the chapter's example", g, api.Params{Records: 6, K: 1, Block: 2, Workers: 2}, in, want)
}

// TestWrittenOut: more jobs, what they tell being written out.
func TestWrittenOut(t *testing.T) {
	in := []api.Pair{{Key: 2, Value: 3}, {Key: 1, Value: 1}, {Key: 2, Value: 0}, {Key: 1, Value: 2}}
	digits := []api.Op{set(2, 100), op(api.OpMul, 0, 0, 2), op(api.OpAdd, 0, 0, 1)}
	for _, r := range []struct {
		what string
		g    api.Program
		want []api.Pair
	}{
		{"values in a row", api.Program{K: 1, Map: plain(1), Fold: digits}, []api.Pair{{Key: 1, Value: 102}, {Key: 2, Value: 300}}},
		{"each twice in a row", api.Program{K: 2, Map: plain(2), Fold: digits}, []api.Pair{{Key: 1, Value: 1010202}, {Key: 2, Value: 3030000}}},
		{"keys spread", api.Program{K: 2, Map: spread(2), Fold: digits}, []api.Pair{{Key: 10, Value: 1020}, {Key: 11, Value: 1121}, {Key: 20, Value: 3000}, {Key: 21, Value: 3101}}},
		{"numbers and slots, some dead", api.Program{K: 2, Map: marked(2), Fold: digits}, []api.Pair{{Key: 1, Value: 413}, {Key: 2, Value: 1}}},
		{"turned in the end", api.Program{K: 1, Map: plain(1), Fold: digits, Finish: turned()}, []api.Pair{{Key: 1, Value: 306}, {Key: 2, Value: 899}}},
		{"neither fold nor finish", api.Program{K: 1, Map: plain(1)}, []api.Pair{{Key: 1, Value: 1}, {Key: 2, Value: 3}}},
		{"no fold, turned", api.Program{K: 1, Map: plain(1), Finish: turned()}, []api.Pair{{Key: 1, Value: 3}, {Key: 2, Value: 8}}},
		{"all of one key", api.Program{K: 1, Map: []api.Op{set(3, 1), emit(0, 4, 1, 3)}, Fold: digits}, []api.Pair{{Value: 3010002}}},
		{"the number as the key", api.Program{K: 1, Map: []api.Op{set(3, 1), emit(0, 2, 1, 3)}, Fold: digits}, []api.Pair{{Key: 0, Value: 3}, {Key: 1, Value: 1}, {Key: 2, Value: 0}, {Key: 3, Value: 2}}},
	} {
		tells(t, r.what, r.g, api.Params{Records: 4, K: r.g.K, Block: 4, Workers: 1}, in, r.want)
	}
}

// TestRightEach: each number by itself, the others being such as may be.
func TestRightEach(t *testing.T) {
	ok := api.Params{Records: 3, K: 1, Block: 2, Workers: 2}
	for _, r := range []struct {
		name  string
		most  int
		field func(p *api.Params) *int
	}{
		{"Records", 64, func(p *api.Params) *int { return &p.Records }},
		{"K", 4, func(p *api.Params) *int { return &p.K }},
		{"Block", 8, func(p *api.Params) *int { return &p.Block }},
		{"Workers", 4, func(p *api.Params) *int { return &p.Workers }},
	} {
		for n := 1; n <= r.most; n++ {
			p := ok
			// So that 64 records are not too many blocks.
			p.Block = 8
			*r.field(&p) = n
			if e := Right(p); e != api.OK {
				t.Errorf("P12.1: Right of %s %d: error %d, of %+v, which may be", r.name, n, e, p)
			}
			refuses(t, fmt.Sprintf("%+v, of more pairs", p), sums(p.K), p, make([]api.Pair, p.Records+1), api.ErrArg)
		}
		for _, n := range []int{math.MinInt, math.MinInt + 1, math.MinInt32, -1 << 32, -256, -8, -2, -1, 0, r.most + 1, r.most + 2, 2 * r.most, 65, 255, 256, 257, 1 << 16, math.MaxInt32, 1 << 32, 1<<32 + 1, 1<<62 + 1, 1<<63 - 8, math.MaxInt - 1, math.MaxInt} {
			for _, block := range []int{2, 8} {
				p := ok
				p.Block = block
				*r.field(&p) = n
				if e := Right(p); e != api.ErrArg {
					t.Errorf("P12.1: Right of %s %d: error %d, not %d, of %+v", r.name, n, e, api.ErrArg, p)
				}
				for _, l := range [][]api.Pair{nil, make([]api.Pair, 3), make([]api.Pair, 65)} {
					refuses(t, fmt.Sprintf("%+v, %d pairs", p, len(l)), sums(1), p, l, api.ErrArg)
				}
			}
		}
	}
	if e := Right(api.Params{}); e != api.ErrArg {
		t.Errorf("P12.1: Right of the zero value: error %d", e)
	}
}

// TestRightAll: all params of numbers that may be: the blocks are counted by
// filling them one by one.
func TestRightAll(t *testing.T) {
	for k := 1; k <= api.MaxK; k++ {
		for block := 1; block <= api.MaxBlock; block++ {
			blocks, room := 0, 0
			for records := 1; records <= api.MaxRecords; records++ {
				if room == 0 {
					blocks, room = blocks+1, block
				}
				room--
				want := api.OK
				if k*blocks > 31 {
					want = api.ErrArg
				}
				for workers := 1; workers <= api.MaxWorkers; workers++ {
					p := api.Params{Records: records, K: k, Block: block, Workers: workers}
					if e := Right(p); e != want {
						t.Errorf("P12.1: Right of %+v, which is %d blocks: error %d, not %d", p, k*blocks, e, want)
					}
					if _, e := Run(sums(k), p, make([]api.Pair, records)); e != want {
						t.Errorf("P12.1: Run of %+v: error %d, not %d", p, e, want)
					}
				}
			}
		}
	}
}

// TestRightMost: how many records may be at most, with each K and each Block,
// written out: just below MaxBlocks, the last block being full, and one record
// more, which is MaxBlocks or above it.
func TestRightMost(t *testing.T) {
	for k, row := range map[int][8]int{
		1: {31, 62, 64, 64, 64, 64, 64, 64},
		2: {15, 30, 45, 60, 64, 64, 64, 64},
		3: {10, 20, 30, 40, 50, 60, 64, 64},
		4: {7, 14, 21, 28, 35, 42, 49, 56},
	} {
		for i, most := range row {
			p := api.Params{Records: most, K: k, Block: i + 1, Workers: 1}
			if e := Right(p); e != api.OK {
				t.Errorf("P12.1: Right of %+v: error %d", p, e)
			}
			p.Records--
			if e := Right(p); e != api.OK {
				t.Errorf("P12.1: Right of %+v: error %d", p, e)
			}
			for _, records := range []int{most + 1, most + 2, most + i + 1, most + i + 2} {
				p.Records = records
				if e := Right(p); e != api.ErrArg {
					t.Errorf("P12.1: Right of %+v: error %d", p, e)
				}
			}
		}
	}
}

// noPrograms are programs that may not be, by what is the matter with them; but
// for that they have k slots.
func noPrograms(k int) map[string]api.Program {
	all := map[string]api.Program{"the zero value": {}}
	for _, n := range []int{math.MinInt, -1, 0, 5, 257, 1<<32 + 1, math.MaxInt} {
		g := sums(1)
		g.K = n
		all[fmt.Sprintf("K %d", n)] = g
	}
	for name, l := range map[string][]api.Op{
		"no code":             {{}},
		"a code above":        {{Code: 13}},
		"a code below":        {{Code: -1}},
		"a register above":    {op(api.OpAdd, 8, 0, 1)},
		"a register below":    {op(api.OpAdd, 0, 0, -1)},
		"too many":            slices.Repeat(sum(), 41),
		"a slot above":        {emit(int64(k), 0, 1, 1)},
		"a slot below":        {emit(-1, 0, 1, 1)},
		"one at the very end": append(slices.Repeat(sum(), 39), api.Op{Code: 99}),
	} {
		g := sums(k)
		g.Map = l
		all["a map: "+name] = g
		g = sums(k)
		g.Fold = l
		all["a fold: "+name] = g
		g = sums(k)
		g.Finish = l
		all["a finish: "+name] = g
	}
	g := sums(k)
	g.Fold = []api.Op{emit(0, 0, 1, 1)}
	all["a fold that emits"] = g
	g = sums(k)
	g.Finish = []api.Op{emit(0, 0, 1, 1)}
	all["a finish that emits"] = g
	return all
}

// TestErrors: each error, and of those that are right at once the first one.
func TestErrors(t *testing.T) {
	for k := 1; k <= api.MaxK; k++ {
		p := api.Params{Records: 6, K: k, Block: 3, Workers: 2}
		bad := p
		bad.Workers = 5
		counts := []int{6, 0, 1, 5, 7, 12, 64, 65, 6 + 256, 1000}
		programs := noPrograms(k)
		for other := 1; other <= api.MaxK; other++ {
			if other != k {
				programs[fmt.Sprintf("K %d, which may be", other)] = sums(other)
			}
		}
		for _, n := range counts {
			l := make([]api.Pair, n)
			for i := range l {
				l[i] = api.Pair{Key: int64(i), Value: int64(i + 1)}
			}
			for name, g := range programs {
				refuses(t, fmt.Sprintf("%s, K %d, %d pairs", name, k, n), g, p, l, api.ErrProgram)
				refuses(t, fmt.Sprintf("%s, K %d, %d pairs, 5 workers", name, k, n), g, bad, l, api.ErrArg)
			}
			refuses(t, fmt.Sprintf("K %d, %d pairs, 5 workers", k, n), sums(k), bad, l, api.ErrArg)
			if n != 6 {
				refuses(t, fmt.Sprintf("K %d, %d pairs", k, n), sums(k), p, l, api.ErrArg)
			}
		}
		refuses(t, "no pairs at all", sums(k), p, nil, api.ErrArg)
		refuses(t, "no pairs, the zero value", api.Program{}, p, nil, api.ErrProgram)
		refuses(t, "no pairs, no params", sums(k), api.Params{}, nil, api.ErrArg)
		refuses(t, "no pairs, params of none", sums(k), api.Params{K: k, Block: 3, Workers: 2}, nil, api.ErrArg)
		refuses(t, "nothing", api.Program{}, api.Params{}, nil, api.ErrArg)
	}
}

// TestBlocksTooMany: too many blocks count ahead of the program and of the pairs.
func TestBlocksTooMany(t *testing.T) {
	for _, p := range []api.Params{{Records: 32, K: 1, Block: 1, Workers: 1}, {Records: 57, K: 4, Block: 8, Workers: 1}, {Records: 64, K: 4, Block: 8, Workers: 4}, {Records: 16, K: 2, Block: 1, Workers: 1}, {Records: 31, K: 3, Block: 3, Workers: 1}} {
		for _, g := range []api.Program{sums(p.K), sums(p.K%4 + 1), {}} {
			for _, n := range []int{p.Records, 0, 1} {
				refuses(t, fmt.Sprintf("%+v, K %d, %d pairs", p, g.K, n), g, p, make([]api.Pair, n), api.ErrArg)
			}
		}
	}
}

// TestCounts: of one pair, of MaxRecords, and of all numbers of them between, of
// one key, of some, and of many.
func TestCounts(t *testing.T) {
	for k := 1; k <= api.MaxK; k++ {
		for _, j := range jobs(k) {
			for records := 1; records <= most(k); records++ {
				for _, keys := range []int{1, 3, 1000} {
					in := make([]api.Pair, records)
					for i := range in {
						in[i] = api.Pair{Key: int64(i*37%keys - keys/2), Value: int64(i*i + 1)}
					}
					does(t, j, in)
				}
			}
		}
	}
}

// TestSmall: all inputs of up to three pairs of three keys and three values.
func TestSmall(t *testing.T) {
	for k := 1; k <= 2; k++ {
		for _, j := range jobs(k) {
			for records, inputs := 1, 9; records <= 3; records, inputs = records+1, inputs*9 {
				for n := range inputs {
					in := make([]api.Pair, records)
					for i := range in {
						in[i] = api.Pair{Key: int64(n%3 - 1), Value: int64(n / 3 % 3)}
						n /= 9
					}
					does(t, j, in)
				}
			}
		}
	}
}

// TestAllUnlike: Records times K keys, in no order: the most pairs that may be
// told.
func TestAllUnlike(t *testing.T) {
	chance := rand.New(rand.NewPCG(12, 1))
	for k := 1; k <= api.MaxK; k++ {
		in := make([]api.Pair, most(k))
		for i, n := range chance.Perm(len(in)) {
			in[i] = api.Pair{Key: int64(n - 20), Value: int64(i)}
		}
		g := api.Program{K: k, Map: spread(k), Fold: row(), Finish: turned()}
		l, e := Run(g, fits(len(in), k), in)
		if e != api.OK || len(l) != k*len(in) {
			t.Errorf("P12.1: Run of %d keys: %d pairs, error %d", k*len(in), len(l), e)
		}
		does(t, job{"all unlike", g, isSpread, isRow, isTurned}, in)
	}
}

// TestKeys: below 0, 0, above 0, about the ends of their kind, and such as are
// alike in their lower or their upper half.
func TestKeys(t *testing.T) {
	edges := []int64{
		math.MaxInt64, math.MinInt64, 0, -1, 1, math.MaxInt64 - 1, math.MinInt64 + 1, 1 << 32, -1 << 32, 1<<32 + 1, -1<<32 + 1, -1<<32 - 1,
		math.MaxInt32, math.MinInt32, 1 << 31, 1 << 62, -1 << 62, 1<<62 + 1, 255, 256, -255, -256, 2, -2, 1 << 53, 1<<53 + 1, -1<<53 - 1, -1 << 53,
	}
	j := job{"keys", api.Program{K: 1, Map: plain(1), Fold: row(), Finish: turned()}, asItIs, isRow, isTurned}
	for _, a := range edges {
		for _, b := range edges {
			does(t, j, []api.Pair{{Key: a, Value: 5}, {Key: b, Value: 6}})
			does(t, j, []api.Pair{{Key: a, Value: 5}, {Key: b, Value: 6}, {Key: a, Value: 7}})
			does(t, j, []api.Pair{{Key: b, Value: 5}, {Key: 0, Value: 6}, {Key: a, Value: 7}, {Key: b, Value: 8}})
		}
	}
	var in, want []api.Pair
	for i, key := range append(edges, edges...) {
		in = append(in, api.Pair{Key: key, Value: int64(i)})
	}
	for i, key := range edges {
		want = append(want, api.Pair{Key: key, Value: int64(2*i + len(edges))})
	}
	sort.Slice(want, func(i, j int) bool { return want[i].Key < want[j].Key })
	tells(t, "all edges", sums(1), fits(len(in), 1), in, want)
}

// TestDead: records that are dead count for nothing: all of them, those of a key,
// its first, its last, and those between.
func TestDead(t *testing.T) {
	// Alive where the value is not 0.
	g := api.Program{K: 1, Map: []api.Op{emit(0, 0, 1, 1)}, Fold: row(), Finish: turned()}
	j := job{"dead where 0", g, func(_, _ int64, in api.Pair) (int64, int64, bool) { return in.Key, in.Value, in.Value != 0 }, isRow, isTurned}
	for pattern := range 1 << 9 {
		in := make([]api.Pair, 9)
		for i := range in {
			in[i] = api.Pair{Key: int64(i % 3), Value: int64(pattern >> i & 1 * (i + 1))}
		}
		does(t, j, in)
	}
	// And all slots that a pair has.
	slots := job{"dead slots", api.Program{K: 4, Map: marked(4), Fold: row(), Finish: turned()}, isMarked, isRow, isTurned}
	for pattern := range 1 << 8 {
		for _, key := range []int64{0, 5} {
			in := []api.Pair{{Key: 5, Value: int64(pattern & 15)}, {Key: key, Value: int64(pattern >> 4)}}
			does(t, slots, in)
		}
	}
	zero := api.Program{K: 1, Map: []api.Op{emit(0, 0, 1, 1)}}
	tells(t, "a key 0 that is dead, and one that is not", zero, fits(2, 1), []api.Pair{{}, {Value: 3}}, []api.Pair{{Value: 3}})
	tells(t, "dead ones alone", zero, fits(2, 1), []api.Pair{{}, {Key: 3}}, nil)
}

// TestNothingEmitted: a map that emits nothing, or only what is dead, or that
// emits in some slots alone.
func TestNothingEmitted(t *testing.T) {
	for k := 1; k <= api.MaxK; k++ {
		for _, records := range []int{1, 2, most(k)} {
			in := make([]api.Pair, records)
			for i := range in {
				in[i] = api.Pair{Key: int64(i), Value: 7}
			}
			for _, m := range [][]api.Op{nil, {set(3, 1)}, {emit(0, 0, 1, 3)}, {set(3, 1), emit(0, 0, 1, 3), set(3, 0), emit(0, 0, 1, 3)}} {
				g := api.Program{K: k, Map: m, Fold: row(), Finish: turned()}
				tells(t, "nothing emitted", g, fits(records, k), in, nil)
			}
			for slot := range int64(k) {
				g := api.Program{K: k, Map: []api.Op{set(3, 1), emit(slot, 0, 1, 3)}, Fold: row(), Finish: turned()}
				one := func(_, s int64, in api.Pair) (int64, int64, bool) { return in.Key, in.Value, s == slot }
				does(t, job{"one slot", g, one, isRow, isTurned}, in)
			}
		}
	}
}

// TestOrder: a key's values are folded in the input's order, and by slot within
// a pair's records, whatever the order in which they were emitted, however the
// keys lie between one another.
func TestOrder(t *testing.T) {
	chance := rand.New(rand.NewPCG(12, 2))
	for k := 1; k <= api.MaxK; k++ {
		g := api.Program{K: k, Map: marked(k), Fold: row()}
		for range 300 {
			in := make([]api.Pair, most(k))
			keys := 1 + chance.Int64N(12)
			for i := range in {
				in[i] = api.Pair{Key: chance.Int64N(keys), Value: 15}
			}
			does(t, job{"order", g, isMarked, isRow, isNone}, in)
			for i := range in {
				in[i].Value = chance.Int64N(16)
			}
			does(t, job{"order, some dead", g, isMarked, isRow, isNone}, in)
		}
	}
}

// TestNumbers: a pair's number is its place, from 0 on.
func TestNumbers(t *testing.T) {
	for k := 1; k <= api.MaxK; k++ {
		m := []api.Op{set(3, 1)}
		for slot := range int64(k) {
			m = append(m, emit(slot, 2, 1, 3))
		}
		in := make([]api.Pair, most(k))
		var want []api.Pair
		for i := range in {
			in[i] = api.Pair{Key: -9, Value: int64(1000 - i)}
			want = append(want, api.Pair{Key: int64(i), Value: int64(1000 - i)})
		}
		tells(t, "the number as the key", api.Program{K: k, Map: m}, fits(len(in), k), in, want)
	}
}

// TestFirstValue: a fold begins with the first value, not with 0, and a key with
// one value is not folded, but finished.
func TestFirstValue(t *testing.T) {
	// A fold that tells 77, whatever it is given.
	g := api.Program{K: 1, Map: plain(1), Fold: []api.Op{set(0, 77)}, Finish: turned()}
	tells(t, "a fold that tells 77", g, fits(4, 1), []api.Pair{{Key: 3, Value: 5}, {Key: 1, Value: 6}, {Key: 3, Value: 7}, {Key: 2}}, []api.Pair{{Key: 1, Value: 18}, {Key: 2, Value: -1}, {Key: 3, Value: 229}})
	// One that counts how often it is done.
	g.Fold, g.Finish = []api.Op{set(2, 1), op(api.OpAdd, 0, 0, 2)}, nil
	for n := 1; n <= 64; n++ {
		in := slices.Repeat([]api.Pair{{Key: -4, Value: 100}}, n)
		tells(t, "a fold that counts", g, fits(n, 1), in, []api.Pair{{Key: -4, Value: int64(99 + n)}})
	}
	for _, v := range []int64{math.MinInt64, -1, 0, 1, math.MaxInt64} {
		tells(t, "one value, multiplied", api.Program{K: 1, Map: plain(1), Fold: product()}, fits(1, 1), []api.Pair{{Key: v, Value: v}}, []api.Pair{{Key: v, Value: v}})
		tells(t, "one value, as it is", api.Program{K: 1, Map: plain(1)}, fits(1, 1), []api.Pair{{Key: v, Value: v}}, []api.Pair{{Key: v, Value: v}})
	}
}

// TestFinishOnce: once to each key's value, behind all its folds, with its key.
func TestFinishOnce(t *testing.T) {
	// The value times 1000, and the key.
	finish := []api.Op{set(2, 1000), op(api.OpMul, 0, 0, 2), op(api.OpAdd, 0, 0, 1)}
	in := []api.Pair{{Key: 8, Value: 1}, {Key: 9, Value: 2}, {Key: 8, Value: 3}, {Key: 7, Value: 4}, {Key: 8, Value: 5}}
	tells(t, "a finish with the key", api.Program{K: 1, Map: plain(1), Fold: sum(), Finish: finish}, fits(5, 1), in, []api.Pair{{Key: 7, Value: 4007}, {Key: 8, Value: 9008}, {Key: 9, Value: 2009}})
	// The key alone: what is told as the key is not what the finish leaves.
	tells(t, "a finish that tells the key", api.Program{K: 1, Map: plain(1), Fold: sum(), Finish: []api.Op{op(api.OpOr, 0, 1, 1)}}, fits(5, 1), in, []api.Pair{{Key: 7, Value: 7}, {Key: 8, Value: 8}, {Key: 9, Value: 9}})
	tells(t, "a finish that turns its register 1", api.Program{K: 1, Map: plain(1), Fold: sum(), Finish: []api.Op{set(1, 5)}}, fits(5, 1), in, []api.Pair{{Key: 7, Value: 4}, {Key: 8, Value: 9}, {Key: 9, Value: 2}})
}

// TestWrap: numbers are modulo 2^64 in folds.
func TestWrap(t *testing.T) {
	in := []api.Pair{{Key: 1, Value: math.MaxInt64}, {Key: 2, Value: math.MinInt64}, {Key: 1, Value: 1}, {Key: 2, Value: -1}, {Key: 3, Value: 1 << 62}, {Key: 3, Value: 6}}
	tells(t, "sums", sums(1), fits(6, 1), in, []api.Pair{{Key: 1, Value: math.MinInt64}, {Key: 2, Value: math.MaxInt64}, {Key: 3, Value: 1<<62 + 6}})
	tells(t, "products", api.Program{K: 1, Map: plain(1), Fold: product()}, fits(6, 1), in, []api.Pair{{Key: 1, Value: math.MaxInt64}, {Key: 2, Value: math.MinInt64}, {Key: 3, Value: math.MinInt64}})
	tells(t, "differences", api.Program{K: 1, Map: plain(1), Fold: []api.Op{op(api.OpSub, 0, 0, 1)}}, fits(6, 1), in, []api.Pair{{Key: 1, Value: math.MaxInt64 - 1}, {Key: 2, Value: math.MinInt64 + 1}, {Key: 3, Value: 1<<62 - 6}})
}

// TestBlocksAndWorkers: how a job is laid out does not turn what it is to tell.
func TestBlocksAndWorkers(t *testing.T) {
	in := make([]api.Pair, 7)
	for i := range in {
		in[i] = api.Pair{Key: int64(i * 5 % 3), Value: int64(i)}
	}
	for k := 1; k <= api.MaxK; k++ {
		for _, j := range jobs(k) {
			want := wantRun(j, in)
			for block := 1; block <= api.MaxBlock; block++ {
				for workers := 1; workers <= api.MaxWorkers; workers++ {
					tells(t, j.name, j.g, api.Params{Records: 7, K: k, Block: block, Workers: workers}, in, want)
				}
			}
		}
	}
}

// anyOp is an operation of chance that may stand in a part of so many slots.
func anyOp(chance *rand.Rand, slots int) api.Op {
	o := api.Op{Code: 1 + chance.IntN(11), D: chance.IntN(8), A: chance.IntN(8), B: chance.IntN(8), C: chance.IntN(8), N: chance.Int64N(7) - 3}
	if slots > 0 && chance.IntN(3) == 0 {
		o.Code, o.N = api.OpEmit, chance.Int64N(int64(slots))
	}
	return o
}

// anyPart is a part of chance of up to 40 operations.
func anyPart(chance *rand.Rand, slots int) []api.Op {
	l := make([]api.Op, chance.IntN(41))
	for i := range l {
		l[i] = anyOp(chance, slots)
	}
	return l
}

// TestChance: programs, params and pairs of chance, always the same.
func TestChance(t *testing.T) {
	chance := rand.New(rand.NewPCG(12, 3))
	for range 4000 {
		k := 1 + chance.IntN(4)
		g := api.Program{K: k, Map: anyPart(chance, k), Fold: anyPart(chance, 0), Finish: anyPart(chance, 0)}
		in := make([]api.Pair, 1+chance.IntN(most(k)))
		for i := range in {
			in[i] = api.Pair{Key: chance.Int64N(9) - 4, Value: int64(chance.Uint64()) >> chance.IntN(64)}
		}
		does(t, vmJob("chance", g), in)
	}
}

// TestWhatFollows: keys rise, and there are at most Records times K.
func TestWhatFollows(t *testing.T) {
	chance := rand.New(rand.NewPCG(12, 4))
	for range 2000 {
		k := 1 + chance.IntN(4)
		g := api.Program{K: k, Map: anyPart(chance, k), Fold: anyPart(chance, 0), Finish: anyPart(chance, 0)}
		in := make([]api.Pair, 1+chance.IntN(most(k)))
		for i := range in {
			in[i] = api.Pair{Key: int64(chance.Uint64()), Value: int64(chance.Uint64())}
		}
		l, e := Run(g, fits(len(in), k), in)
		if e != api.OK || len(l) > k*len(in) {
			t.Errorf("P12.1, what follows: %d pairs of %d times %d, error %d", len(l), len(in), k, e)
		}
		for i := range l {
			if i > 0 && l[i-1].Key >= l[i].Key {
				t.Errorf("P12.1, what follows: the key %d stands ahead of %d", l[i-1].Key, l[i].Key)
			}
		}
	}
}

// withRoom is l as the front part of a longer list, all of which is told, too.
func withRoom[E any](l []E, behind E) (front, all []E) {
	all = append(slices.Clone(l), slices.Repeat([]E{behind}, 9)...)
	return all[:len(l)], all
}

// TestHandedIn: what is handed in, with the room behind its ends, stays as it
// was, and is not kept (R3).
func TestHandedIn(t *testing.T) {
	for k := 1; k <= api.MaxK; k++ {
		for _, j := range jobs(k) {
			mapped, allMapped := withRoom(j.g.Map, emit(0, 7, 7, 7))
			folds, allFolds := withRoom(j.g.Fold, set(0, 99))
			ends, allEnds := withRoom(j.g.Finish, set(0, 98))
			in := make([]api.Pair, 20)
			for i := range in {
				in[i] = api.Pair{Key: int64(i % 4), Value: int64(i)}
			}
			pairs, allPairs := withRoom(in, api.Pair{Key: 1, Value: 5555})
			before := fmt.Sprint(allMapped, allFolds, allEnds, allPairs)
			g := api.Program{K: k, Map: mapped, Fold: folds, Finish: ends}
			want := wantRun(j, in)
			l, e := Run(g, fits(20, k), pairs)
			Run(g, fits(20, k%4+1), pairs)
			Run(g, fits(21, k), allPairs[:21])
			if fmt.Sprint(allMapped, allFolds, allEnds, allPairs) != before {
				t.Errorf("R3: %s: what was handed in was changed", j.name)
			}
			clear(allMapped)
			clear(allFolds)
			clear(allEnds)
			clear(allPairs)
			if e != api.OK || !slices.Equal(l, want) {
				t.Errorf("R3: %s: what was told hangs on what was handed in: %v, error %d, not %v", j.name, l, e, want)
			}
			tells(t, j.name+", once more", j.g, fits(20, k), in, want)
		}
	}
}

// TestHandedOut: who writes into what was told, or behind its end, changes
// nothing else (R3).
func TestHandedOut(t *testing.T) {
	in := []api.Pair{{Key: 5, Value: 1}, {Key: -2, Value: 10}, {Key: 4, Value: 100}}
	was := slices.Clone(in)
	g := sums(1)
	first, _ := Run(g, fits(3, 1), in)
	second, _ := Run(g, fits(3, 1), in)
	want := slices.Clone(first)
	clear(first[:cap(first)])
	if !slices.Equal(second, want) || !slices.Equal(in, was) {
		t.Errorf("R3: what is told shares memory: %v, %v", second, in)
	}
	tells(t, "the same once more", g, fits(3, 1), in, want)
	// And where what is told is just what was handed in.
	alike := []api.Pair{{Key: 1, Value: 2}, {Key: 3, Value: 4}}
	told, _ := Run(g, fits(2, 1), alike)
	clear(told[:cap(told)])
	if !slices.Equal(alike, []api.Pair{{Key: 1, Value: 2}, {Key: 3, Value: 4}}) {
		t.Errorf("R3: what is told is what was handed in: %v", alike)
	}
}

// TestAgain: the same is told again, whatever was asked ahead, and by many at
// once (R2).
func TestAgain(t *testing.T) {
	in := make([]api.Pair, 40)
	for i := range in {
		in[i] = api.Pair{Key: int64(i * 7 % 11), Value: int64(i * i)}
	}
	var all sync.WaitGroup
	for k := 1; k <= api.MaxK; k++ {
		for _, j := range jobs(k) {
			want := wantRun(j, in)
			for range 2 {
				all.Go(func() {
					Run(api.Program{}, fits(40, k), in)
					Right(api.Params{})
					for range 5 {
						tells(t, j.name, j.g, fits(40, k), in, want)
					}
				})
			}
		}
	}
	all.Wait()
}

// TestLeft: the records that are ranged over may be left at each of them, and be
// ranged over again (R1).
func TestLeft(t *testing.T) {
	g := api.Program{K: 3, Map: marked(3)}
	records := living(g, []api.Pair{{Key: 1, Value: 7}, {Key: 2, Value: 0}, {Key: 3, Value: 5}, {Key: 4, Value: 2}})
	want := []api.Record{{Key: 1, Value: 0, Seq: 0}, {Key: 1, Value: 1, Seq: 1}, {Key: 1, Value: 2, Seq: 2}, {Key: 3, Value: 8, Seq: 6}, {Key: 3, Value: 10, Seq: 8}, {Key: 4, Value: 13, Seq: 10}}
	for most := 1; most <= len(want); most++ {
		var got []api.Record
		for r := range records {
			if got = append(got, r); len(got) == most {
				break
			}
		}
		if !slices.Equal(got, want[:most]) {
			t.Errorf("P12.1: the first %d records: %+v", most, got)
		}
	}
	if got := slices.Collect(records); !slices.Equal(got, want) {
		t.Errorf("P12.1: all records: %+v", got)
	}
}
