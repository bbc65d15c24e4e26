package vm

import (
	"fmt"
	"math"
	"math/big"
	"math/rand/v2"
	"slices"
	"sync"
	"testing"

	"domino/api"
)

// edges are numbers of all kinds: about 0, about the ends of their kind, about
// the sizes of a shift.
func edges() []int64 {
	return []int64{
		math.MinInt64, math.MinInt64 + 1, -1 << 62, -1 << 32, -1<<32 - 1, -65, -64, -63, -9, -2, -1, 0,
		1, 2, 3, 31, 32, 62, 63, 64, 65, 127, 128, 255, 256, 1<<31 - 1, 1 << 31, 1<<32 - 1, 1 << 32, 0x0123456789abcdef, 1<<62 + 1, math.MaxInt64 - 1, math.MaxInt64,
	}
}

// far are numbers that are none of a register, of a code, of a K, nor of a slot.
func far() []int {
	return []int{-1, -2, -8, -256, math.MinInt, math.MinInt + 1, -1 << 32, 13, 14, 16, 64, 255, 256, 257, 1 << 16, 1<<16 + 1, 1 << 31, 1 << 32, 1<<32 + 1, 1<<33 + 12, math.MaxInt - 1, math.MaxInt}
}

// codes are all that an operation may have but OpEmit.
func codes() []int {
	return []int{api.OpSet, api.OpAdd, api.OpSub, api.OpMul, api.OpAnd, api.OpOr, api.OpXor, api.OpLess, api.OpSame, api.OpPick, api.OpShift}
}

// set is the operation that lays n into the register d.
func set(d int, n int64) api.Op { return api.Op{Code: api.OpSet, D: d, N: n} }

// emit is the operation that lays the registers a and b into the slot n, alive if
// the register c is not 0.
func emit(n int64, a, b, c int) api.Op { return api.Op{Code: api.OpEmit, A: a, B: b, C: c, N: n} }

// adds are n operations that add 1, the register 7 being 1, to the register 0.
func adds(n int) []api.Op {
	return slices.Repeat([]api.Op{{Code: api.OpAdd, A: 0, B: 7}}, n)
}

// parts are what a program's three parts are called, in order.
func parts() []string { return []string{"Map", "Fold", "Finish"} }

// in is a program of that K that has those operations in that part, and in the
// others one that may be.
func in(part string, k int, l []api.Op) api.Program {
	ok := []api.Op{{Code: api.OpXor, D: 1, A: 2, B: 3, C: 4}}
	p := api.Program{K: k, Map: ok, Fold: ok, Finish: ok}
	switch part {
	case "Map":
		p.Map = l
	case "Fold":
		p.Fold = l
	case "Finish":
		p.Finish = l
	}
	return p
}

// lets tells where a program is not one that may be.
func lets(t *testing.T, p api.Program, what string) {
	t.Helper()
	if e := Check(p); e != api.OK {
		t.Errorf("P11.1: Check, %s: error %d, of a program that may be", what, e)
	}
	if l := Map(p, 1, api.Pair{Key: 2, Value: 3}); len(l) != p.K {
		t.Errorf("P11.2: Map, %s: %+v, of a program that may be", what, l)
	}
}

// refuses tells where a program is one that may be, or where something is told of
// it.
func refuses(t *testing.T, p api.Program, what string) {
	t.Helper()
	if e := Check(p); e != api.ErrProgram {
		t.Errorf("P11.1: Check, %s: error %d, not %d", what, e, api.ErrProgram)
	}
	for _, n := range []int64{0, 1, -1, 7} {
		if l := Map(p, n, api.Pair{Key: 5, Value: 6}); len(l) != 0 {
			t.Errorf("P11.2: Map, %s: %+v", what, l)
		}
		if got := Fold(p, 5, n); got != 0 {
			t.Errorf("P11.2: Fold, %s: %d", what, got)
		}
		if got := Finish(p, n, 5); got != 0 {
			t.Errorf("P11.2: Finish, %s: %d", what, got)
		}
	}
	if got := Steps(p); got != len(p.Map)+len(p.Fold)+len(p.Finish) {
		t.Errorf("P11.1: Steps, %s: %d", what, got)
	}
}

// TestExample: the chapter's example.
func TestExample(t *testing.T) {
	p := api.Program{K: 1, Fold: []api.Op{{Code: api.OpAdd, D: 0, A: 0, B: 1}}}
	for _, a := range edges() {
		for _, v := range edges() {
			if got := Fold(p, a, v); got != a+v {
				t.Errorf("P11.2: the chapter's example: Fold of %d and %d: %d", a, v, got)
			}
		}
	}
}

// TestK: K below 1, all that may be, and above.
func TestK(t *testing.T) {
	for k := 1; k <= api.MaxK; k++ {
		lets(t, api.Program{K: k}, fmt.Sprintf("K %d", k))
		lets(t, in("", k, nil), fmt.Sprintf("K %d, with operations", k))
	}
	for _, k := range append(far(), 0, api.MaxK+1, api.MaxK+2) {
		refuses(t, api.Program{K: k}, fmt.Sprintf("K %d", k))
		refuses(t, in("", k, nil), fmt.Sprintf("K %d, with operations", k))
	}
	refuses(t, api.Program{}, "the zero value")
}

// TestLengths: parts of no operation, of all numbers of them that may be, and of
// more.
func TestLengths(t *testing.T) {
	for n := range api.MaxOps + 1 {
		for _, part := range parts() {
			lets(t, in(part, 1, adds(n)), fmt.Sprintf("%s of %d operations", part, n))
		}
		p := api.Program{K: 1, Map: adds(n), Fold: adds(n), Finish: adds(n)}
		lets(t, p, fmt.Sprintf("all parts of %d operations", n))
		if got := Steps(p); got != 3*n {
			t.Errorf("P11.1: Steps of three times %d: %d", n, got)
		}
	}
	for _, n := range []int{api.MaxOps + 1, api.MaxOps + 2, 2 * api.MaxOps, 255, 256, 257, 256 + api.MaxOps, 1000, 1 << 16} {
		for _, part := range parts() {
			refuses(t, in(part, 1, adds(n)), fmt.Sprintf("%s of %d operations", part, n))
		}
		refuses(t, api.Program{K: 1, Map: adds(n), Fold: adds(n), Finish: adds(n)}, fmt.Sprintf("all parts of %d operations", n))
	}
}

// TestSteps: of parts of unlike lengths, whether they may be or not.
func TestSteps(t *testing.T) {
	for _, row := range [][3]int{{0, 0, 0}, {1, 0, 0}, {0, 1, 0}, {0, 0, 1}, {1, 2, 4}, {40, 40, 40}, {41, 0, 0}, {0, 41, 0}, {0, 0, 41}, {300, 20, 1}, {1, 1, 1000}} {
		want := row[0] + row[1] + row[2]
		for _, k := range []int{-1, 0, 1, 4, 5} {
			p := api.Program{K: k, Map: adds(row[0]), Fold: adds(row[1]), Finish: adds(row[2])}
			if got := Steps(p); got != want {
				t.Errorf("P11.1: Steps of %v, K %d: %d", row, k, got)
			}
			p = api.Program{K: k, Map: make([]api.Op, row[0]), Fold: make([]api.Op, row[1]), Finish: make([]api.Op, row[2])}
			if got := Steps(p); got != want {
				t.Errorf("P11.1: Steps of %v, K %d, of no codes: %d", row, k, got)
			}
		}
	}
}

// eachPlace calls try with a program for each part, and for each place in it that
// op may stand at: alone, the first of some, in the middle, the last of as many
// as may be.
func eachPlace(k int, op api.Op, try func(part, what string, p api.Program)) {
	for _, part := range parts() {
		for _, row := range []struct{ before, behind int }{{0, 0}, {0, 1}, {1, 0}, {0, 39}, {20, 19}, {38, 1}, {39, 0}} {
			l := slices.Concat(adds(row.before), []api.Op{op}, adds(row.behind))
			try(part, fmt.Sprintf("%s: %+v behind %d, ahead of %d, K %d", part, op, row.before, row.behind, k), in(part, k, l))
		}
	}
}

// TestCodes: codes that may be and that may not.
func TestCodes(t *testing.T) {
	for _, code := range codes() {
		eachPlace(1, api.Op{Code: code}, func(_, what string, p api.Program) { lets(t, p, what) })
		eachPlace(4, api.Op{Code: code, D: 7, A: 6, B: 5, C: 4, N: -3}, func(_, what string, p api.Program) { lets(t, p, what) })
	}
	for _, code := range append(far(), 0) {
		eachPlace(1, api.Op{Code: code}, func(_, what string, p api.Program) { refuses(t, p, what) })
	}
}

// TestRegisters: each of the four by itself, in operations that make use of it
// and in such that do not.
func TestRegisters(t *testing.T) {
	fields := map[string]func(*api.Op) *int{
		"D": func(op *api.Op) *int { return &op.D },
		"A": func(op *api.Op) *int { return &op.A },
		"B": func(op *api.Op) *int { return &op.B },
		"C": func(op *api.Op) *int { return &op.C },
	}
	for name, field := range fields {
		for _, code := range append(codes(), api.OpEmit) {
			for r := range api.Registers {
				op := api.Op{Code: code}
				*field(&op) = r
				eachPlace(1, op, func(part, what string, p api.Program) {
					if code != api.OpEmit || part == "Map" {
						lets(t, p, name+" of "+what)
					}
				})
			}
			for _, r := range append(far(), api.Registers, api.Registers+1) {
				op := api.Op{Code: code}
				*field(&op) = r
				eachPlace(1, op, func(_, what string, p api.Program) { refuses(t, p, name+" of "+what) })
			}
		}
	}
}

// TestEmitSlots: which slots an OpEmit may name, and where it may stand.
func TestEmitSlots(t *testing.T) {
	for k := 1; k <= api.MaxK; k++ {
		for _, n := range []int64{-1, 0, 1, 2, 3, 4, 5, 12, 13, 255, 256, 1 << 31, 1 << 32, 1<<32 + 1, -1 << 32, -1<<32 + 1, math.MinInt64, math.MinInt64 + 1, math.MaxInt64, math.MaxInt64 - 1} {
			eachPlace(k, emit(n, 0, 1, 2), func(part, what string, p api.Program) {
				if part == "Map" && n >= 0 && n < int64(k) {
					lets(t, p, what)
				} else {
					refuses(t, p, what)
				}
			})
		}
	}
}

// TestAnyNumber: an N that only OpSet has use for may be any.
func TestAnyNumber(t *testing.T) {
	for _, code := range codes() {
		for _, n := range edges() {
			for _, part := range parts() {
				lets(t, in(part, 2, []api.Op{{Code: code, N: n}}), fmt.Sprintf("%s: N %d of the code %d", part, n, code))
			}
		}
	}
}

// wrapped is x modulo 2^64, as a signed number.
func wrapped(x *big.Int) int64 {
	whole := new(big.Int).Lsh(big.NewInt(1), 64)
	x = new(big.Int).Mod(x, whole)
	if x.Bit(63) == 1 {
		x.Sub(x, whole)
	}
	return x.Int64()
}

// bitwise is what f makes of each bit of a and b.
func bitwise(a, b int64, f func(x, y uint64) bool) int64 {
	n := uint64(0)
	for i := range 64 {
		if f(uint64(a)>>i&1, uint64(b)>>i&1) {
			n += 1 << i
		}
	}
	return int64(n)
}

// truth is 1 of what is true, else 0.
func truth(is bool) int64 {
	if is {
		return 1
	}
	return 0
}

// wantResult is what an operation tells of its registers, by big numbers and by
// bits.
func wantResult(op api.Op, a, b, c int64) int64 {
	x, y := big.NewInt(a), big.NewInt(b)
	switch op.Code {
	case api.OpSet:
		return op.N
	case api.OpAdd:
		return wrapped(new(big.Int).Add(x, y))
	case api.OpSub:
		return wrapped(new(big.Int).Sub(x, y))
	case api.OpMul:
		return wrapped(new(big.Int).Mul(x, y))
	case api.OpAnd:
		return bitwise(a, b, func(x, y uint64) bool { return x+y == 2 })
	case api.OpOr:
		return bitwise(a, b, func(x, y uint64) bool { return x+y >= 1 })
	case api.OpXor:
		return bitwise(a, b, func(x, y uint64) bool { return x+y == 1 })
	case api.OpLess:
		return truth(x.Cmp(y) < 0)
	case api.OpSame:
		return truth(x.Cmp(y) == 0)
	case api.OpPick:
		if x.Sign() != 0 {
			return b
		}
		return c
	case api.OpShift:
		// Floored division by a power of two is a shift that keeps the sign.
		by := new(big.Int).Mod(y, big.NewInt(64))
		return wrapped(new(big.Int).Div(x, new(big.Int).Lsh(big.NewInt(1), uint(by.Int64()))))
	}
	panic("no such code")
}

// wantRun is what a part makes of the registers, and what it emits, by slot.
func wantRun(part []api.Op, given ...int64) (registers [8]int64, emitted map[int64][3]int64) {
	copy(registers[:], given)
	emitted = map[int64][3]int64{}
	for _, op := range part {
		a, b, c := registers[op.A], registers[op.B], registers[op.C]
		if op.Code == api.OpEmit {
			emitted[op.N] = [3]int64{a, b, c}
		} else {
			registers[op.D] = wantResult(op, a, b, c)
		}
	}
	return registers, emitted
}

// wantMap are the records of a map, by what it emits.
func wantMap(p api.Program, n int64, in api.Pair) []api.Record {
	_, emitted := wantRun(p.Map, in.Key, in.Value, n)
	var l []api.Record
	for slot := range int64(p.K) {
		if e, ok := emitted[slot]; ok && e[2] != 0 {
			l = append(l, api.Record{Key: e[0], Value: e[1], Seq: n*int64(p.K) + slot})
		} else {
			l = append(l, api.Record{Dead: true})
		}
	}
	return l
}

// holds tells where a program does not tell what is wanted of in, the pair with
// the number n, and of its two numbers as values.
func holds(t *testing.T, p api.Program, n int64, in api.Pair) {
	t.Helper()
	if got, want := Map(p, n, in), wantMap(p, n, in); !slices.Equal(got, want) {
		t.Errorf("P11.2: Map of %d, %+v by %+v: %+v, not %+v", n, in, p.Map, got, want)
	}
	if got, want := Fold(p, in.Key, in.Value), firstOf(wantRun(p.Fold, in.Key, in.Value)); got != want {
		t.Errorf("P11.2: Fold of %d, %d by %+v: %d, not %d", in.Key, in.Value, p.Fold, got, want)
	}
	if got, want := Finish(p, in.Key, in.Value), firstOf(wantRun(p.Finish, in.Value, in.Key)); got != want {
		t.Errorf("P11.2: Finish of the key %d, %d by %+v: %d, not %d", in.Key, in.Value, p.Finish, got, want)
	}
}

// firstOf is the register 0.
func firstOf(registers [8]int64, _ map[int64][3]int64) int64 {
	return registers[0]
}

// done is what an operation leaves in the register 0 of a part, where it finds a,
// b and c in the registers that it names (the last of those that are alike
// counts); the part is each one by turns.
func done(part int, op api.Op, a, b, c int64) int64 {
	l := []api.Op{set(op.A, a), set(op.B, b), set(op.C, c), op, {Code: api.OpOr, D: 0, A: op.D, B: op.D}}
	switch part % 3 {
	case 0:
		return Fold(api.Program{K: 1, Fold: l}, 91, 92)
	case 1:
		return Finish(api.Program{K: 1, Finish: l}, 93, 94)
	}
	l = append(l, set(1, 1), emit(0, 0, 0, 1))
	return Map(api.Program{K: 1, Map: l}, 95, api.Pair{Key: 96, Value: 97})[0].Key
}

// TestOperations: each operation of all pairs of the edges, in each part.
func TestOperations(t *testing.T) {
	for i, a := range edges() {
		for j, b := range edges() {
			for _, code := range codes() {
				c := edges()[(i+7*j)%len(edges())]
				op := api.Op{Code: code, D: 3, A: 4, B: 5, C: 6, N: 17}
				if got, want := done(i+j, op, a, b, c), wantResult(op, a, b, c); got != want {
					t.Errorf("P11.2: the code %d of %d, %d, %d: %d, not %d", code, a, b, c, got, want)
				}
			}
		}
	}
}

// TestResults: rows written out one by one.
func TestResults(t *testing.T) {
	const least, most = math.MinInt64, math.MaxInt64
	for _, row := range []struct {
		code    int
		a, b, c int64
		want    int64
	}{
		{api.OpAdd, 2, 3, 9, 5}, {api.OpAdd, -2, -3, 9, -5}, {api.OpAdd, most, 1, 9, least}, {api.OpAdd, least, -1, 9, most}, {api.OpAdd, most, most, 9, -2}, {api.OpAdd, least, least, 9, 0},
		{api.OpSub, 2, 3, 9, -1}, {api.OpSub, 3, 2, 9, 1}, {api.OpSub, 0, least, 9, least}, {api.OpSub, least, 1, 9, most}, {api.OpSub, most, -1, 9, least}, {api.OpSub, -1, most, 9, least},
		{api.OpMul, -3, 5, 9, -15}, {api.OpMul, least, -1, 9, least}, {api.OpMul, most, 2, 9, -2}, {api.OpMul, most, most, 9, 1}, {api.OpMul, least, least, 9, 0}, {api.OpMul, 1 << 32, 1 << 31, 9, least}, {api.OpMul, 1<<32 + 1, 1<<32 + 1, 9, 1<<33 + 1},
		{api.OpAnd, 12, 10, 9, 8}, {api.OpAnd, -1, 7, 9, 7}, {api.OpAnd, least, most, 9, 0},
		{api.OpOr, 12, 10, 9, 14}, {api.OpOr, least, most, 9, -1},
		{api.OpXor, 12, 10, 9, 6}, {api.OpXor, -1, most, 9, least}, {api.OpXor, 5, 5, 9, 0},
		{api.OpLess, -1, 0, 9, 1}, {api.OpLess, 0, -1, 9, 0}, {api.OpLess, least, most, 9, 1}, {api.OpLess, most, least, 9, 0}, {api.OpLess, 4, 4, 9, 0}, {api.OpLess, least, least, 9, 0}, {api.OpLess, least, least + 1, 9, 1},
		{api.OpSame, 4, 4, 9, 1}, {api.OpSame, 0, 0, 9, 1}, {api.OpSame, 4, -4, 9, 0}, {api.OpSame, 0, least, 9, 0}, {api.OpSame, least, least, 9, 1}, {api.OpSame, 1, 1<<32 + 1, 9, 0},
		{api.OpPick, 0, 7, 8, 8}, {api.OpPick, 1, 7, 8, 7}, {api.OpPick, 2, 7, 8, 7}, {api.OpPick, -1, 7, 8, 7}, {api.OpPick, -2, 7, 8, 7}, {api.OpPick, least, 7, 8, 7}, {api.OpPick, 1 << 32, 7, 8, 7}, {api.OpPick, 0, least, most, most}, {api.OpPick, 1, least, most, least},
		{api.OpShift, -16, 2, 9, -4}, {api.OpShift, 16, 2, 9, 4}, {api.OpShift, -1, 5, 9, -1}, {api.OpShift, -5, 1, 9, -3}, {api.OpShift, 5, 0, 9, 5}, {api.OpShift, 5, 1, 9, 2},
		{api.OpShift, 5, 63, 9, 0}, {api.OpShift, -5, 63, 9, -1}, {api.OpShift, 5, 64, 9, 5}, {api.OpShift, -5, 64, 9, -5}, {api.OpShift, 5, 65, 9, 2}, {api.OpShift, least, -1, 9, -1}, {api.OpShift, most, -1, 9, 0}, {api.OpShift, most, -2, 9, 1}, {api.OpShift, 5, -64, 9, 5}, {api.OpShift, 5, least, 9, 5}, {api.OpShift, 5, 1 << 32, 9, 5},
	} {
		for part := range 3 {
			for _, n := range []int64{0, 1, -1, most} {
				op := api.Op{Code: row.code, D: 2, A: 3, B: 6, C: 7, N: n}
				if got := done(part, op, row.a, row.b, row.c); got != row.want {
					t.Errorf("P11.2: the code %d of %d, %d, %d: %d, not %d", row.code, row.a, row.b, row.c, got, row.want)
				}
			}
		}
	}
}

// TestSet: N and nothing else is what OpSet lays there.
func TestSet(t *testing.T) {
	for i, n := range edges() {
		for _, a := range []int64{0, 1, -1, n} {
			if got := done(i, api.Op{Code: api.OpSet, D: 5, A: 1, B: 2, C: 3, N: n}, a, 8, 9); got != n {
				t.Errorf("P11.2: OpSet of %d: %d", n, got)
			}
		}
	}
}

// TestNoPart: what an operation has no use for plays no part: N of all but OpSet
// and OpEmit, C of all but OpPick and OpEmit, A and B of OpSet, D of OpEmit.
func TestNoPart(t *testing.T) {
	numbers := map[int][]int64{0: {10, 20, 30, 40, 50, 60, 70, 80}, 1: {-10, 20, 0, 1, -50, 0, 70, -80}}
	for _, given := range numbers {
		var ahead []api.Op
		for r, n := range given {
			ahead = append(ahead, set(r, n))
		}
		fold := func(op api.Op) int64 { return Fold(api.Program{K: 1, Fold: append(slices.Clone(ahead), op)}, 1, 2) }
		for _, code := range codes() {
			op := api.Op{Code: code, A: 1, B: 6, C: 3, N: 5}
			want := fold(op)
			for _, n := range edges() {
				if op.N = n; code != api.OpSet && fold(op) != want {
					t.Errorf("P11.2: N %d plays a part in the code %d", n, code)
				}
			}
			for r := range api.Registers {
				op := api.Op{Code: code, A: 1, B: 6, C: r, N: 5}
				if code != api.OpPick && fold(op) != want {
					t.Errorf("P11.2: C %d plays a part in the code %d", r, code)
				}
				if code == api.OpSet && fold(api.Op{Code: code, A: r, B: 7 - r, N: 5}) != want {
					t.Errorf("P11.2: A %d, B %d play a part in OpSet", r, 7-r)
				}
			}
		}
		for d := range api.Registers {
			for r := range api.Registers {
				op := emit(0, 1, 6, 0)
				op.D = d
				l := Map(api.Program{K: 2, Map: append(slices.Clone(ahead), op, emit(1, r, r, 0))}, 0, api.Pair{})
				if want := []api.Record{{Key: given[1], Value: given[6]}, {Key: given[r], Value: given[r], Seq: 1}}; !slices.Equal(l, want) {
					t.Errorf("P11.2: an OpEmit with D %d: %+v, not %+v", d, l, want)
				}
			}
		}
	}
}

// TestAllRegisters: each operation with all registers that it may name, D being
// one of A, B and C, too; all registers behind it are looked at.
func TestAllRegisters(t *testing.T) {
	var ahead, behind []api.Op
	for r := range api.Registers {
		ahead = append(ahead, set(r, int64(r*r*r*977-4000)))
	}
	// So that the register 0 tells of all of them.
	for r := range api.Registers {
		behind = append(behind, api.Op{Code: api.OpMul, D: r, A: r, B: r}, api.Op{Code: api.OpSub, D: 0, A: 0, B: r}, api.Op{Code: api.OpMul, D: 0, A: 0, B: 7})
	}
	for _, code := range codes() {
		for n := range 8 * 8 * 8 * 8 {
			op := api.Op{Code: code, D: n % 8, A: n / 8 % 8, B: n / 64 % 8, C: n / 512, N: 4321}
			l := slices.Concat(ahead, []api.Op{op}, behind)
			want, _ := wantRun(l)
			if got := Fold(api.Program{K: 1, Fold: l}, 3, 4); got != want[0] {
				t.Errorf("P11.2: %+v: %d, not %d", op, got, want[0])
			}
			// And what stands in its register alone.
			direct, _ := wantRun(append(slices.Clone(ahead), op))
			l = append(slices.Clone(ahead), op, api.Op{Code: api.OpOr, D: 0, A: op.D, B: op.D})
			if got := Fold(api.Program{K: 1, Fold: l}, 3, 4); got != direct[op.D] {
				t.Errorf("P11.2: %+v leaves %d, not %d", op, got, direct[op.D])
			}
		}
	}
}

// TestFirst: what the registers are at first.
func TestFirst(t *testing.T) {
	rows := []struct {
		part string
		want [8]int64
		tell func(r int) int64
	}{
		{"Map", [8]int64{-11, 12, 13}, func(r int) int64 {
			return Map(api.Program{K: 1, Map: []api.Op{emit(0, r, 0, 0)}}, 13, api.Pair{Key: -11, Value: 12})[0].Key
		}},
		{"Map, as the value", [8]int64{-11, 12, 13}, func(r int) int64 {
			return Map(api.Program{K: 1, Map: []api.Op{emit(0, 0, r, 1)}}, 13, api.Pair{Key: -11, Value: 12})[0].Value
		}},
		{"Fold", [8]int64{21, -22}, func(r int) int64 {
			return Fold(api.Program{K: 1, Fold: []api.Op{{Code: api.OpOr, A: r, B: r}}}, 21, -22)
		}},
		{"Finish", [8]int64{32, 31}, func(r int) int64 {
			return Finish(api.Program{K: 1, Finish: []api.Op{{Code: api.OpOr, A: r, B: r}}}, 31, 32)
		}},
	}
	for _, row := range rows {
		for r, want := range row.want {
			if got := row.tell(r); got != want {
				t.Errorf("P11.2: %s: the register %d is %d at first, not %d", row.part, r, got, want)
			}
		}
	}
	// Of a program that has no operation the register 0 is as it was.
	for _, a := range edges() {
		for _, b := range edges() {
			if got := Fold(api.Program{K: 3}, a, b); got != a {
				t.Errorf("P11.2: Fold of %d, %d by nothing: %d", a, b, got)
			}
			if got := Finish(api.Program{K: 3}, a, b); got != b {
				t.Errorf("P11.2: Finish of the key %d, %d by nothing: %d", a, b, got)
			}
		}
	}
}

// TestPartsApart: each call does its own part alone.
func TestPartsApart(t *testing.T) {
	p := api.Program{
		K:      1,
		Map:    []api.Op{set(0, 100), emit(0, 0, 1, 0)},
		Fold:   []api.Op{set(0, 200)},
		Finish: []api.Op{set(0, 300)},
	}
	if l := Map(p, 4, api.Pair{Key: 1, Value: 2}); !slices.Equal(l, []api.Record{{Key: 100, Value: 2, Seq: 4}}) {
		t.Errorf("P11.2: Map: %+v", l)
	}
	if a, b := Fold(p, 1, 2), Finish(p, 1, 2); a != 200 || b != 300 {
		t.Errorf("P11.2: Fold: %d, Finish: %d", a, b)
	}
	p.Fold, p.Finish = nil, nil
	if a, b := Fold(p, 1, 2), Finish(p, 1, 2); a != 1 || b != 2 {
		t.Errorf("P11.2: Fold of nothing: %d, Finish: %d", a, b)
	}
	p.Map = nil
	if l := Map(p, 4, api.Pair{Key: 1, Value: 2}); !slices.Equal(l, []api.Record{{Dead: true}}) {
		t.Errorf("P11.2: Map of nothing: %+v", l)
	}
}

// TestSlots: for each K and slot: not emitted to, emitted to once, and more than
// once, alive or not.
func TestSlots(t *testing.T) {
	pair := api.Pair{Key: -7, Value: 8}
	alive := func(slot int64, n int64, k int) api.Record {
		return api.Record{Key: -7, Value: 8, Seq: n*int64(k) + slot}
	}
	turned := func(slot int64, n int64, k int) api.Record {
		return api.Record{Key: 8, Value: -7, Seq: n*int64(k) + slot}
	}
	for k := 1; k <= api.MaxK; k++ {
		for slot := range int64(k) {
			for _, n := range []int64{0, 1, 2, 5, 63, 64, -1, -3, 1 << 32, 1 << 60} {
				dead := api.Record{Dead: true}
				// The register 6 is 0, the register 0 is not.
				for i, row := range []struct {
					l    []api.Op
					want api.Record
				}{
					{nil, dead},
					{[]api.Op{emit(slot, 0, 1, 0)}, alive(slot, n, k)},
					{[]api.Op{emit(slot, 0, 1, 6)}, dead},
					{[]api.Op{emit(slot, 0, 1, 0), emit(slot, 1, 0, 1)}, turned(slot, n, k)},
					{[]api.Op{emit(slot, 0, 1, 0), emit(slot, 1, 0, 6)}, dead},
					{[]api.Op{emit(slot, 0, 1, 6), emit(slot, 1, 0, 1)}, turned(slot, n, k)},
					{[]api.Op{emit(slot, 0, 1, 6), emit(slot, 1, 0, 6)}, dead},
					{[]api.Op{emit(slot, 0, 1, 0), emit(slot, 1, 0, 6), emit(slot, 1, 0, 1)}, turned(slot, n, k)},
					{[]api.Op{emit(slot, 0, 1, 0), set(0, 5), set(1, 6)}, alive(slot, n, k)},
					{[]api.Op{emit(slot, 0, 1, 0), set(0, 0)}, alive(slot, n, k)},
					{[]api.Op{emit(slot, 0, 1, 6), set(6, 1)}, dead},
					{[]api.Op{emit(slot, 6, 6, 0)}, api.Record{Seq: n*int64(k) + slot}},
					{[]api.Op{set(2, 1000), emit(slot, 0, 1, 0), set(2, 2000)}, alive(slot, n, k)},
				} {
					want := slices.Repeat([]api.Record{dead}, k)
					want[slot] = row.want
					if got := Map(api.Program{K: k, Map: row.l}, n, pair); !slices.Equal(got, want) {
						t.Errorf("P11.2: Map, K %d, the slot %d of %d, the row %d: %+v, not %+v", k, slot, n, i, got, want)
					}
				}
			}
		}
	}
}

// TestSlotsBeside: slots are emitted to in any order, and none turns another.
func TestSlotsBeside(t *testing.T) {
	p := api.Program{K: 4, Map: []api.Op{set(3, 1), emit(3, 0, 0, 3), emit(0, 1, 1, 3), emit(2, 2, 2, 3), emit(3, 1, 0, 3), emit(2, 0, 0, 7)}}
	want := []api.Record{{Key: 20, Value: 20, Seq: 20}, {Dead: true}, {Dead: true}, {Key: 20, Value: 10, Seq: 23}}
	if got := Map(p, 5, api.Pair{Key: 10, Value: 20}); !slices.Equal(got, want) {
		t.Errorf("P11.2: Map: %+v, not %+v", got, want)
	}
	p.Map = nil
	for slot := range int64(4) {
		p.Map = append(p.Map, set(4, 100+slot), emit(slot, 4, 2, 4))
	}
	want = nil
	for slot := range int64(4) {
		want = append(want, api.Record{Key: 100 + slot, Value: 9, Seq: 36 + slot})
	}
	if got := Map(p, 9, api.Pair{}); !slices.Equal(got, want) {
		t.Errorf("P11.2: Map: %+v, not %+v", got, want)
	}
}

// TestAlive: any C but 0 is alive, and what is dead says nothing.
func TestAlive(t *testing.T) {
	for _, c := range edges() {
		for _, n := range edges() {
			p := api.Program{K: 1, Map: []api.Op{set(5, c), emit(0, 0, 1, 5)}}
			want := api.Record{Key: n, Value: -1, Seq: 7}
			if c == 0 {
				want = api.Record{Dead: true}
			}
			if got := Map(p, 7, api.Pair{Key: n, Value: -1}); !slices.Equal(got, []api.Record{want}) {
				t.Errorf("P11.2: emitted with a C of %d: %+v, not %+v", c, got, want)
			}
		}
	}
}

// TestSeqKeeps: the number is part of Seq whatever becomes of the register 2.
func TestSeqKeeps(t *testing.T) {
	for k := 1; k <= api.MaxK; k++ {
		for n := range int64(api.MaxRecords) {
			var l []api.Op
			for slot := range int64(k) {
				l = append(l, set(2, -99), emit(slot, 2, 2, 2))
			}
			for slot, r := range Map(api.Program{K: k, Map: l}, n, api.Pair{}) {
				if want := n*int64(k) + int64(slot); r.Seq != want || r.Key != -99 {
					t.Errorf("P11.2: K %d, the slot %d of %d: %+v, not the Seq %d", k, slot, n, r, want)
				}
			}
		}
	}
}

// TestAnyNumbers: whatever numbers are handed in, something is told.
func TestAnyNumbers(t *testing.T) {
	p := api.Program{K: 4, Map: []api.Op{set(3, 1), emit(0, 0, 1, 3), emit(3, 1, 2, 3)}}
	for _, n := range edges() {
		for _, v := range edges() {
			l := Map(p, n, api.Pair{Key: v, Value: n})
			if len(l) != 4 || l[0].Dead || l[0].Key != v || l[0].Value != n || l[3].Value != n {
				t.Errorf("R1: Map of %d, %d: %+v", n, v, l)
			}
		}
	}
}

// someOps are n operations of chance, any that may be; emits among them, where
// there are slots.
func someOps(chance *rand.Rand, n, slots int) []api.Op {
	l := make([]api.Op, n)
	for i := range l {
		l[i] = api.Op{Code: 1 + chance.IntN(11), D: chance.IntN(8), A: chance.IntN(8), B: chance.IntN(8), C: chance.IntN(8), N: someNumber(chance)}
		if slots > 0 && chance.IntN(5) == 0 {
			l[i].Code, l[i].N = api.OpEmit, int64(chance.IntN(slots))
		}
	}
	return l
}

// someNumber is one of chance: an edge, a small one, or any.
func someNumber(chance *rand.Rand) int64 {
	switch chance.IntN(3) {
	case 0:
		return edges()[chance.IntN(len(edges()))]
	case 1:
		return int64(chance.IntN(9)) - 4
	}
	return int64(chance.Uint64()) >> chance.IntN(64)
}

// someProgram is one of chance that may be.
func someProgram(chance *rand.Rand) api.Program {
	k := 1 + chance.IntN(4)
	return api.Program{
		K:      k,
		Map:    someOps(chance, chance.IntN(41), k),
		Fold:   someOps(chance, chance.IntN(41), 0),
		Finish: someOps(chance, chance.IntN(41), 0),
	}
}

// TestPrograms: programs of chance, against what their operations tell one by
// one; and the same again.
func TestPrograms(t *testing.T) {
	chance := rand.New(rand.NewPCG(11, 1))
	for range 3000 {
		p := someProgram(chance)
		lets(t, p, "of chance")
		for range 4 {
			n, in := int64(chance.IntN(64)), api.Pair{Key: someNumber(chance), Value: someNumber(chance)}
			holds(t, p, n, in)
			holds(t, p, n, in)
		}
	}
}

// TestPrefixes: an operation more turns nothing of what those ahead of it did:
// programs of chance, cut off anywhere.
func TestPrefixes(t *testing.T) {
	chance := rand.New(rand.NewPCG(11, 2))
	for range 60 {
		p := someProgram(chance)
		for n := range api.MaxOps + 1 {
			cut := api.Program{K: p.K, Map: p.Map[:min(n, len(p.Map))], Fold: p.Fold[:min(n, len(p.Fold))], Finish: p.Finish[:min(n, len(p.Finish))]}
			holds(t, cut, 3, api.Pair{Key: 12, Value: -34})
		}
	}
}

// TestOneFault: a program of chance in which one number alone may not be.
func TestOneFault(t *testing.T) {
	chance := rand.New(rand.NewPCG(11, 3))
	for i := range 2000 {
		p := someProgram(chance)
		l := []*[]api.Op{&p.Map, &p.Fold, &p.Finish}[i%3]
		if len(*l) == 0 {
			continue
		}
		op := &(*l)[chance.IntN(len(*l))]
		fields := []*int{&op.Code, &op.D, &op.A, &op.B, &op.C}
		*fields[chance.IntN(len(fields))] = far()[chance.IntN(len(far()))]
		refuses(t, p, "of chance, with one fault")
	}
}

// behind are the operations of a list with eight others in the room behind its
// end; and the whole of it.
func behind(l []api.Op) (short, whole []api.Op) {
	whole = slices.Concat(l, slices.Repeat([]api.Op{{Code: 99, D: 99, N: 99}}, 8))
	return whole[:len(l)], whole
}

// TestNotChanged: the program's lists, and the room behind their ends, are as they
// were, and what stands in that room counts for nothing.
func TestNotChanged(t *testing.T) {
	chance := rand.New(rand.NewPCG(11, 4))
	for range 300 {
		p := someProgram(chance)
		var q api.Program
		var all [3][]api.Op
		q.K = p.K
		q.Map, all[0] = behind(p.Map)
		q.Fold, all[1] = behind(p.Fold)
		q.Finish, all[2] = behind(p.Finish)
		kept := [3][]api.Op{slices.Clone(all[0]), slices.Clone(all[1]), slices.Clone(all[2])}
		if Check(q) != api.OK || Steps(q) != Steps(p) {
			t.Errorf("R3: what is behind counts: error %d, %d steps", Check(q), Steps(q))
		}
		holds(t, q, 6, api.Pair{Key: 7, Value: 8})
		q.K = 0
		refuses(t, q, "K 0")
		for i := range all {
			if !slices.Equal(all[i], kept[i]) {
				t.Errorf("R3: %s is changed, or what is behind", parts()[i])
			}
		}
	}
}

// TestNotKept: an answer stays, whatever is done to what was handed in, and to
// other answers with the room behind their ends.
func TestNotKept(t *testing.T) {
	chance := rand.New(rand.NewPCG(11, 5))
	overwrite := func(l []api.Record) {
		for i := range l[:cap(l)] {
			l[:cap(l)][i] = api.Record{Key: -77}
		}
	}
	for range 300 {
		p, in := someProgram(chance), api.Pair{Key: 3, Value: -4}
		want := wantMap(p, 5, in)
		first, second := Map(p, 5, in), Map(p, 5, in)
		overwrite(second)
		if !slices.Equal(first, want) {
			t.Errorf("R3: Map's answers share memory: %+v, not %+v", first, want)
		}
		overwrite(first)
		holds(t, p, 5, in)
		third := Map(p, 5, in)
		clear(p.Map)
		if !slices.Equal(third, want) {
			t.Errorf("R3: Map keeps the program: %+v, not %+v", third, want)
		}
		refuses(t, api.Program{K: p.K, Map: append(p.Map, api.Op{})}, "cleared")
	}
}

// TestNilAndEmpty: nil and a part of no operation are the same.
func TestNilAndEmpty(t *testing.T) {
	none := []api.Op{}
	for _, k := range []int{-1, 0, 1, 2, 3, 4, 5} {
		a, b := api.Program{K: k}, api.Program{K: k, Map: none, Fold: none, Finish: none}
		if Check(a) != Check(b) || Steps(a) != 0 || Steps(b) != 0 {
			t.Errorf("R3: K %d: errors %d, %d; %d, %d steps", k, Check(a), Check(b), Steps(a), Steps(b))
		}
		in := api.Pair{Key: 8, Value: 9}
		if x, y := Map(a, 1, in), Map(b, 1, in); !slices.Equal(x, y) {
			t.Errorf("R3: Map of nil and of none, K %d: %+v, %+v", k, x, y)
		}
		if Fold(a, 8, 9) != Fold(b, 8, 9) || Finish(a, 8, 9) != Finish(b, 8, 9) {
			t.Errorf("R3: Fold or Finish of nil and of none, K %d", k)
		}
	}
}

// TestOperationsAgain: a part's operations may be ranged over again, and left
// anywhere.
func TestOperationsAgain(t *testing.T) {
	chance := rand.New(rand.NewPCG(11, 6))
	for _, n := range []int{0, 1, 2, 5} {
		part := someOps(chance, n, 0)
		all := operations(part)
		for _, stop := range []int{0, 1, 2, 3, 5, 6, 1, 0} {
			want := part
			if stop > 0 {
				want = part[:min(stop, n)]
			}
			var got []api.Op
			for op := range all {
				if got = append(got, op); len(got) == stop {
					break
				}
			}
			if !slices.Equal(got, want) {
				t.Errorf("R1: %d operations, left behind %d: %+v", n, stop, got)
			}
		}
	}
}

// TestSideBySide: calls know nothing of one another, even of one program.
func TestSideBySide(t *testing.T) {
	shared := someProgram(rand.New(rand.NewPCG(11, 7)))
	var wait sync.WaitGroup
	for first := range 8 {
		wait.Go(func() {
			chance := rand.New(rand.NewPCG(11, uint64(100+first)))
			for range 100 {
				n, in := int64(chance.IntN(64)), api.Pair{Key: someNumber(chance), Value: someNumber(chance)}
				holds(t, shared, n, in)
				holds(t, someProgram(chance), n, in)
			}
		})
	}
	wait.Wait()
}

func BenchmarkMap(b *testing.B) {
	p := in("Map", 4, slices.Repeat([]api.Op{emit(3, 0, 1, 2)}, api.MaxOps))
	for b.Loop() {
		Map(p, 5, api.Pair{Key: 1, Value: 2})
	}
}
