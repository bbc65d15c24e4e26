package ct

import (
	"bytes"
	"math"
	"math/rand/v2"
	"testing"
)

// edges are numbers at which a carry, a sign or a top bit turns.
func edges() []uint64 {
	const top = 1 << 63
	return []uint64{
		0, 1, 2, 3, 127, 128, 255, 256,
		math.MaxUint32 - 1, math.MaxUint32, math.MaxUint32 + 1,
		top - 2, top - 1, top, top + 1, top + math.MaxUint32,
		math.MaxUint64 - 1, math.MaxUint64,
	}
}

// pairs are all pairs of edges, and many others of all lengths; always the same.
func pairs() [][2]uint64 {
	var all [][2]uint64
	for _, a := range edges() {
		for _, b := range edges() {
			all = append(all, [2]uint64{a, b})
		}
	}
	chance := rand.New(rand.NewPCG(1, 2))
	for range 5000 {
		a := chance.Uint64() >> chance.UintN(64)
		b := chance.Uint64() >> chance.UintN(64)
		bit := uint64(1) << chance.UintN(64)
		all = append(all, [2]uint64{a, b}, [2]uint64{a, a}, [2]uint64{a, a ^ bit})
	}
	return all
}

// one is 1 of what is true, else 0.
func one(is bool) uint64 {
	if is {
		return 1
	}
	return 0
}

func TestLess(t *testing.T) {
	for _, p := range pairs() {
		a, b := p[0], p[1]
		if got, want := Less(a, b), one(a < b); got != want {
			t.Errorf("P1.1: Less(%#x, %#x): %d, not %d", a, b, got, want)
		}
	}
}

func TestBelow(t *testing.T) {
	for _, p := range pairs() {
		a, b := int64(p[0]), int64(p[1])
		if got, want := Below(a, b), one(a < b); got != want {
			t.Errorf("P1.1: Below(%d, %d): %d, not %d", a, b, got, want)
		}
	}
}

func TestBelowAtTheBounds(t *testing.T) {
	for _, row := range []struct {
		a, b int64
		want uint64
	}{
		{math.MinInt64, math.MaxInt64, 1},
		{math.MaxInt64, math.MinInt64, 0},
		{math.MinInt64, math.MinInt64, 0},
		{math.MaxInt64, math.MaxInt64, 0},
		{math.MinInt64, math.MinInt64 + 1, 1},
		{math.MaxInt64 - 1, math.MaxInt64, 1},
		{math.MinInt64, 0, 1},
		{0, math.MinInt64, 0},
		{0, math.MaxInt64, 1},
		{-1, 0, 1},
		{0, -1, 0},
	} {
		if got := Below(row.a, row.b); got != row.want {
			t.Errorf("P1.1: Below(%d, %d): %d, not %d", row.a, row.b, got, row.want)
		}
	}
}

func TestSame(t *testing.T) {
	for _, p := range pairs() {
		a, b := p[0], p[1]
		if got, want := Same(a, b), one(a == b); got != want {
			t.Errorf("P1.1: Same(%#x, %#x): %d, not %d", a, b, got, want)
		}
	}
	for bit := range 64 {
		if Same(0, 1<<bit) != 0 || Same(math.MaxUint64, math.MaxUint64^1<<bit) != 0 {
			t.Errorf("P1.1: Same of numbers that differ in the bit %d alone", bit)
		}
	}
}

func TestPick(t *testing.T) {
	for _, p := range pairs() {
		a, b := p[0], p[1]
		for _, c := range edges() {
			want := b
			if c%2 == 1 {
				want = a
			}
			if got := Pick(c, a, b); got != want {
				t.Errorf("P1.1: Pick(%#x, %#x, %#x): %#x", c, a, b, got)
			}
		}
	}
}

func TestExamples(t *testing.T) {
	if Less(1, 2) != 1 || Pick(0, 5, 6) != 6 {
		t.Errorf("P1.1: the examples: %d, %d", Less(1, 2), Pick(0, 5, 6))
	}
}

// TestThreeInARow: of three in a row the first is below the last; and two are
// below one another in one way, or alike.
func TestThreeInARow(t *testing.T) {
	for _, a := range edges() {
		for _, b := range edges() {
			if Less(a, b)+Less(b, a)+Same(a, b) != 1 || Below(int64(a), int64(b))+Below(int64(b), int64(a))+Same(a, b) != 1 {
				t.Errorf("what follows: %#x and %#x are not in one order", a, b)
			}
			for _, c := range edges() {
				if Less(a, b)&Less(b, c) == 1 && Less(a, c) != 1 {
					t.Errorf("what follows: Less of %#x, %#x, %#x in a row", a, b, c)
				}
				if Below(int64(a), int64(b))&Below(int64(b), int64(c)) == 1 && Below(int64(a), int64(c)) != 1 {
					t.Errorf("what follows: Below of %d, %d, %d in a row", int64(a), int64(b), int64(c))
				}
			}
		}
	}
}

// long is n bytes of many kinds; always the same.
func long(n int) []byte {
	b := make([]byte, n)
	for i := range b {
		b[i] = byte(i*37 + 11)
	}
	return b
}

// lengths are those at which bytes are tried.
func lengths() []int { return []int{0, 1, 2, 7, 8, 9, 31, 32, 33, 300} }

func TestEqual(t *testing.T) {
	for _, row := range []struct {
		a, b []byte
		want uint64
	}{
		{nil, nil, 1},
		{nil, []byte{}, 1},
		{[]byte{}, nil, 1},
		{nil, []byte{0}, 0},
		{[]byte{0}, nil, 0},
		{[]byte{0}, []byte{0}, 1},
		{[]byte{0}, []byte{0, 0}, 0},
		{[]byte{0, 0}, []byte{0}, 0},
		{[]byte("ab"), []byte("ba"), 0},
		{[]byte{1, 1}, []byte{2, 2}, 0},
		{[]byte{255}, []byte{0}, 0},
		{[]byte{128, 128}, []byte{0, 0}, 0},
		{[]byte{1, 2, 3}, []byte{3, 2, 1}, 0},
	} {
		if got := Equal(row.a, row.b); got != row.want {
			t.Errorf("P1.1: Equal(%v, %v): %d, not %d", row.a, row.b, got, row.want)
		}
	}
}

func TestEqualOfOneBit(t *testing.T) {
	for _, n := range lengths() {
		a, b := long(n), long(n)
		if Equal(a, b) != 1 || Equal(a, a) != 1 {
			t.Errorf("P1.1: Equal of the same %d bytes", n)
		}
		if Equal(a, append(long(n), 0)) != 0 || Equal(append(long(n), 0), a) != 0 {
			t.Errorf("P1.1: Equal of %d bytes and one more", n)
		}
		for i := range n {
			for bit := range 8 {
				b[i] ^= 1 << bit
				if Equal(a, b) != 0 || Equal(b, a) != 0 {
					t.Errorf("P1.1: Equal of %d bytes that differ in the bit %d of the byte %d", n, bit, i)
				}
				b[i] ^= 1 << bit
			}
		}
	}
}

func TestChoose(t *testing.T) {
	for _, n := range lengths() {
		a, b := long(n), bytes.Repeat([]byte{0xa5}, n)
		for _, c := range edges() {
			want := b
			if c%2 == 1 {
				want = a
			}
			if got := Choose(c, a, b); !bytes.Equal(got, want) {
				t.Errorf("P1.1: Choose(%#x, ..) of %d bytes: %v", c, n, got)
			}
			if got := Choose(c, a, a); !bytes.Equal(got, a) {
				t.Errorf("P1.1: Choose(%#x, ..) of the same %d bytes: %v", c, n, got)
			}
		}
	}
}

func TestChooseOfUnlikeLengths(t *testing.T) {
	for _, n := range lengths() {
		for _, m := range lengths() {
			if n == m {
				continue
			}
			for c := range uint64(4) {
				if got := Choose(c, long(n), long(m)); len(got) != 0 {
					t.Errorf("P1.1: Choose(%d, ..) of %d and %d bytes: %v", c, n, m, got)
				}
			}
		}
	}
	for c := range uint64(2) {
		if len(Choose(c, nil, nil)) != 0 || len(Choose(c, nil, []byte{})) != 0 || len(Choose(c, nil, []byte{1})) != 0 || len(Choose(c, []byte{1}, nil)) != 0 {
			t.Errorf("P1.1: Choose(%d, ..) of no bytes", c)
		}
	}
}

// roomy is n bytes with room behind their end, in which something stands.
func roomy(n int, fill byte) (part, whole []byte) {
	whole = append(long(n), bytes.Repeat([]byte{fill}, 16)...)
	return whole[:n], whole
}

// TestRoomBehindTheEnd: what stands behind the ends counts for nothing.
func TestRoomBehindTheEnd(t *testing.T) {
	for _, n := range lengths() {
		a, _ := roomy(n, 1)
		b, _ := roomy(n, 2)
		if Equal(a, b) != 1 {
			t.Errorf("P1.1: Equal of %d bytes: what stands behind their ends counts", n)
		}
		if got := Choose(1, a, b); len(got) != n {
			t.Errorf("P1.1: Choose of %d bytes: %d", n, len(got))
		}
	}
}

// TestNotChanged: what is handed in is as it was, and so is the room behind it.
func TestNotChanged(t *testing.T) {
	for _, n := range lengths() {
		a, wholeA := roomy(n, 3)
		b, wholeB := roomy(n, 4)
		if n > 0 {
			b[n/2] ^= 8
		}
		keptA, keptB := bytes.Clone(wholeA), bytes.Clone(wholeB)
		for c := range uint64(2) {
			Equal(a, b)
			got := Choose(c, a, b)
			scribble(append(got, 9, 9, 9))
			scribble(got[:cap(got)])
			Choose(c, a, b[:n/2])
		}
		if !bytes.Equal(wholeA, keptA) || !bytes.Equal(wholeB, keptB) {
			t.Errorf("R3: of %d bytes: what is handed in is changed", n)
		}
	}
}

// scribble writes over all of b.
func scribble(b []byte) {
	for i := range b {
		b[i] ^= 0xff
	}
}

// TestNotKept: an answer stays, whatever is done to what was handed in, and to
// other answers.
func TestNotKept(t *testing.T) {
	for _, n := range lengths() {
		for c := range uint64(2) {
			a, b := long(n), bytes.Repeat([]byte{6}, n)
			first, second := Choose(c, a, b), Choose(c, a, b)
			want := bytes.Clone(first)
			scribble(second[:cap(second)])
			scribble(a)
			scribble(b)
			if !bytes.Equal(first, want) {
				t.Errorf("R3: Choose(%d, ..) of %d bytes hands out what is not its own", c, n)
			}
		}
	}
}
