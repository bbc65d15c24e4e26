package record

import (
	"bytes"
	"cmp"
	"encoding/binary"
	"math"
	"math/rand/v2"
	"slices"
	"sync"
	"testing"

	"domino/api"
)

// edges are numbers at which a byte, a sign or a bound turns.
func edges() []int64 {
	return []int64{
		0, 1, -1, 2, -2, 127, 128, 255, 256, 257, -127, -128, -129, -255, -256, -257,
		65535, 65536, -65536, math.MaxInt32, math.MinInt32, math.MaxUint32, 1 << 32, -(1 << 32),
		0x0102030405060708, math.MaxInt64 - 1, math.MaxInt64, math.MinInt64, math.MinInt64 + 1,
	}
}

// fields are setters, one for each number of a record.
func fields() map[string]func(*api.Record, int64) {
	return map[string]func(*api.Record, int64){
		"Key":   func(r *api.Record, n int64) { r.Key = n },
		"Value": func(r *api.Record, n int64) { r.Value = n },
		"Seq":   func(r *api.Record, n int64) { r.Seq = n },
	}
}

// some is a record in which all bytes are unlike.
func some() api.Record {
	return api.Record{Key: 0x1112131415161718, Value: 0x2122232425262728, Seq: 0x3132333435363738}
}

// alive are records that are not dead: each edge in each field, beside zeros,
// beside unlike bytes and beside -1, and others of chance; always the same.
func alive() []api.Record {
	var all []api.Record
	for _, base := range []api.Record{{}, some(), {Key: -1, Value: -1, Seq: -1}} {
		for _, set := range fields() {
			for _, n := range edges() {
				r := base
				set(&r, n)
				all = append(all, r)
			}
		}
	}
	chance := rand.New(rand.NewPCG(9, 9))
	some64 := func() int64 { return int64(chance.Uint64()) >> chance.IntN(64) }
	for range 500 {
		all = append(all, api.Record{Key: some64(), Value: some64(), Seq: some64()})
	}
	return all
}

// killed are the records as dead ones that still say what they said.
func killed(list []api.Record) []api.Record {
	all := slices.Clone(list)
	for i := range all {
		all[i].Dead = true
	}
	return all
}

// laid are numbers of eight bytes each, the lowest first, by what the library
// has for them.
func laid(numbers ...uint64) []byte {
	var b []byte
	for _, n := range numbers {
		b = binary.LittleEndian.AppendUint64(b, n)
	}
	return b
}

// refused tells where Take of b is not an error alone.
func refused(t *testing.T, b []byte, want api.Errno, what string) {
	t.Helper()
	r, e := Take(b)
	if e != want {
		t.Errorf("P9.1: Take of %s: error %d, not %d", what, e, want)
	}
	if r != (api.Record{}) {
		t.Errorf("R4: Take of %s: %+v beside an error", what, r)
	}
}

// TestExample: the chapter's example.
func TestExample(t *testing.T) {
	if got := Before(api.Record{Key: 1}, Dead()); got != 1 {
		t.Errorf("P9.2: the chapter's example: %d", got)
	}
}

// TestBytes: a few records, their bytes written out one by one.
func TestBytes(t *testing.T) {
	for _, row := range []struct {
		r    api.Record
		want [32]byte
	}{
		{api.Record{}, [32]byte{}},
		{api.Record{Key: 1}, [32]byte{8: 1}},
		{api.Record{Value: 1}, [32]byte{16: 1}},
		{api.Record{Seq: 1}, [32]byte{24: 1}},
		{api.Record{Key: 255, Value: 256, Seq: -256}, [32]byte{8: 255, 17: 1, 25: 255, 255, 255, 255, 255, 255, 255}},
		{api.Record{Key: math.MinInt64, Value: math.MaxInt64}, [32]byte{15: 0x80, 255, 255, 255, 255, 255, 255, 255, 0x7f}},
		{some(), [32]byte{
			0, 0, 0, 0, 0, 0, 0, 0,
			0x18, 0x17, 0x16, 0x15, 0x14, 0x13, 0x12, 0x11,
			0x28, 0x27, 0x26, 0x25, 0x24, 0x23, 0x22, 0x21,
			0x38, 0x37, 0x36, 0x35, 0x34, 0x33, 0x32, 0x31,
		}},
		{api.Record{Dead: true}, [32]byte{1}},
		{api.Record{Dead: true, Key: 1}, [32]byte{1}},
		{api.Record{Dead: true, Value: -1}, [32]byte{1}},
		{api.Record{Dead: true, Seq: math.MinInt64}, [32]byte{1}},
		{api.Record{Dead: true, Key: 5, Value: 6, Seq: 7}, [32]byte{1}},
	} {
		if got := Pack(row.r); got != row.want {
			t.Errorf("P9.1: Pack of %+v: %x, not %x", row.r, got, row.want)
		}
	}
}

// TestPack: each number in each field.
func TestPack(t *testing.T) {
	for _, r := range alive() {
		want := laid(0, uint64(r.Key), uint64(r.Value), uint64(r.Seq))
		if got := Pack(r); !bytes.Equal(got[:], want) {
			t.Errorf("P9.1: Pack of %+v: %x, not %x", r, got, want)
		}
	}
	for _, r := range killed(alive()) {
		if got := Pack(r); got != [32]byte{1} {
			t.Errorf("P9.1: Pack of %+v: %x, not as of any dead one", r, got)
		}
	}
}

// TestDead: a dead one, and all else zero.
func TestDead(t *testing.T) {
	if got := Dead(); got != (api.Record{Dead: true}) {
		t.Errorf("P9.1: Dead: %+v", got)
	}
}

// TestBack: what is packed is taken, a dead one as Dead.
func TestBack(t *testing.T) {
	for _, r := range alive() {
		b := Pack(r)
		if got, e := Take(b[:]); got != r || e != api.OK {
			t.Errorf("what follows: Take of what %+v was packed as: %+v, error %d", r, got, e)
		}
	}
	for _, r := range killed(alive()) {
		b := Pack(r)
		if got, e := Take(b[:]); got != Dead() || e != api.OK {
			t.Errorf("what follows: Take of what %+v was packed as: %+v, error %d", r, got, e)
		}
	}
}

// TestTake: bytes as a record, and that one as the same bytes again.
func TestTake(t *testing.T) {
	chance := rand.New(rand.NewPCG(9, 1))
	rows := [][]byte{laid(0, 0, 0, 0), laid(0, 1<<63, math.MaxUint64, 1<<63-1), laid(1, 0, 0, 0)}
	for range 1000 {
		rows = append(rows, laid(0, chance.Uint64(), chance.Uint64(), chance.Uint64()))
	}
	for bit := 64; bit < 256; bit++ {
		b := make([]byte, 32)
		b[bit/8] = 1 << (bit % 8)
		rows = append(rows, b)
	}
	for _, b := range rows {
		n := func(i int) int64 { return int64(binary.LittleEndian.Uint64(b[8*i:])) }
		want := api.Record{Dead: n(0) == 1, Key: n(1), Value: n(2), Seq: n(3)}
		r, e := Take(b)
		if r != want || e != api.OK {
			t.Errorf("P9.1: Take of %x: %+v, error %d; not %+v", b, r, e, want)
		}
		if again := Pack(r); !bytes.Equal(again[:], b) {
			t.Errorf("P9.1: what %x is taken as is packed as %x", b, again)
		}
	}
}

// TestTakeLengths: fewer bytes than a record's, and more; whatever stands there.
func TestTakeLengths(t *testing.T) {
	refused(t, nil, api.ErrShort, "nil")
	refused(t, []byte{}, api.ErrShort, "no bytes")
	for _, fill := range []byte{0, 1, 2, 255} {
		for n := range 200 {
			want := api.ErrShort
			switch {
			case n == 32:
				continue
			case n > 32:
				want = api.ErrForm
			}
			refused(t, bytes.Repeat([]byte{fill}, n), want, "a row of another length")
		}
		refused(t, bytes.Repeat([]byte{fill}, 1<<20), api.ErrForm, "many bytes")
	}
	for _, r := range append(alive(), Dead()) {
		b := Pack(r)
		refused(t, b[:31], api.ErrShort, "a record but for its last byte")
		refused(t, b[:1], api.ErrShort, "a record's first byte")
		refused(t, b[1:], api.ErrShort, "a record but for its first byte")
		refused(t, b[:0], api.ErrShort, "none of a record's bytes")
		refused(t, append(b[:], 0), api.ErrForm, "a record and a byte")
		refused(t, append(b[:], b[:]...), api.ErrForm, "a record twice")
	}
}

// TestFirstNumber: any first number above 1.
func TestFirstNumber(t *testing.T) {
	firsts := []uint64{
		2, 3, 4, 127, 128, 254, 255, 256, 257, 511, 65535, 65536, math.MaxUint32, 1 << 32, 1<<32 + 1,
		math.MaxInt64, 1 << 63, 1<<63 + 1, math.MaxUint64 - 1, math.MaxUint64,
	}
	for bit := 1; bit < 64; bit++ {
		firsts = append(firsts, 1<<bit, 1<<bit+1)
	}
	for high := uint64(1); high < 256; high++ {
		firsts = append(firsts, high<<56)
	}
	for _, n := range firsts {
		refused(t, laid(n, 0, 0, 0), api.ErrForm, "a first number above 1")
		refused(t, laid(n, 1, 2, 3), api.ErrForm, "a first number above 1, and others behind")
		refused(t, laid(n, math.MaxUint64, math.MaxUint64, math.MaxUint64), api.ErrForm, "a first number above 1, and -1 behind")
	}
}

// TestOddDead: a dead one in which any one other bit, or any one other byte, is
// not zero.
func TestOddDead(t *testing.T) {
	for at := 1; at < 32; at++ {
		for value := 1; value < 256; value++ {
			b := Pack(Dead())
			b[at] = byte(value)
			refused(t, b[:], api.ErrForm, "a dead one that says more")
		}
	}
	// Numbers that, put together in some other way, come to nothing.
	for _, n := range []uint64{1, 1 << 63, math.MaxUint64, 0x0102030405060708} {
		for _, row := range [][]byte{laid(1, n, n, 0), laid(1, n, 0, n), laid(1, 0, n, n), laid(1, n, -n, 0), laid(1, n, 0, -n), laid(1, 0, n, -n), laid(1, n, n, n), laid(1, n, ^n, 0)} {
			refused(t, row, api.ErrForm, "a dead one that says more than once")
		}
	}
	for _, r := range alive() {
		if r == (api.Record{}) {
			continue
		}
		b := Pack(r)
		b[0] = 1
		refused(t, b[:], api.ErrForm, "a record that is turned into a dead one")
	}
}

// TestNotChanged: what is handed in, and the room behind its end, is as it was,
// and counts for nothing.
func TestNotChanged(t *testing.T) {
	for _, n := range []int{0, 1, 31, 32, 33, 64} {
		for _, first := range []byte{0, 1, 2} {
			whole := bytes.Repeat([]byte{0xa5}, n+40)
			clear(whole[:n])
			if n > 0 {
				whole[0] = first
			}
			kept := bytes.Clone(whole)
			r, e := Take(whole[:n])
			if !bytes.Equal(whole, kept) {
				t.Errorf("R3: Take of %d bytes changes them, or what is behind", n)
			}
			if r2, e2 := Take(bytes.Clone(whole[:n:n])); r2 != r || e2 != e {
				t.Errorf("R3: Take of %d bytes: what is behind them counts", n)
			}
		}
	}
	a, b := some(), killed([]api.Record{some()})[0]
	Pack(b)
	Before(a, b)
	Ahead(b, a)
	Pick(1, a, b)
	if a != some() || b != (api.Record{Dead: true, Key: a.Key, Value: a.Value, Seq: a.Seq}) {
		t.Errorf("R3: a record is changed: %+v, %+v", a, b)
	}
}

// TestNotKept: an answer stays, whatever is done to what was handed in, and to
// other answers.
func TestNotKept(t *testing.T) {
	first := Pack(some())
	want := first
	taken, _ := Take(first[:])
	for i := range first {
		first[i] ^= 0xff
	}
	second := Pack(some())
	if second != want || taken != some() {
		t.Errorf("R3: Pack or Take behind bytes that were written over: %x, %+v", second, taken)
	}
	dead := Dead()
	dead.Key = 5
	if Dead() != (api.Record{Dead: true}) {
		t.Errorf("R3: Dead behind another that was written over: %+v", Dead())
	}
}

// forOrder are records in which Keys and Seqs are all pairs out of a few, with
// Values of two kinds, dead and not.
func forOrder() []api.Record {
	few := []int64{math.MinInt64, math.MinInt64 + 1, -256, -1, 0, 1, 255, 256, math.MaxInt64 - 1, math.MaxInt64}
	var all []api.Record
	for _, key := range few {
		for _, seq := range few {
			all = append(all, api.Record{Key: key, Seq: seq}, api.Record{Key: key, Seq: seq, Value: -key ^ seq ^ 0x55})
		}
	}
	return append(append(all, killed(all)...), Dead())
}

// oneOf is 1 of what is true, else 0.
func oneOf(is bool) uint64 {
	if is {
		return 1
	}
	return 0
}

// ranked is how a stands to b, below 0: ahead of it; by Key alone, or by Seq,
// too.
func ranked(a, b api.Record, seq bool) int {
	switch {
	case a.Dead && b.Dead:
		return 0
	case a.Dead:
		return 1
	case b.Dead:
		return -1
	case a.Key != b.Key || !seq:
		return cmp.Compare(a.Key, b.Key)
	}
	return cmp.Compare(a.Seq, b.Seq)
}

// TestOrder: each pair.
func TestOrder(t *testing.T) {
	all := forOrder()
	for _, a := range all {
		for _, b := range all {
			if got, want := Before(a, b), oneOf(ranked(a, b, true) < 0); got != want {
				t.Errorf("P9.2: Before(%+v, %+v): %d, not %d", a, b, got, want)
			}
			if got, want := Ahead(a, b), oneOf(ranked(a, b, false) < 0); got != want {
				t.Errorf("P9.2: Ahead(%+v, %+v): %d, not %d", a, b, got, want)
			}
		}
	}
}

// TestOrderWritten: pairs whose answers are written out.
func TestOrderWritten(t *testing.T) {
	least, most := int64(math.MinInt64), int64(math.MaxInt64)
	for _, row := range []struct {
		what          string
		a, b          api.Record
		before, ahead uint64
	}{
		{"two of zeros", api.Record{}, api.Record{}, 0, 0},
		{"Keys", api.Record{Key: 1}, api.Record{Key: 2}, 1, 1},
		{"Keys, turned", api.Record{Key: 2}, api.Record{Key: 1}, 0, 0},
		{"Keys below 0", api.Record{Key: -2}, api.Record{Key: -1}, 1, 1},
		{"Keys about 0", api.Record{Key: -1}, api.Record{}, 1, 1},
		{"Keys about 0, turned", api.Record{}, api.Record{Key: -1}, 0, 0},
		{"the least and the greatest Key", api.Record{Key: least}, api.Record{Key: most}, 1, 1},
		{"the greatest and the least Key", api.Record{Key: most}, api.Record{Key: least}, 0, 0},
		{"Seqs", api.Record{Key: 7, Seq: 1}, api.Record{Key: 7, Seq: 2}, 1, 0},
		{"Seqs, turned", api.Record{Key: 7, Seq: 2}, api.Record{Key: 7, Seq: 1}, 0, 0},
		{"Seqs about 0", api.Record{Key: 7, Seq: -1}, api.Record{Key: 7}, 1, 0},
		{"the least and the greatest Seq", api.Record{Seq: least}, api.Record{Seq: most}, 1, 0},
		{"the greatest and the least Seq", api.Record{Seq: most}, api.Record{Seq: least}, 0, 0},
		{"Keys against Seqs", api.Record{Key: 1, Seq: 9}, api.Record{Key: 2, Seq: 1}, 1, 1},
		{"Seqs against Keys", api.Record{Key: 2, Seq: 1}, api.Record{Key: 1, Seq: 9}, 0, 0},
		{"Values alone", api.Record{Value: 1}, api.Record{Value: 2}, 0, 0},
		{"Values against Keys", api.Record{Key: 1, Value: 9}, api.Record{Key: 2, Value: 1}, 1, 1},
		{"one of the greatest, and a dead one", api.Record{Key: most, Value: most, Seq: most}, Dead(), 1, 1},
		{"a dead one, and one of the least", Dead(), api.Record{Key: least, Value: least, Seq: least}, 0, 0},
		{"one, and a dead one that says a lesser Key", api.Record{Key: 5}, api.Record{Dead: true, Key: 1}, 1, 1},
		{"a dead one that says a lesser Key, and one", api.Record{Dead: true, Key: 1}, api.Record{Key: 5}, 0, 0},
		{"two dead ones", Dead(), Dead(), 0, 0},
		{"two dead ones that say Keys and Seqs", api.Record{Dead: true, Key: 1, Seq: 1}, api.Record{Dead: true, Key: 2, Seq: 2}, 0, 0},
	} {
		if before, ahead := Before(row.a, row.b), Ahead(row.a, row.b); before != row.before || ahead != row.ahead {
			t.Errorf("P9.2: %s: %d, %d; not %d, %d", row.what, before, ahead, row.before, row.ahead)
		}
	}
}

// TestOneOrder: none stands ahead of itself; of two at most one stands ahead;
// and of three in a row the first stands ahead of the last.
func TestOneOrder(t *testing.T) {
	few := []int64{math.MinInt64, -1, 0, 1, math.MaxInt64}
	var all []api.Record
	for _, key := range few {
		for _, seq := range few {
			all = append(all, api.Record{Key: key, Seq: seq}, api.Record{Dead: true, Key: key, Seq: seq})
		}
	}
	for name, ahead := range map[string]func(a, b api.Record) uint64{"Before": Before, "Ahead": Ahead} {
		for _, a := range all {
			if ahead(a, a) != 0 {
				t.Errorf("P9.2: %s: %+v stands ahead of itself", name, a)
			}
			for _, b := range all {
				if ahead(a, b)+ahead(b, a) > 1 {
					t.Errorf("P9.2: %s: %+v and %+v stand ahead of one another", name, a, b)
				}
				for _, c := range all {
					if ahead(a, b)&ahead(b, c) == 1 && ahead(a, c) != 1 {
						t.Errorf("P9.2: %s of %+v, %+v, %+v in a row", name, a, b, c)
					}
				}
			}
		}
	}
}

// TestPick: by the lowest bit alone, each field; a dead one is picked as it is.
func TestPick(t *testing.T) {
	all := []api.Record{{}, some(), Dead(), {Key: -1, Value: -1, Seq: -1}}
	for _, set := range fields() {
		for _, n := range []int64{1, -1, 256, math.MaxInt64, math.MinInt64} {
			r, d := api.Record{}, Dead()
			set(&r, n)
			set(&d, n)
			all = append(all, r, d)
		}
	}
	conditions := []uint64{0, 1, 2, 3, 254, 255, 256, 257, math.MaxUint32, 1 << 32, math.MaxInt64, 1 << 63, 1<<63 + 1, math.MaxUint64 - 1, math.MaxUint64}
	for bit := 1; bit < 64; bit++ {
		conditions = append(conditions, 1<<bit, 1<<bit+1)
	}
	for _, a := range all {
		for _, b := range all {
			for _, c := range conditions {
				want := b
				if c%2 == 1 {
					want = a
				}
				if got := Pick(c, a, b); got != want {
					t.Errorf("P9.2: Pick(%#x, %+v, %+v): %+v", c, a, b, got)
				}
			}
		}
	}
}

// TestPickOrdered: what is picked by Before is the one that stands ahead.
func TestPickOrdered(t *testing.T) {
	list := alive()
	list = append(list, killed(list)[:50]...)
	for i := range list {
		for k := len(list) - 1; k > i; k-- {
			a, b := list[k-1], list[k]
			swap := Before(b, a)
			list[k-1], list[k] = Pick(swap, b, a), Pick(swap, a, b)
		}
	}
	if !slices.IsSortedFunc(list, func(a, b api.Record) int { return ranked(a, b, true) }) {
		t.Error("P9.2: Before and Pick do not sort")
	}
}

// left are the numbers and the lengths of the words of b, up to that behind
// which it is left; 0: it is not.
func left(b []byte, stop int) (which, lengths []int) {
	for i, word := range words(b) {
		which, lengths = append(which, i), append(lengths, len(word))
		if len(which) == stop {
			break
		}
	}
	return which, lengths
}

// TestWordsAgain: words may be ranged over again, and left anywhere.
func TestWordsAgain(t *testing.T) {
	b := Pack(some())
	for _, stop := range []int{0, 1, 2, 3, 4, 5, 1, 0} {
		n := 4
		if stop > 0 {
			n = min(stop, n)
		}
		which, lengths := left(b[:], stop)
		if !slices.Equal(which, []int{0, 1, 2, 3}[:n]) || !slices.Equal(lengths, []int{8, 8, 8, 8}[:n]) {
			t.Errorf("R1: words, left behind %d: %d of %d bytes", stop, which, lengths)
		}
	}
	all := words(b[:])
	for range 2 {
		sum := uint64(0)
		for _, word := range all {
			sum += number(word)
		}
		if want := uint64(some().Key + some().Value + some().Seq); sum != want {
			t.Errorf("R1: words, ranged over again: %#x, not %#x", sum, want)
		}
	}
}

// TestSideBySide: calls know nothing of one another.
func TestSideBySide(t *testing.T) {
	all := append(alive(), Dead())
	var wait sync.WaitGroup
	for first := range 8 {
		wait.Go(func() {
			for i := first; i < len(all); i += 8 {
				b := Pack(all[i])
				if r, e := Take(b[:]); r != all[i] || e != api.OK {
					t.Errorf("R2: %+v, beside others: %+v, error %d", all[i], r, e)
				}
			}
		})
	}
	wait.Wait()
}

func BenchmarkPackTake(b *testing.B) {
	for b.Loop() {
		bytes := Pack(some())
		Take(bytes[:])
	}
}

func BenchmarkBeforePick(b *testing.B) {
	for b.Loop() {
		Pick(Before(some(), Dead()), some(), Dead())
	}
}
