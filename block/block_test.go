package block

import (
	"bytes"
	"encoding/binary"
	"fmt"
	"math"
	"math/rand/v2"
	"slices"
	"sync"
	"testing"

	"domino/aead"
	"domino/api"
	"domino/keys"
	"domino/record"
)

// some is a record in which all bytes are unlike.
func some() api.Record {
	return api.Record{Key: 0x1112131415161718, Value: 0x2122232425262728, Seq: 0x3132333435363738}
}

// dead is a dead one that says nothing.
func dead() api.Record {
	return api.Record{Dead: true}
}

// list are n records, no two alike, none dead.
func list(n int) []api.Record {
	l := make([]api.Record, n)
	for i := range l {
		l[i] = api.Record{Key: int64(i + 1), Value: int64(-i), Seq: int64(i)<<40 + 7}
	}
	return l
}

// mixed are n records of chance, some of them dead, and of those some that say
// more; always the same.
func mixed(chance *rand.Rand, n int) []api.Record {
	l := make([]api.Record, n)
	for i := range l {
		one := func() int64 { return int64(chance.Uint64()) >> chance.IntN(64) }
		l[i] = api.Record{Key: one(), Value: one(), Seq: one()}
		switch chance.IntN(4) {
		case 0:
			l[i].Dead = true
		case 1:
			l[i] = dead()
		}
	}
	return l
}

// as are the records of l as they are taken again from a block of that size: a
// dead one says nothing, and dead ones stand behind.
func as(l []api.Record, size int) []api.Record {
	var all []api.Record
	for i := range size {
		if i >= len(l) || l[i].Dead {
			all = append(all, dead())
			continue
		}
		all = append(all, l[i])
	}
	return all
}

// wantPack are the records as bytes, by what the library has for numbers.
func wantPack(l []api.Record, size int) []byte {
	var b []byte
	for _, r := range as(l, size) {
		first := uint64(0)
		if r.Dead {
			first = 1
		}
		for _, n := range []uint64{first, uint64(r.Key), uint64(r.Value), uint64(r.Seq)} {
			b = binary.LittleEndian.AppendUint64(b, n)
		}
	}
	return b
}

// someJob is a job's key in which all bytes are unlike.
func someJob() [32]byte {
	var job [32]byte
	for i := range job {
		job[i] = byte(i*37 + 11)
	}
	return job
}

// somePlace is a place in which all numbers are unlike, and all bytes of each.
func somePlace() api.Place {
	return api.Place{
		Phase:   0x0102030405060708,
		Round:   0x1112131415161718,
		Addr:    0x2122232425262728,
		Attempt: 0x3132333435363738,
		Index:   0x4142434445464748,
	}
}

// usual is a place as a job has them.
func usual() api.Place {
	return api.Place{Phase: api.PhaseSort, Round: 3, Addr: 4, Attempt: 5<<32 + 9, Index: 1}
}

// sizes are those that a block may have.
func sizes() []int {
	return []int{1, 2, 3, 4, 5, 6, 7, 8}
}

// noSizes are numbers that no block may have as its size.
func noSizes() []int {
	return []int{0, -1, -2, -8, 9, 10, 16, 32, 255, 256, 257, 264, 1 << 16, 1 << 31, 1<<32 + 1, 1<<59 + 1, 1<<60 + 2, math.MaxInt, math.MinInt, math.MinInt + 1}
}

// sealedBy is what is sealed with the key, the nonce and the bytes beside of a
// place, whatever it is.
func sealedBy(t *testing.T, job [32]byte, p api.Place, size int, plain []byte) []byte {
	t.Helper()
	sealed, e := aead.Seal(keys.Place(job, p), keys.Nonce(p.Attempt, p.Index), keys.Aad(p, size), plain)
	if e != api.OK {
		t.Fatalf("aead.Seal of %d bytes: error %d", len(plain), e)
	}
	return sealed
}

// seal is what Seal answers where it must not refuse.
func seal(t *testing.T, job [32]byte, p api.Place, l []api.Record, size int) []byte {
	t.Helper()
	sealed, e := Seal(job, p, l, size)
	if e != api.OK {
		t.Fatalf("P10.2: Seal of %d records, size %d: error %d", len(l), size, e)
	}
	return sealed
}

// noPack tells where Pack and Seal do not refuse with the error alone.
func noPack(t *testing.T, l []api.Record, size int, want api.Errno) {
	t.Helper()
	if b, e := Pack(l, size); e != want || len(b) != 0 {
		t.Errorf("P10.1, R4, R5: Pack of %d records, size %d: %d bytes, error %d, not %d", len(l), size, len(b), e, want)
	}
	if b, e := Seal(someJob(), usual(), l, size); e != want || len(b) != 0 {
		t.Errorf("P10.2, R4, R5: Seal of %d records, size %d: %d bytes, error %d, not %d", len(l), size, len(b), e, want)
	}
}

// noTake tells where Take does not refuse with the error alone.
func noTake(t *testing.T, b []byte, size int, want api.Errno, what string) {
	t.Helper()
	if l, e := Take(b, size); e != want || len(l) != 0 {
		t.Errorf("P10.1, R4, R5: Take of %d bytes, size %d, %s: %+v, error %d, not %d", len(b), size, what, l, e, want)
	}
}

// noOpen tells where Open does not refuse with the error alone.
func noOpen(t *testing.T, job [32]byte, p api.Place, size int, sealed []byte, want api.Errno, what string) {
	t.Helper()
	if l, e := Open(job, p, size, sealed); e != want || len(l) != 0 {
		t.Errorf("P10.2, R4, R5: Open of %d bytes, size %d, %s: %+v, error %d, not %d", len(sealed), size, what, l, e, want)
	}
}

// TestExample: the chapter's example.
func TestExample(t *testing.T) {
	if got := Size(2); got != 80 {
		t.Errorf("P10.1: the chapter's example: %d", got)
	}
}

// TestSize: below 0, 0, all that may be, and above.
func TestSize(t *testing.T) {
	for size, want := range map[int]int{
		math.MinInt: 16, math.MinInt + 1: 16, -1 << 59: 16, -1<<59 - 1: 16, -9: 16, -2: 16, -1: 16, 0: 16,
		1: 48, 2: 80, 3: 112, 4: 144, 5: 176, 6: 208, 7: 240, 8: 272,
		9: 272, 10: 272, 64: 272, 256: 272, 1 << 32: 272, 1<<59 + 1: 272, 1 << 62: 272, math.MaxInt - 1: 272, math.MaxInt: 272,
	} {
		if got := Size(size); got != want {
			t.Errorf("P10.1: Size(%d): %d, not %d", size, got, want)
		}
	}
	if Size(api.MaxBlock) != Size(api.MaxBlock+1) || Size(api.MaxBlock) == Size(api.MaxBlock-1) {
		t.Errorf("P10.1: Size does not stay from MaxBlock on")
	}
}

// TestPackBytes: a few blocks, their bytes written out one by one.
func TestPackBytes(t *testing.T) {
	full := []byte{
		0, 0, 0, 0, 0, 0, 0, 0,
		0x18, 0x17, 0x16, 0x15, 0x14, 0x13, 0x12, 0x11,
		0x28, 0x27, 0x26, 0x25, 0x24, 0x23, 0x22, 0x21,
		0x38, 0x37, 0x36, 0x35, 0x34, 0x33, 0x32, 0x31,
	}
	none := make([]byte, 32)
	none[0] = 1
	for _, row := range []struct {
		l    []api.Record
		size int
		want []byte
	}{
		{nil, 1, none},
		{nil, 2, slices.Concat(none, none)},
		{nil, 8, bytes.Repeat(none, 8)},
		{[]api.Record{some()}, 1, full},
		{[]api.Record{some()}, 2, slices.Concat(full, none)},
		{[]api.Record{some()}, 3, slices.Concat(full, none, none)},
		{[]api.Record{{}, some()}, 2, slices.Concat(make([]byte, 32), full)},
		{[]api.Record{dead(), some()}, 2, slices.Concat(none, full)},
		{[]api.Record{dead(), some()}, 3, slices.Concat(none, full, none)},
		{[]api.Record{{Dead: true, Key: 1, Value: 2, Seq: 3}, some()}, 2, slices.Concat(none, full)},
		{[]api.Record{some(), {Dead: true, Key: -1, Value: -1, Seq: -1}}, 2, slices.Concat(full, none)},
		{[]api.Record{{Seq: 256}, {Value: -1}}, 2, append(append(make([]byte, 25), 1, 0, 0, 0, 0, 0, 0),
			0, 0, 0, 0, 0, 0, 0, 0, 0, 0, 0, 0, 0, 0, 0, 0, 255, 255, 255, 255, 255, 255, 255, 255, 0, 0, 0, 0, 0, 0, 0, 0)},
	} {
		if got, e := Pack(row.l, row.size); e != api.OK || !bytes.Equal(got, row.want) {
			t.Errorf("P10.1: Pack of %+v, size %d: %x, error %d; not %x", row.l, row.size, got, e, row.want)
		}
	}
}

// TestPack: no record, one, and so on up to as many as size, of all sizes; each
// as record.Pack has it.
func TestPack(t *testing.T) {
	chance := rand.New(rand.NewPCG(10, 1))
	for _, size := range sizes() {
		for n := range size + 1 {
			for _, l := range [][]api.Record{list(n), mixed(chance, n), mixed(chance, n), make([]api.Record, n), slices.Repeat([]api.Record{dead()}, n)} {
				b, e := Pack(l, size)
				if want := wantPack(l, size); e != api.OK || !bytes.Equal(b, want) {
					t.Errorf("P10.1: Pack of %+v, size %d: %x, error %d; not %x", l, size, b, e, want)
				}
				for i := range min(size, len(b)/32) {
					want := record.Pack(record.Dead())
					if i < n {
						want = record.Pack(l[i])
					}
					if !bytes.Equal(b[32*i:32*i+32], want[:]) {
						t.Errorf("P10.1: Pack of %+v, size %d: the record %d is %x, not %x", l, size, i, b[32*i:32*i+32], want)
					}
				}
			}
		}
	}
}

// TestPackErrors: sizes that may not be, however many records there are, and
// more records than size.
func TestPackErrors(t *testing.T) {
	for _, size := range noSizes() {
		for _, n := range []int{0, 1, 2, 8, 9, 10, 100} {
			noPack(t, list(n), size, api.ErrArg)
		}
		noPack(t, nil, size, api.ErrArg)
	}
	for _, size := range sizes() {
		for _, n := range []int{size + 1, size + 2, 2 * size, 2*size + 1, 9, 256 + size, 1000} {
			if n > size {
				noPack(t, list(n), size, api.ErrLimit)
				noPack(t, slices.Repeat([]api.Record{dead()}, n), size, api.ErrLimit)
			}
		}
	}
}

// TestTake: bytes as records, and those as the same bytes again.
func TestTake(t *testing.T) {
	chance := rand.New(rand.NewPCG(10, 2))
	for _, size := range sizes() {
		for range 50 {
			want := as(mixed(chance, size), size)
			b := wantPack(want, size)
			l, e := Take(b, size)
			if e != api.OK || !slices.Equal(l, want) {
				t.Errorf("P10.1: Take of %x, size %d: %+v, error %d; not %+v", b, size, l, e, want)
			}
			if again, e := Pack(l, size); e != api.OK || !bytes.Equal(again, b) {
				t.Errorf("P10.1: what %x is taken as is packed as %x, error %d", b, again, e)
			}
		}
		if l, e := Take(make([]byte, 32*size), size); e != api.OK || !slices.Equal(l, make([]api.Record, size)) {
			t.Errorf("P10.1: Take of zeros, size %d: %+v, error %d", size, l, e)
		}
	}
}

// TestBack: what is packed is taken again, with dead ones behind.
func TestBack(t *testing.T) {
	chance := rand.New(rand.NewPCG(10, 3))
	for _, size := range sizes() {
		for n := range size + 1 {
			for _, l := range [][]api.Record{list(n), mixed(chance, n), mixed(chance, n)} {
				b, _ := Pack(l, size)
				if got, e := Take(b, size); e != api.OK || !slices.Equal(got, as(l, size)) {
					t.Errorf("P10.1: Take of what %+v was packed as, size %d: %+v, error %d", l, size, got, e)
				}
			}
		}
	}
}

// TestTakeSizes: sizes that may not be, whatever bytes there are.
func TestTakeSizes(t *testing.T) {
	odd := bytes.Repeat([]byte{255}, 64)
	for _, size := range noSizes() {
		for _, b := range [][]byte{nil, {}, {0}, make([]byte, 31), make([]byte, 32), make([]byte, 256), make([]byte, 288), make([]byte, 320), odd} {
			noTake(t, b, size, api.ErrArg, "which may not be")
		}
	}
}

// TestTakeLengths: fewer bytes than there must be, and more, whatever stands
// there.
func TestTakeLengths(t *testing.T) {
	for _, size := range sizes() {
		noTake(t, nil, size, api.ErrShort, "nil")
		noTake(t, []byte{}, size, api.ErrShort, "none")
		for _, fill := range []byte{0, 2, 255} {
			for n := range 700 {
				b := bytes.Repeat([]byte{fill}, n)
				if n < 32*size {
					noTake(t, b, size, api.ErrShort, "fewer")
				}
				if n > 32*size {
					noTake(t, b, size, api.ErrForm, "more")
				}
			}
			noTake(t, bytes.Repeat([]byte{fill}, 1<<20), size, api.ErrForm, "many")
		}
		b, _ := Pack(list(size), size)
		noTake(t, b[:len(b)-1], size, api.ErrShort, "one fewer")
		noTake(t, b[1:], size, api.ErrShort, "one fewer ahead")
		noTake(t, b[:len(b)-32], size, api.ErrShort, "a record fewer")
		noTake(t, b[:len(b)/2], size, api.ErrShort, "half of them")
		noTake(t, append(bytes.Clone(b), 0), size, api.ErrForm, "one more")
		noTake(t, append(bytes.Clone(b), b[:32]...), size, api.ErrForm, "a record more")
		noTake(t, append(bytes.Clone(b), b...), size, api.ErrForm, "twice as many")
	}
}

// TestTakeNone: bytes one piece of which is no record, in each place.
func TestTakeNone(t *testing.T) {
	for _, size := range sizes() {
		for i := range size {
			for _, n := range []int{0, size} {
				b, _ := Pack(list(n), size)
				for _, row := range []struct {
					what  string
					at    int
					value byte
				}{
					{"a first number of 2", 0, 2},
					{"a first number of 3", 0, 3},
					{"a first number of 255", 0, 255},
					{"a first number of 256 or 257", 1, 1},
					{"a high first number", 7, 128},
				} {
					odd := bytes.Clone(b)
					odd[32*i+row.at] = row.value
					noTake(t, odd, size, api.ErrForm, fmt.Sprintf("record %d: %s", i, row.what))
				}
				for at := 8; at < 32; at++ {
					odd := bytes.Clone(b)
					odd[32*i], odd[32*i+at] = 1, 77
					noTake(t, odd, size, api.ErrForm, fmt.Sprintf("record %d: a dead one that says more", i))
				}
			}
		}
		noTake(t, bytes.Repeat([]byte{255}, 32*size), size, api.ErrForm, "no record at all")
	}
}

// TestSeal: what is sealed, against aead.Seal with the key, the nonce and the
// bytes beside of its place.
func TestSeal(t *testing.T) {
	chance := rand.New(rand.NewPCG(10, 4))
	places := []api.Place{{}, usual(), somePlace(), {Phase: -1, Round: -2, Addr: -3, Attempt: math.MaxUint64, Index: -4}, {Index: 1 << 40}}
	for _, job := range [][32]byte{{}, someJob()} {
		for _, p := range places {
			for _, size := range sizes() {
				for _, l := range [][]api.Record{nil, list(1), list(size), mixed(chance, size)} {
					sealed := seal(t, job, p, l, size)
					if want := sealedBy(t, job, p, 32*size, wantPack(l, size)); !bytes.Equal(sealed, want) {
						t.Errorf("P10.2: Seal of %+v, size %d, at %+v: %x, not %x", l, size, p, sealed, want)
					}
					if len(sealed) != Size(size) {
						t.Errorf("P10.1: a sealed block of size %d has %d bytes, not Size's %d", size, len(sealed), Size(size))
					}
					if got, e := Open(job, p, size, sealed); e != api.OK || !slices.Equal(got, as(l, size)) {
						t.Errorf("P10.2: Open of %+v, sealed with size %d at %+v: %+v, error %d", l, size, p, got, e)
					}
				}
			}
		}
	}
}

// TestOneLength: a block of a size is as long as any other one of it, whatever
// it has in it, and wherever.
func TestOneLength(t *testing.T) {
	chance := rand.New(rand.NewPCG(10, 5))
	for _, size := range sizes() {
		for range 30 {
			p := api.Place{Phase: int(chance.Uint64()), Round: int(chance.Uint64()), Addr: chance.IntN(32), Attempt: chance.Uint64(), Index: chance.IntN(4)}
			if sealed := seal(t, someJob(), p, mixed(chance, chance.IntN(size+1)), size); len(sealed) != 32*size+16 {
				t.Errorf("what follows: a sealed block of size %d has %d bytes", size, len(sealed))
			}
		}
	}
}

// TestOpenBytes: other bytes than those that were sealed.
func TestOpenBytes(t *testing.T) {
	job, p := someJob(), usual()
	for _, size := range []int{1, 2, 8} {
		sealed := seal(t, job, p, list(size-1), size)
		for bit := range 8 * len(sealed) {
			sealed[bit/8] ^= 1 << (bit % 8)
			noOpen(t, job, p, size, sealed, api.ErrOpen, "a bit turned")
			sealed[bit/8] ^= 1 << (bit % 8)
		}
		for n := range sealed {
			want := api.ErrOpen
			if n < 16 {
				want = api.ErrShort
			}
			noOpen(t, job, p, size, sealed[:n], want, "cut off")
		}
		noOpen(t, job, p, size, nil, api.ErrShort, "nil")
		noOpen(t, job, p, size, []byte{}, api.ErrShort, "none")
		noOpen(t, job, p, size, sealed[1:], api.ErrOpen, "cut off ahead")
		noOpen(t, job, p, size, append(bytes.Clone(sealed), 0), api.ErrOpen, "one more")
		noOpen(t, job, p, size, append(bytes.Clone(sealed), sealed...), api.ErrOpen, "twice")
		noOpen(t, job, p, size, make([]byte, len(sealed)), api.ErrOpen, "zeros")
		noOpen(t, job, p, size, make([]byte, api.MaxPlain+16), api.ErrOpen, "as many as may be")
		noOpen(t, job, p, size, make([]byte, api.MaxPlain+17), api.ErrLimit, "one more than may be")
		if l, e := Open(job, p, size, sealed); e != api.OK || !slices.Equal(l, as(list(size-1), size)) {
			t.Errorf("P10.2: Open behind others, size %d: %+v, error %d", size, l, e)
		}
	}
}

// TestOpenPlaces: at a place of which any one bit of any one number is another.
func TestOpenPlaces(t *testing.T) {
	job, p := someJob(), usual()
	for _, size := range []int{1, 3} {
		sealed := seal(t, job, p, list(size), size)
		for bit := range 64 {
			n := uint64(1) << bit
			for name, turn := range map[string]func(*api.Place){
				"phase":   func(p *api.Place) { p.Phase ^= int(n) },
				"round":   func(p *api.Place) { p.Round ^= int(n) },
				"address": func(p *api.Place) { p.Addr ^= int(n) },
				"attempt": func(p *api.Place) { p.Attempt ^= n },
				"index":   func(p *api.Place) { p.Index ^= int(n) },
			} {
				q := p
				turn(&q)
				noOpen(t, job, q, size, sealed, api.ErrOpen, "another "+name)
			}
		}
		noOpen(t, job, api.Place{}, size, sealed, api.ErrOpen, "the zero place")
		q := p
		q.Phase, q.Round = p.Round, p.Phase
		noOpen(t, job, q, size, sealed, api.ErrOpen, "phase and round turned")
		q = p
		q.Round, q.Addr = p.Addr, p.Round
		noOpen(t, job, q, size, sealed, api.ErrOpen, "round and address turned")
	}
}

// TestOpenJobs: with a job's key of which any one bit is another.
func TestOpenJobs(t *testing.T) {
	sealed := seal(t, someJob(), usual(), list(2), 2)
	for bit := range 256 {
		job := someJob()
		job[bit/8] ^= 1 << (bit % 8)
		noOpen(t, job, usual(), 2, sealed, api.ErrOpen, "another job")
	}
	noOpen(t, [32]byte{}, usual(), 2, sealed, api.ErrOpen, "a job of zeros")
}

// TestOpenSizes: with another size, and with those that may not be, whatever the
// bytes are.
func TestOpenSizes(t *testing.T) {
	job, p := someJob(), usual()
	for _, size := range sizes() {
		sealed := seal(t, job, p, list(size), size)
		for _, other := range sizes() {
			if other != size {
				noOpen(t, job, p, other, sealed, api.ErrOpen, "another size")
			}
		}
		for _, other := range noSizes() {
			noOpen(t, job, p, other, sealed, api.ErrArg, "which may not be")
		}
	}
	for _, other := range noSizes() {
		noOpen(t, job, p, other, nil, api.ErrArg, "which may not be, and nil")
		noOpen(t, job, p, other, make([]byte, 15), api.ErrArg, "which may not be, and too few bytes")
		noOpen(t, job, p, other, make([]byte, api.MaxPlain+17), api.ErrArg, "which may not be, and too many bytes")
		noOpen(t, job, p, other, sealedBy(t, job, p, 32*other, nil), api.ErrArg, "which may not be, though it was sealed so")
	}
}

// TestOpenOdd: bytes that are sealed for the place, but are no block's: Take's
// error.
func TestOpenOdd(t *testing.T) {
	job, p := someJob(), usual()
	for _, size := range sizes() {
		plain := wantPack(list(size), size)
		for n := range len(plain) {
			noOpen(t, job, p, size, sealedBy(t, job, p, 32*size, plain[:n]), api.ErrShort, "sealed too short")
		}
		noOpen(t, job, p, size, sealedBy(t, job, p, 32*size, append(bytes.Clone(plain), 0)), api.ErrForm, "sealed too long")
		noOpen(t, job, p, size, sealedBy(t, job, p, 32*size, append(bytes.Clone(plain), plain...)), api.ErrForm, "sealed twice as long")
		noOpen(t, job, p, size, sealedBy(t, job, p, 32*size, make([]byte, api.MaxPlain)), api.ErrForm, "sealed as long as may be")
		for i := range size {
			odd := bytes.Clone(plain)
			odd[32*i] = 2
			noOpen(t, job, p, size, sealedBy(t, job, p, 32*size, odd), api.ErrForm, "a record that is none")
			odd[32*i] = 1
			noOpen(t, job, p, size, sealedBy(t, job, p, 32*size, odd), api.ErrForm, "a dead one that says more")
		}
		// The bytes beside tell the length of what is packed, not of what is sealed,
		// nor how many records there are.
		noOpen(t, job, p, size, sealedBy(t, job, p, Size(size), plain), api.ErrOpen, "sealed with the sealed length beside")
		noOpen(t, job, p, size, sealedBy(t, job, p, size, plain), api.ErrOpen, "sealed with the size beside")
	}
}

// behind are the items of a list with eight others, all alike, in the room behind
// its end; and the whole of it.
func behind[T any](list []T, other T) (short, whole []T) {
	whole = slices.Concat(list, slices.Repeat([]T{other}, 8))
	return whole[:len(list)], whole
}

// TestNotChanged: what is handed in, and the room behind its end, is as it was,
// and what stands in that room counts for nothing.
func TestNotChanged(t *testing.T) {
	job, p := someJob(), usual()
	for _, size := range sizes() {
		for n := range size + 1 {
			l, all := behind(list(n), api.Record{Dead: true, Key: 77})
			kept := slices.Clone(all)
			packed, _ := Pack(l, size)
			sealed := seal(t, job, p, l, size)
			if !slices.Equal(all, kept) {
				t.Errorf("R3: Pack or Seal of %d records, size %d, changes them, or what is behind", n, size)
			}
			if !bytes.Equal(packed, wantPack(list(n), size)) {
				t.Errorf("R3: Pack of %d records, size %d: what is behind counts", n, size)
			}
			for _, bytesOf := range [][]byte{packed, sealed} {
				b, whole := behind(bytesOf, 0xa5)
				kept := bytes.Clone(whole)
				Take(b, size)
				Open(job, p, size, b)
				Take(b, size+1)
				Open(job, p, size, b[:len(b)-1])
				if !bytes.Equal(whole, kept) {
					t.Errorf("R3: Take or Open of %d bytes, size %d, changes them, or what is behind", len(b), size)
				}
			}
			b, _ := behind(sealed, 0)
			if got, e := Open(job, p, size, b); e != api.OK || !slices.Equal(got, as(list(n), size)) {
				t.Errorf("R3: Open of %d records, size %d: what is behind counts: %+v, error %d", n, size, got, e)
			}
			noTake(t, packed[:32*size-1], size, api.ErrShort, "the last one behind the end")
		}
	}
	if job != someJob() || p != usual() {
		t.Errorf("R3: a key or a place is changed: %x, %+v", job, p)
	}
}

// TestNotKept: an answer stays, whatever is done to what was handed in, and to
// other answers with the room behind their ends.
func TestNotKept(t *testing.T) {
	job, p := someJob(), usual()
	scribble := func(b []byte) {
		for i := range b[:cap(b)] {
			b[:cap(b)][i] ^= 0xff
		}
	}
	overwrite := func(l []api.Record) {
		for i := range l[:cap(l)] {
			l[:cap(l)][i] = api.Record{Key: -77}
		}
	}
	for _, size := range sizes() {
		for n := range size + 1 {
			l := list(n)
			packed, _ := Pack(l, size)
			other, _ := Pack(l, size)
			sealed, more := seal(t, job, p, l, size), seal(t, job, p, l, size)
			overwrite(l)
			scribble(other)
			scribble(more)
			if !bytes.Equal(packed, wantPack(list(n), size)) || !bytes.Equal(sealed, sealedBy(t, job, p, 32*size, packed)) {
				t.Errorf("R3: Pack or Seal of %d records, size %d, shares memory", n, size)
			}
			taken, _ := Take(packed, size)
			second, _ := Take(packed, size)
			opened, _ := Open(job, p, size, sealed)
			third, _ := Open(job, p, size, sealed)
			overwrite(second)
			overwrite(third)
			scribble(packed)
			scribble(sealed)
			if want := as(list(n), size); !slices.Equal(taken, want) || !slices.Equal(opened, want) {
				t.Errorf("R3: Take or Open of %d records, size %d, shares memory: %+v, %+v", n, size, taken, opened)
			}
		}
	}
}

// TestNilAndEmpty: nil and a list of none are the same.
func TestNilAndEmpty(t *testing.T) {
	for _, size := range append(sizes(), noSizes()...) {
		a, e := Pack(nil, size)
		b, f := Pack([]api.Record{}, size)
		if !bytes.Equal(a, b) || e != f {
			t.Errorf("R3: Pack of nil and of none, size %d: %x, error %d; %x, error %d", size, a, e, b, f)
		}
		a, e = Seal(someJob(), usual(), nil, size)
		b, f = Seal(someJob(), usual(), []api.Record{}, size)
		if !bytes.Equal(a, b) || e != f {
			t.Errorf("R3: Seal of nil and of none, size %d: %x, error %d; %x, error %d", size, a, e, b, f)
		}
	}
}

// TestFilledAgain: a block's records may be ranged over again, and left
// anywhere.
func TestFilledAgain(t *testing.T) {
	for _, row := range []struct{ n, size int }{{0, 3}, {1, 3}, {2, 3}, {3, 3}, {5, 8}, {0, 0}} {
		all := filled(list(row.n), row.size)
		for _, stop := range []int{0, 1, 2, 3, 4, 8, 9, 1, 0} {
			want := as(list(row.n), row.size)
			if stop > 0 {
				want = want[:min(stop, len(want))]
			}
			var got []api.Record
			for r := range all {
				if got = append(got, r); len(got) == stop {
					break
				}
			}
			if !slices.Equal(got, want) {
				t.Errorf("R1: %d records up to %d, left behind %d: %+v", row.n, row.size, stop, got)
			}
		}
	}
}

// TestTakenAgain: a block's pieces may be ranged over again, and left anywhere.
func TestTakenAgain(t *testing.T) {
	b := wantPack(list(2), 4)
	b[64] = 2
	all := taken(b)
	for _, stop := range []int{0, 1, 2, 3, 4, 5, 1, 0} {
		want := []api.Record{list(2)[0], list(2)[1], {}, dead()}
		errors := []api.Errno{api.OK, api.OK, api.ErrForm, api.OK}
		if stop > 0 {
			want, errors = want[:min(stop, 4)], errors[:min(stop, 4)]
		}
		var got []api.Record
		var told []api.Errno
		for r, e := range all {
			got, told = append(got, r), append(told, e)
			if len(got) == stop {
				break
			}
		}
		if !slices.Equal(got, want) || !slices.Equal(told, errors) {
			t.Errorf("R1: pieces, left behind %d: %+v, errors %d", stop, got, told)
		}
	}
}

// TestSideBySide: calls know nothing of one another.
func TestSideBySide(t *testing.T) {
	var wait sync.WaitGroup
	for first := range 8 {
		wait.Go(func() {
			chance := rand.New(rand.NewPCG(10, uint64(first)))
			for i := range 40 {
				p, size := api.Place{Phase: first, Addr: i, Attempt: chance.Uint64()}, 1+chance.IntN(8)
				l := mixed(chance, chance.IntN(size+1))
				sealed, e := Seal(someJob(), p, l, size)
				got, f := Open(someJob(), p, size, sealed)
				if e != api.OK || f != api.OK || !slices.Equal(got, as(l, size)) {
					t.Errorf("R2: %+v, size %d, beside others: %+v, errors %d, %d", l, size, got, e, f)
				}
			}
		})
	}
	wait.Wait()
}

func BenchmarkSealOpen(b *testing.B) {
	l := list(api.MaxBlock)
	for b.Loop() {
		sealed, _ := Seal(someJob(), usual(), l, api.MaxBlock)
		Open(someJob(), usual(), api.MaxBlock, sealed)
	}
}
