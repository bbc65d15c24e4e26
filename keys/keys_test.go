package keys

import (
	"bytes"
	standard "crypto/hkdf"
	"crypto/sha256"
	"encoding/binary"
	"fmt"
	"iter"
	"math"
	"math/rand/v2"
	"slices"
	"sync"
	"testing"

	"domino/api"
	"domino/hkdf"
)

// someKey is a key in which all bytes are unlike.
func someKey() [32]byte {
	var key [32]byte
	for i := range key {
		key[i] = byte(i*37 + 11)
	}
	return key
}

// somePlace is a place in which all numbers are unlike, and all bytes of each.
func somePlace() api.Place {
	return api.Place{
		Phase:   0x0102030405060708,
		Round:   0x1112131415161718,
		Addr:    0x2122232425262728,
		Attempt: 0x3132333435363738,
		Index:   0x4142434445464748,
	}
}

// ints are numbers of both signs at which all is tried.
func ints() []int {
	return []int{
		0, 1, -1, 2, -2, 9, 10, 11, -9, -10, -11, 99, 100, 101, -100, 127, 128, -128, -129,
		255, 256, 257, -255, -256, -257, 1000, 65535, 65536, -65536,
		math.MaxInt32, math.MinInt32, 1 << 31, math.MaxUint32, 1 << 32, 1<<32 + 1, -(1 << 32), -(1 << 32) - 1,
		1000000000000000000, math.MaxInt - 1, math.MaxInt, math.MinInt, math.MinInt + 1,
	}
}

// naturals are numbers of no sign at which all is tried.
func naturals() []uint64 {
	return []uint64{
		0, 1, 2, 9, 10, 11, 99, 100, 101, 127, 128, 255, 256, 257, 1000, 65535, 65536,
		math.MaxInt32, 1 << 31, math.MaxUint32, 1 << 32, 1<<32 + 1, math.MaxInt64, 1 << 63, 1<<63 + 1,
		10000000000000000000, math.MaxUint64 - 1, math.MaxUint64,
	}
}

// fields are setters, one for each number of a place, that take any row of 64
// bits.
func fields() map[string]func(*api.Place, uint64) {
	return map[string]func(*api.Place, uint64){
		"Phase":   func(p *api.Place, n uint64) { p.Phase = int(n) },
		"Round":   func(p *api.Place, n uint64) { p.Round = int(n) },
		"Addr":    func(p *api.Place, n uint64) { p.Addr = int(n) },
		"Attempt": func(p *api.Place, n uint64) { p.Attempt = n },
		"Index":   func(p *api.Place, n uint64) { p.Index = int(n) },
	}
}

// rows are all of ints and naturals, as rows of 64 bits, each once.
func rows() []uint64 {
	all := naturals()
	for _, n := range ints() {
		all = append(all, uint64(n))
	}
	slices.Sort(all)
	return slices.Compact(all)
}

// places are those with each of rows in each field, beside zeros and beside
// somePlace; each once.
func places() []api.Place {
	seen := map[api.Place]bool{}
	var all []api.Place
	for _, base := range []api.Place{{}, somePlace(), {Phase: -1, Round: -1, Addr: -1, Attempt: math.MaxUint64, Index: -1}} {
		for _, set := range fields() {
			for _, n := range rows() {
				p := base
				set(&p, n)
				if !seen[p] {
					seen[p] = true
					all = append(all, p)
				}
			}
		}
	}
	return all
}

// told is a word, and behind it eight bytes of each number, the lowest first, by
// what the library has for them.
func told(word string, numbers ...uint64) []byte {
	b := []byte(word)
	for _, n := range numbers {
		b = binary.LittleEndian.AppendUint64(b, n)
	}
	return b
}

// holds tells where a key is not hkdf.Key of no salt, of the one above it and of
// the info; nor what the library has for that.
func holds(t *testing.T, got, above [32]byte, info []byte, what string) {
	t.Helper()
	if want := hkdf.Key(nil, above[:], info); got != want {
		t.Errorf("P8.1: %s: %x, not %x", what, got, want)
	}
	want, err := standard.Key(sha256.New, above[:], nil, string(info), 32)
	if err != nil {
		t.Fatal(err)
	}
	if !bytes.Equal(got[:], want) {
		t.Errorf("P8.1: %s: %x, not as the library has it, %x", what, got, want)
	}
}

// TestExample: the chapter's example.
func TestExample(t *testing.T) {
	if got := Name(api.Place{}); got != "p0.r0.a0.t0.i0" {
		t.Errorf("P8.2: the chapter's example: %q", got)
	}
}

// TestBytes: the keys of a few numbers, their bytes written out one by one.
func TestBytes(t *testing.T) {
	key := someKey()
	holds(t, Job(key, 0x0102030405060708), key, []byte("job\x08\x07\x06\x05\x04\x03\x02\x01"), "Job")
	holds(t, Job(key, 0), key, []byte("job\x00\x00\x00\x00\x00\x00\x00\x00"), "Job of 0")
	holds(t, Place(key, somePlace()), key, []byte("place\x08\x07\x06\x05\x04\x03\x02\x01\x18\x17\x16\x15\x14\x13\x12\x11\x28\x27\x26\x25\x24\x23\x22\x21"), "Place")
	holds(t, Place(key, api.Place{Phase: -1, Round: 256, Addr: -256}), key, []byte("place\xff\xff\xff\xff\xff\xff\xff\xff\x00\x01\x00\x00\x00\x00\x00\x00\x00\xff\xff\xff\xff\xff\xff\xff"), "Place below 0")
	holds(t, Sender(key, 3, 0x0102030405060708), key, []byte("sender\x03\x00\x00\x00\x00\x00\x00\x00\x08\x07\x06\x05\x04\x03\x02\x01"), "Sender")
	holds(t, Sender(key, -2, 1<<32), key, []byte("sender\xfe\xff\xff\xff\xff\xff\xff\xff\x00\x00\x00\x00\x01\x00\x00\x00"), "Sender below 0")
	holds(t, Journal(key), key, []byte("journal"), "Journal")
}

// TestJob: all numbers, with more than one key above.
func TestJob(t *testing.T) {
	for _, master := range [][32]byte{{}, someKey(), {31: 1}} {
		for _, id := range rows() {
			holds(t, Job(master, id), master, told("job", id), fmt.Sprintf("Job of %d", id))
		}
	}
}

// TestPlace: each number in each field.
func TestPlace(t *testing.T) {
	for _, p := range places() {
		info := told("place", uint64(p.Phase), uint64(p.Round), uint64(p.Addr))
		holds(t, Place(someKey(), p), someKey(), info, fmt.Sprintf("Place of %+v", p))
	}
	holds(t, Place([32]byte{}, somePlace()), [32]byte{}, told("place", 0x0102030405060708, 0x1112131415161718, 0x2122232425262728), "Place of a job of zeros")
}

// TestPlaceAlone: which attempt made a block, and at which index, plays no part
// in its key.
func TestPlaceAlone(t *testing.T) {
	for _, base := range []api.Place{{}, somePlace(), {Phase: 5, Round: 12, Addr: 3}} {
		want := Place(someKey(), base)
		for _, attempt := range naturals() {
			for _, index := range ints() {
				p := base
				p.Attempt, p.Index = attempt, index
				if Place(someKey(), p) != want {
					t.Errorf("P8.1: Place: attempt %d or index %d plays a part", attempt, index)
				}
			}
		}
	}
}

// TestSender: each number with each start.
func TestSender(t *testing.T) {
	for _, from := range ints() {
		for _, start := range naturals() {
			holds(t, Sender(someKey(), from, start), someKey(), told("sender", uint64(from), start), fmt.Sprintf("Sender of %d, %d", from, start))
		}
	}
	holds(t, Sender([32]byte{}, 1, 2), [32]byte{}, told("sender", 1, 2), "Sender of a job of zeros")
}

// TestJournal: nothing but the key above plays a part.
func TestJournal(t *testing.T) {
	for _, job := range [][32]byte{{}, someKey(), {31: 1}, Job(someKey(), 7)} {
		holds(t, Journal(job), job, []byte("journal"), "Journal")
	}
}

// TestEveryBit: each bit of the key above, and of each number, makes another
// key; and so does what it is for.
func TestEveryBit(t *testing.T) {
	seen := map[[32]byte]string{}
	note := func(key [32]byte, what string) {
		if was, ok := seen[key]; ok {
			t.Errorf("P8.1: the key of %s is that of %s", what, was)
		}
		seen[key] = what
	}
	above := func(key [32]byte, what string) {
		note(Job(key, 0), "Job, "+what)
		note(Place(key, api.Place{}), "Place, "+what)
		note(Sender(key, 0, 0), "Sender, "+what)
		note(Journal(key), "Journal, "+what)
	}
	above(someKey(), "all zeros")
	for bit := range 256 {
		key := someKey()
		key[bit/8] ^= 1 << (bit % 8)
		above(key, fmt.Sprintf("bit %d of the key above", bit))
	}
	for bit := range 64 {
		n := uint64(1) << bit
		what := fmt.Sprintf("bit %d", bit)
		note(Job(someKey(), n), "Job, "+what)
		note(Sender(someKey(), int(n), 0), "Sender, from, "+what)
		note(Sender(someKey(), 0, n), "Sender, start, "+what)
		note(Place(someKey(), api.Place{Phase: int(n)}), "Place, Phase, "+what)
		note(Place(someKey(), api.Place{Round: int(n)}), "Place, Round, "+what)
		note(Place(someKey(), api.Place{Addr: int(n)}), "Place, Addr, "+what)
	}
}

// TestNonce: eight bytes of the one, and the four lowest of the other; what is
// above those plays no part.
func TestNonce(t *testing.T) {
	if got := Nonce(0x0102030405060708, 0x1112131415161718); got != [12]byte{8, 7, 6, 5, 4, 3, 2, 1, 0x18, 0x17, 0x16, 0x15} {
		t.Errorf("P8.1: Nonce: %x", got)
	}
	if got := Nonce(math.MaxUint64, -256); got != [12]byte{255, 255, 255, 255, 255, 255, 255, 255, 0, 255, 255, 255} {
		t.Errorf("P8.1: Nonce below 0: %x", got)
	}
	for _, a := range naturals() {
		for _, i := range ints() {
			want := binary.LittleEndian.AppendUint32(told("", a), uint32(uint64(i)))
			if got := Nonce(a, i); !bytes.Equal(got[:], want) {
				t.Errorf("P8.1: Nonce of %d, %d: %x, not %x", a, i, got, want)
			}
			if over := i ^ 1<<32; Nonce(a, over) != Nonce(a, i) {
				t.Errorf("P8.1: Nonce of %d, %d: not the four lowest bytes alone", a, over)
			}
		}
	}
	for bit := range 96 {
		var want [12]byte
		want[bit/8] = 1 << (bit % 8)
		if bit < 64 && Nonce(1<<bit, 0) != want || bit >= 64 && Nonce(0, 1<<(bit-64)) != want {
			t.Errorf("P8.1: Nonce: bit %d is not at its place", bit)
		}
	}
}

// TestAad: six numbers, in order, of eight bytes each.
func TestAad(t *testing.T) {
	want := []byte{
		8, 7, 6, 5, 4, 3, 2, 1,
		0x18, 0x17, 0x16, 0x15, 0x14, 0x13, 0x12, 0x11,
		0x28, 0x27, 0x26, 0x25, 0x24, 0x23, 0x22, 0x21,
		0x38, 0x37, 0x36, 0x35, 0x34, 0x33, 0x32, 0x31,
		0x48, 0x47, 0x46, 0x45, 0x44, 0x43, 0x42, 0x41,
		0x58, 0x57, 0x56, 0x55, 0x54, 0x53, 0x52, 0x51,
	}
	if got := Aad(somePlace(), 0x5152535455565758); !bytes.Equal(got, want) {
		t.Errorf("P8.1: Aad: %x", got)
	}
	if got := Aad(api.Place{}, 0); !bytes.Equal(got, make([]byte, 48)) {
		t.Errorf("P8.1: Aad of zeros: %x", got)
	}
	for _, p := range places() {
		for _, size := range []int{0, 1, -1, 32, 255, 256, 1 << 32, math.MaxInt, math.MinInt} {
			want := told("", uint64(p.Phase), uint64(p.Round), uint64(p.Addr), p.Attempt, uint64(p.Index), uint64(size))
			if got := Aad(p, size); !bytes.Equal(got, want) || len(got) != 48 {
				t.Errorf("P8.1: Aad of %+v, %d: %x, not %x", p, size, got, want)
			}
		}
	}
	for _, size := range ints() {
		if got := Aad(somePlace(), size); !bytes.Equal(got[40:], told("", uint64(size))) {
			t.Errorf("P8.1: Aad with %d: %x", size, got)
		}
	}
}

// TestName: each number in each field, as the library has its digits.
func TestName(t *testing.T) {
	for _, row := range []struct {
		want string
		p    api.Place
	}{
		{"p5.r12.a3.t18446744073709551615.i1", api.Place{Phase: 5, Round: 12, Addr: 3, Attempt: math.MaxUint64, Index: 1}},
		{"p-1.r-20.a-300.t9223372036854775808.i-4000", api.Place{Phase: -1, Round: -20, Addr: -300, Attempt: 1 << 63, Index: -4000}},
		{"p10.r100.a1000.t10000.i100000", api.Place{Phase: 10, Round: 100, Addr: 1000, Attempt: 10000, Index: 100000}},
		{"p9223372036854775807.r-9223372036854775808.a0.t0.i-9223372036854775808", api.Place{Phase: math.MaxInt64, Round: math.MinInt64, Index: math.MinInt64}},
		{"p9.r99.a4294967296.t20.i-10", api.Place{Phase: 9, Round: 99, Addr: 1 << 32, Attempt: 20, Index: -10}},
	} {
		if got := Name(row.p); got != row.want {
			t.Errorf("P8.2: Name of %+v: %q, not %q", row.p, got, row.want)
		}
	}
	for _, p := range places() {
		want := fmt.Sprintf("p%d.r%d.a%d.t%d.i%d", p.Phase, p.Round, p.Addr, p.Attempt, p.Index)
		if got := Name(p); got != want {
			t.Errorf("P8.2: Name of %+v: %q, not %q", p, got, want)
		}
	}
}

// TestDigits: numbers in turn, about all that get one digit more.
func TestDigits(t *testing.T) {
	var all []int
	for n := range 2100 {
		all = append(all, n, -n)
	}
	for ten := 1; ten <= math.MaxInt/10; ten *= 10 {
		all = append(all, ten-1, ten, ten+1, 9*ten, -ten, 1-ten, -ten-1, -9*ten)
	}
	for _, n := range all {
		p := api.Place{Phase: n, Round: -n, Addr: n, Attempt: uint64(n), Index: n}
		want := fmt.Sprintf("p%d.r%d.a%d.t%d.i%d", n, -n, n, uint64(n), n)
		if got := Name(p); got != want {
			t.Errorf("P8.2: Name of %+v: %q, not %q", p, got, want)
		}
	}
}

// TestUnlike: unlike places have unlike names, unlike bytes beside, and unlike
// keys or nonces.
func TestUnlike(t *testing.T) {
	names, asides, uses := map[string]api.Place{}, map[string]api.Place{}, map[api.Use]api.Place{}
	for _, p := range places() {
		name, aside := Name(p), string(Aad(p, 64))
		if was, ok := names[name]; ok {
			t.Errorf("what follows: %+v and %+v are both %q", p, was, name)
		}
		if was, ok := asides[aside]; ok {
			t.Errorf("what follows: %+v and %+v have the same bytes beside", p, was)
		}
		names[name], asides[aside] = p, p
		// A nonce tells no more of an index than its four lowest bytes.
		if p.Index < 0 || p.Index > math.MaxUint32 {
			continue
		}
		use := api.Use{Key: Place(someKey(), p), Nonce: Nonce(p.Attempt, p.Index)}
		if was, ok := uses[use]; ok {
			t.Errorf("what follows: %+v and %+v have the same key and nonce", p, was)
		}
		uses[use] = p
	}
}

// TestUnlikeFields: two numbers, in each field alone, and in two fields turned.
func TestUnlikeFields(t *testing.T) {
	for name, set := range fields() {
		for i, n := range rows() {
			for _, m := range rows()[:i] {
				p, q := somePlace(), somePlace()
				set(&p, n)
				set(&q, m)
				if Name(p) == Name(q) || bytes.Equal(Aad(p, 64), Aad(q, 64)) {
					t.Errorf("what follows: %d and %d as %s are not told apart", n, m, name)
				}
			}
		}
		for other, turn := range fields() {
			p, q := api.Place{}, api.Place{}
			set(&p, 1)
			turn(&q, 1)
			if name != other && (Name(p) == Name(q) || bytes.Equal(Aad(p, 64), Aad(q, 64))) {
				t.Errorf("what follows: %s and %s are not told apart", name, other)
			}
		}
	}
	for i, size := range ints() {
		for _, other := range ints()[:i] {
			if bytes.Equal(Aad(somePlace(), size), Aad(somePlace(), other)) {
				t.Errorf("P8.1: Aad: %d and %d bytes are not told apart", size, other)
			}
		}
	}
}

// chancePlace is a place of chance, with numbers of all lengths.
func chancePlace(chance *rand.Rand) api.Place {
	one := func() uint64 { return uint64(int64(chance.Uint64()) >> chance.IntN(64)) }
	return api.Place{Phase: int(one()), Round: int(one()), Addr: int(one()), Attempt: one(), Index: int(one())}
}

// TestBack: a name, and the bytes beside, tell the place that they are of.
func TestBack(t *testing.T) {
	chance := rand.New(rand.NewPCG(8, 8))
	for range 3000 {
		p := chancePlace(chance)
		var q api.Place
		if _, err := fmt.Sscanf(Name(p), "p%d.r%d.a%d.t%d.i%d", &q.Phase, &q.Round, &q.Addr, &q.Attempt, &q.Index); err != nil || q != p {
			t.Errorf("P8.2: Name of %+v: %q, which is %+v", p, Name(p), q)
		}
		size := int(chance.Uint64())
		b := Aad(p, size)
		if len(b) != 48 {
			t.Fatalf("P8.1: Aad: %d bytes", len(b))
		}
		n := func(i int) uint64 { return binary.LittleEndian.Uint64(b[8*i:]) }
		q = api.Place{Phase: int(n(0)), Round: int(n(1)), Addr: int(n(2)), Attempt: n(3), Index: int(n(4))}
		if q != p || int(n(5)) != size {
			t.Errorf("P8.1: Aad of %+v, %d: %x", p, size, b)
		}
	}
}

// TestNewMemory: who writes into what is handed out, or into the room behind it,
// changes nothing else.
func TestNewMemory(t *testing.T) {
	scribble := func(b []byte) {
		for i := range b[:cap(b)] {
			b[:cap(b)][i] ^= 0xff
		}
	}
	want := told("", 1, 2, 3, 4, 5, 64)
	p := api.Place{Phase: 1, Round: 2, Addr: 3, Attempt: 4, Index: 5}
	first, second := Aad(p, 64), Aad(p, 64)
	scribble(second)
	if !bytes.Equal(first, want) {
		t.Errorf("R3: bytes beside share memory: %x", first)
	}
	scribble(first)
	if third := Aad(p, 64); !bytes.Equal(third, want) {
		t.Errorf("R3: Aad, behind others that were written over: %x", third)
	}
	key := Place(someKey(), p)
	nonce := Nonce(4, 5)
	scribble(key[:])
	scribble(nonce[:])
	holds(t, Place(someKey(), p), someKey(), told("place", 1, 2, 3), "Place, behind another that was written over")
	if Nonce(4, 5) != [12]byte{4, 8: 5} {
		t.Errorf("R3: Nonce, behind another that was written over: %x", Nonce(4, 5))
	}
}

// TestNotChanged: what is handed in is as it was.
func TestNotChanged(t *testing.T) {
	key, p := someKey(), somePlace()
	Job(key, 1)
	Place(key, p)
	Sender(key, 1, 2)
	Journal(key)
	Aad(p, 3)
	Name(p)
	if key != someKey() || p != somePlace() {
		t.Errorf("R3: a key or a place is changed: %x, %+v", key, p)
	}
}

// left are the numbers of a sequence, up to that behind which it is left; 0: it
// is not.
func left(numbers iter.Seq[uint64], stop int) []uint64 {
	var all []uint64
	for n := range numbers {
		if all = append(all, n); len(all) == stop {
			break
		}
	}
	return all
}

// TestNumbersAgain: a sequence may be ranged over again, and left anywhere.
func TestNumbersAgain(t *testing.T) {
	for _, row := range []struct {
		numbers iter.Seq[uint64]
		want    []uint64
	}{
		{inOrder(), nil},
		{inOrder(7), []uint64{7}},
		{inOrder(3, 1, math.MaxUint64, 2), []uint64{3, 1, math.MaxUint64, 2}},
		{spot(api.Place{Phase: 1, Round: -1, Addr: 1 << 32, Attempt: 4, Index: 5}), []uint64{1, math.MaxUint64, 1 << 32}},
	} {
		for _, stop := range []int{0, 1, 2, 3, 4, 5, 1, 0} {
			want := row.want
			if stop > 0 {
				want = want[:min(stop, len(want))]
			}
			if got := left(row.numbers, stop); !slices.Equal(got, want) {
				t.Errorf("R1: left behind %d numbers: %d, not %d", stop, got, want)
			}
		}
	}
}

// TestSideBySide: calls know nothing of one another.
func TestSideBySide(t *testing.T) {
	all := places()
	var wait sync.WaitGroup
	for first := range 8 {
		wait.Go(func() {
			for i := first; i < len(all); i += 8 {
				p := all[i]
				info := told("place", uint64(p.Phase), uint64(p.Round), uint64(p.Addr))
				key := someKey()
				if Place(key, p) != hkdf.Key(nil, key[:], info) || !bytes.Equal(Aad(p, 9)[:24], info[5:]) || Name(p) != fmt.Sprintf("p%d.r%d.a%d.t%d.i%d", p.Phase, p.Round, p.Addr, p.Attempt, p.Index) {
					t.Errorf("R2: %+v, beside others", p)
				}
			}
		})
	}
	wait.Wait()
}

func BenchmarkPlace(b *testing.B) {
	for b.Loop() {
		Place(someKey(), somePlace())
	}
}
