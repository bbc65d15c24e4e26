package poly

import (
	"bytes"
	"encoding/hex"
	"math/big"
	"math/rand/v2"
	"slices"
	"strings"
	"sync"
	"testing"
)

// long is n bytes of all kinds; always the same.
func long(n int) []byte {
	b := make([]byte, n)
	for i := range b {
		b[i] = byte(i*149 + i>>8 + 37)
	}
	return b
}

// scribble writes over all of b.
func scribble(b []byte) {
	for i := range b {
		b[i] ^= 0xff
	}
}

// ones is n bytes, all ones.
func ones(n int) []byte {
	return bytes.Repeat([]byte{0xff}, n)
}

// some is n bytes of chance.
func some(chance *rand.Rand, n int) []byte {
	b := make([]byte, n)
	for i := range b {
		b[i] = byte(chance.Uint32())
	}
	return b
}

// someKey is a key in which all bytes are unlike.
func someKey() [32]byte {
	return [32]byte(long(32))
}

// keyOf is a key of two halves.
func keyOf(r, s []byte) [32]byte {
	return [32]byte(append(bytes.Clone(r), s...))
}

// unhex is the bytes that digits of 16 say; blanks play no part.
func unhex(t *testing.T, digits string) []byte {
	t.Helper()
	b, err := hex.DecodeString(strings.Join(strings.Fields(digits), ""))
	if err != nil {
		t.Fatal(err)
	}
	return b
}

// power is 2^n.
func power(n uint) *big.Int {
	return new(big.Int).Lsh(big.NewInt(1), n)
}

// prime is 2^130 - 5.
func prime() *big.Int {
	return new(big.Int).Sub(power(130), big.NewInt(5))
}

// bigOf is the number of bytes, the lowest first.
func bigOf(b []byte) *big.Int {
	turned := bytes.Clone(b)
	slices.Reverse(turned)
	return new(big.Int).SetBytes(turned)
}

// bytesOf are the n lowest bytes of a number, the lowest first.
func bytesOf(x *big.Int, n int) []byte {
	b := new(big.Int).Mod(x, power(uint(8*n))).FillBytes(make([]byte, n))
	slices.Reverse(b)
	return b
}

// bigNumber is what limbs are, all in all.
func bigNumber(n number) *big.Int {
	x := new(big.Int)
	for i, limb := range n {
		x.Add(x, new(big.Int).Lsh(new(big.Int).SetUint64(limb), uint(26*i)))
	}
	return x
}

// wantClamp is Clamp by the words of the chapter.
func wantClamp(key [32]byte) [16]byte {
	r := [16]byte(key[:16])
	for _, i := range []int{3, 7, 11, 15} {
		r[i] %= 16
	}
	for _, i := range []int{4, 8, 12} {
		r[i] -= r[i] % 4
	}
	return r
}

// wantSum is what a is behind all of b, by the words of the chapter.
func wantSum(key [32]byte, b []byte) *big.Int {
	clamped := wantClamp(key)
	r, a := bigOf(clamped[:]), new(big.Int)
	for len(b) > 0 {
		n := min(16, len(b))
		a.Add(a, bigOf(append(bytes.Clone(b[:n]), 1)))
		a.Mod(a.Mul(a, r), prime())
		b = b[n:]
	}
	return a
}

// wantTag is Tag of b, by the words of the chapter.
func wantTag(key [32]byte, b []byte) [16]byte {
	a := wantSum(key, b)
	return [16]byte(bytesOf(a.Add(a, bigOf(key[16:])), 16))
}

// check holds Tag of one part against the chapter's words.
func check(t *testing.T, key [32]byte, b []byte) {
	t.Helper()
	if got, want := Tag(key, b), wantTag(key, b); got != want {
		t.Errorf("P6.1: Tag of %d bytes (%.40x) with the key %x: %x, not %x", len(b), b, key, got, want)
	}
}

// edgeKeys are keys all zeros, all ones and nearly so, and with few bits.
func edgeKeys() [][32]byte {
	keys := [][32]byte{
		{}, someKey(),
		keyOf(ones(16), ones(16)), keyOf(ones(16), make([]byte, 16)), keyOf(make([]byte, 16), ones(16)),
		keyOf([]byte("\x01"+strings.Repeat("\x00", 15)), make([]byte, 16)),
		keyOf([]byte("\x01"+strings.Repeat("\x00", 15)), ones(16)),
		keyOf([]byte("\x02"+strings.Repeat("\x00", 15)), ones(16)),
	}
	for bit := range 128 {
		one, less := [32]byte{}, [32]byte(ones(32))
		one[bit/8] |= 1 << (bit % 8)
		one[16+bit/8] |= 1 << (bit % 8)
		less[bit/8] ^= 1 << (bit % 8)
		less[16+bit/8] ^= 1 << (bit % 8)
		keys = append(keys, one, less)
	}
	return keys
}

// TestExample: the chapter's example.
func TestExample(t *testing.T) {
	chance := rand.New(rand.NewPCG(1, 2))
	for n := range 100 {
		for _, b := range [][]byte{make([]byte, n), ones(n), long(n), some(chance, n)} {
			if got := Tag([32]byte{}, b); got != [16]byte{} {
				t.Errorf("P6.1: the chapter's example, of %d bytes: %x", n, got)
			}
		}
	}
}

const submission = "Any submission to the IETF intended by the Contributor for publication as all or part of an IETF Internet-Draft or RFC and any statement made within the context of an IETF activity is considered an \"IETF Contribution\". Such statements include oral statements in IETF sessions, as well as written and electronic communications made at any time or place, which are addressed to"

const brillig = "'Twas brillig, and the slithy toves\nDid gyre and gimble in the wabe:\nAll mimsy were the borogoves,\nAnd the mome raths outgrabe."

// TestStandard: the examples of RFC 8439: of 2.5.2, and the eleven of A.3.
func TestStandard(t *testing.T) {
	zeros, full := strings.Repeat("00", 16), strings.Repeat("ff", 16)
	one, two := "01"+zeros[2:], "02"+zeros[2:]
	oneAndFour := "0100000000000000 0400000000000000"
	for i, row := range []struct{ r, s, text, want string }{
		{"85d6be7857556d337f4452fe42d506a8", "0103808afb0db2fd4abff6af4149f51b", hex.EncodeToString([]byte("Cryptographic Forum Research Group")), "a8061dc1305136c6c22b8baf0c0127a9"},
		{zeros, zeros, strings.Repeat("00", 64), zeros},
		{zeros, "36e5f6b5c5e06070f0efca96227a863e", hex.EncodeToString([]byte(submission)), "36e5f6b5c5e06070f0efca96227a863e"},
		{"36e5f6b5c5e06070f0efca96227a863e", zeros, hex.EncodeToString([]byte(submission)), "f3477e7cd95417af89a6b8794c310cf0"},
		{"1c9240a5eb55d38af333888604f6b5f0", "473917c1402b80099dca5cbc207075c0", hex.EncodeToString([]byte(brillig)), "4541669a7eaaee61e708dc7cbcc5eb62"},
		{two, zeros, full, "03" + zeros[2:]},
		{two, full, two, "03" + zeros[2:]},
		{one, zeros, full + "f0" + full[2:] + "11" + zeros[2:], "05" + zeros[2:]},
		{one, zeros, full + "fb" + strings.Repeat("fe", 15) + strings.Repeat("01", 16), zeros},
		{two, zeros, "fd" + full[2:], "fa" + full[2:]},
		{oneAndFour, zeros, "e33594d7505e43b90000000000000000 3394d7505e4379cd0100000000000000" + zeros + one, "14000000000000005500000000000000"},
		{oneAndFour, zeros, "e33594d7505e43b90000000000000000 3394d7505e4379cd0100000000000000" + zeros, "13000000000000000000000000000000"},
	} {
		key, text, want := keyOf(unhex(t, row.r), unhex(t, row.s)), unhex(t, row.text), [16]byte(unhex(t, row.want))
		if got := Tag(key, text); got != want {
			t.Errorf("P6.1: the standard's example %d: %x, not %x", i, got, want)
		}
		if got := wantTag(key, text); got != want {
			t.Errorf("the standard's example %d, by the words: %x, not %x", i, got, want)
		}
	}
}

// TestClampKeepsAndTakes: of each bit alone, and of all but it.
func TestClampKeepsAndTakes(t *testing.T) {
	taken := 0
	for bit := range 256 {
		var one, want [32]byte
		one[bit/8] = 1 << (bit % 8)
		at := bit / 8
		top := at%4 == 3 && bit%8 >= 4
		bottom := (at == 4 || at == 8 || at == 12) && bit%8 < 2
		switch {
		case at >= 16:
		case top || bottom:
			taken++
		default:
			want = one
		}
		if got := Clamp(one); got != [16]byte(want[:16]) {
			t.Errorf("P6.1: Clamp of the bit %d alone: %x", bit, got)
		}
		less := [32]byte(ones(32))
		less[bit/8] ^= one[bit/8]
		all := Clamp([32]byte(ones(32)))
		for i := range all {
			all[i] ^= want[i]
		}
		if got := Clamp(less); got != all {
			t.Errorf("P6.1: Clamp of all bits but %d: %x", bit, got)
		}
	}
	if taken != 4*4+3*2 {
		t.Errorf("P6.1: Clamp takes away %d bits", taken)
	}
	if got := Clamp([32]byte(ones(32))); got != [16]byte(unhex(t, "ffffff0f fcffff0f fcffff0f fcffff0f")) {
		t.Errorf("P6.1: Clamp of ones: %x", got)
	}
	if got := Clamp([32]byte{}); got != [16]byte{} {
		t.Errorf("P6.1: Clamp of zeros: %x", got)
	}
}

// TestClamp: each byte at each place, and keys of chance; once more, it takes
// nothing.
func TestClamp(t *testing.T) {
	chance := rand.New(rand.NewPCG(3, 4))
	for i := range 32 * 256 {
		key := [32]byte(some(chance, 32))
		key[i%32] = byte(i / 32)
		got := Clamp(key)
		if got != wantClamp(key) {
			t.Errorf("P6.1: Clamp(%x): %x", key, got)
		}
		if twice := Clamp(keyOf(got[:], key[16:])); twice != got {
			t.Errorf("P6.1: Clamp of %x, clamped: %x", got, twice)
		}
	}
}

// TestTagClamps: what Clamp takes away plays no part in a tag; what it keeps
// does.
func TestTagClamps(t *testing.T) {
	chance := rand.New(rand.NewPCG(5, 6))
	text := long(50)
	for range 100 {
		key := [32]byte(some(chance, 32))
		clamped := Clamp(key)
		if Tag(keyOf(clamped[:], key[16:]), text) != Tag(key, text) {
			t.Errorf("P6.1: Tag with the key %x is not as with it clamped", key)
		}
		for bit := range 256 {
			other := key
			other[bit/8] ^= 1 << (bit % 8)
			plays := bit >= 128 || Clamp(other) != clamped
			if (Tag(other, text) != Tag(key, text)) != plays {
				t.Errorf("P6.1: does the bit %d of the key %x play a part: not %v", bit, key, plays)
			}
		}
	}
}

// TestLengths: bytes of all lengths about whole pieces, and of many, with keys
// of all kinds.
func TestLengths(t *testing.T) {
	kinds := func(n int) [][]byte {
		nearly := ones(n)
		if n > 0 {
			nearly[n/2] = 0xfe
		}
		return [][]byte{long(n), make([]byte, n), ones(n), nearly}
	}
	for _, key := range edgeKeys()[:8] {
		for n := range 6*16 + 3 {
			for _, b := range kinds(n) {
				check(t, key, b)
			}
		}
		for _, n := range []int{255, 256, 257, 1000, 65535, 65536, 65537} {
			for _, b := range kinds(n) {
				check(t, key, b)
			}
		}
	}
	for _, key := range edgeKeys() {
		for _, n := range []int{0, 1, 15, 16, 17, 31, 32, 33, 64, 200} {
			for _, b := range kinds(n) {
				check(t, key, b)
			}
		}
	}
}

// TestByTheWords: keys and bytes of chance, many of whose bytes are all ones or
// none.
func TestByTheWords(t *testing.T) {
	chance := rand.New(rand.NewPCG(7, 8))
	rough := func(n int) []byte {
		b := some(chance, n)
		for i := range b {
			switch chance.IntN(4) {
			case 0:
				b[i] = 0
			case 1:
				b[i] = 0xff
			}
		}
		return b
	}
	for range 20000 {
		n := chance.IntN(130)
		check(t, [32]byte(some(chance, 32)), some(chance, n))
		check(t, [32]byte(rough(32)), rough(n))
	}
}

// TestGoesRound: sums about 2^130 - 5, 2^130 and the other ends. With an r of
// one they are those of the pieces themselves.
func TestGoesRound(t *testing.T) {
	base := new(big.Int).Sub(prime(), new(big.Int).Mul(big.NewInt(3), power(128)))
	for _, s := range [][]byte{make([]byte, 16), ones(16), long(16)} {
		key := keyOf(append([]byte{1}, make([]byte, 15)...), s)
		for d := int64(-300); d <= 300; d++ {
			// Three pieces, each with its 1 behind, come to 2^130 - 5 and d.
			last := new(big.Int).Add(base, big.NewInt(d-1000))
			b := slices.Concat(bytesOf(big.NewInt(400), 16), bytesOf(big.NewInt(600), 16), bytesOf(last, 16))
			check(t, key, b)
			want := big.NewInt(d)
			if d < 0 {
				want.Add(want, prime())
			}
			if got := Tag(key, b); got != [16]byte(bytesOf(want.Add(want, bigOf(s)), 16)) {
				t.Errorf("P6.1: Tag where the sum is 2^130 - 5 and %d: %x", d, got)
			}
		}
	}
}

// ends are numbers below 2^130 - 5 about its ends, and those of limbs and words.
func ends() []*big.Int {
	var all []*big.Int
	for d := int64(0); d < 9; d++ {
		all = append(all, big.NewInt(d), new(big.Int).Sub(prime(), big.NewInt(d+1)))
	}
	for _, n := range []uint{26, 32, 44, 52, 64, 78, 88, 96, 104, 127, 128, 129} {
		for d := int64(-6); d < 7; d++ {
			all = append(all, new(big.Int).Add(power(n), big.NewInt(d)))
		}
	}
	return all
}

// TestEveryEnd: whichever number a sum is to be, some bytes lead there.
func TestEveryEnd(t *testing.T) {
	chance := rand.New(rand.NewPCG(9, 10))
	for _, end := range ends() {
		for range 5 {
			key := [32]byte(some(chance, 32))
			r := Clamp(key)
			inverse := new(big.Int).ModInverse(bigOf(r[:]), prime())
			for {
				// What is missing must be a piece with its 1 behind.
				first := some(chance, 16)
				piece := new(big.Int).Mul(end, inverse)
				piece.Mod(piece.Sub(piece, wantSum(key, first)), prime())
				if piece.Cmp(power(128)) < 0 || piece.Cmp(power(129)) >= 0 {
					continue
				}
				b := append(first, bytesOf(piece, 16)...)
				want := bytesOf(new(big.Int).Add(end, bigOf(key[16:])), 16)
				if got := Tag(key, b); got != [16]byte(want) {
					t.Errorf("P6.1: Tag where the sum is %x: %x, not %x", end, got, want)
				}
				check(t, key, append(b, long(40)...))
				break
			}
		}
	}
}

// TestLimbs: limbs at the ends of what they may be when they are multiplied.
func TestLimbs(t *testing.T) {
	chance := rand.New(rand.NewPCG(11, 12))
	limb := func(highest uint64) uint64 {
		return []uint64{0, 1, highest - 1, highest, chance.Uint64N(highest + 1)}[chance.IntN(5)]
	}
	for range 50000 {
		var a, r number
		for i := range a {
			a[i], r[i] = limb(1<<28-1), limb(1<<26-1)
		}
		got := times(a, doubled(r))
		want := new(big.Int).Mul(bigNumber(a), bigNumber(r))
		if bigNumber(got).Cmp(new(big.Int).Lsh(prime(), 1)) >= 0 {
			t.Errorf("P6.1: %x times %x is twice 2^130 - 5, or more: %x", a, r, got)
		}
		for i, x := range got {
			if x >= 1<<26 && (i != 1 || x >= 1<<27) {
				t.Errorf("P6.1: %x times %x: the limb %d is %x", a, r, i, x)
			}
		}
		if want.Mod(want, prime()); new(big.Int).Mod(bigNumber(got), prime()).Cmp(want) != 0 {
			t.Errorf("P6.1: %x times %x: %x, not %x", a, r, bigNumber(got), want)
		}
		if low := lowest(plus(reduced(got), r)); !bytes.Equal(low[:], bytesOf(want.Add(want, bigNumber(r)), 16)) {
			t.Errorf("P6.1: the lowest bytes of %x and %x: %x", got, r, low)
		}
	}
}

// TestReduced: numbers from 0 to just below twice 2^130 - 5, in limbs that are
// full or over.
func TestReduced(t *testing.T) {
	full := number{1<<26 - 1, 1<<26 - 1, 1<<26 - 1, 1<<26 - 1, 1<<26 - 1}
	for d := range uint64(600) {
		for _, over := range []uint64{0, 1, 1 << 12} {
			a := full
			a[0] -= 300
			a[0] += d
			a[1] += over
			want := new(big.Int).Mod(bigNumber(a), prime())
			if got := lowest(reduced(a)); !bytes.Equal(got[:], bytesOf(want, 16)) {
				t.Errorf("P6.1: %x reduced: %x, not %x", a, got, want)
			}
		}
	}
	for d := range uint64(20) {
		if got := lowest(reduced(number{d})); !bytes.Equal(got[:], bytesOf(new(big.Int).SetUint64(d), 16)) {
			t.Errorf("P6.1: %x reduced: %x", d, got)
		}
	}
}

// TestEveryBit: each bit of the bytes counts, and where they end.
func TestEveryBit(t *testing.T) {
	for _, n := range []int{0, 1, 15, 16, 17, 31, 32, 33, 64, 70} {
		b := long(n)
		seen := map[[16]byte]int{Tag(someKey(), b): -1}
		see := func(got [16]byte, what int) {
			if was, ok := seen[got]; ok {
				t.Errorf("P6.1: Tag of %d bytes is the same in the cases %d and %d", n, was, what)
			}
			seen[got] = what
		}
		for i := range 8 * n {
			b[i/8] ^= 1 << (i % 8)
			see(Tag(someKey(), b), i)
			b[i/8] ^= 1 << (i % 8)
		}
		for zeros := 1; zeros < 40; zeros++ {
			see(Tag(someKey(), b, make([]byte, zeros)), 8*n+zeros)
		}
		see(Tag(someKey(), b, []byte{1}), 8*n)
	}
}

// TestNoBytes: of no bytes it is the key's last half, in whatever way there are
// none.
func TestNoBytes(t *testing.T) {
	for _, key := range edgeKeys() {
		if got := Tag(key); got != [16]byte(key[16:]) {
			t.Errorf("what follows, R6: Tag of no parts with the key %x: %x", key, got)
		}
		for i, parts := range [][][]byte{nil, {}, {nil}, {{}}, {nil, {}, nil}, {long(10)[:0]}, make([][]byte, 200)} {
			if got := Tag(key, parts...); got != [16]byte(key[16:]) {
				t.Errorf("what follows, R3: Tag of no bytes, in the way %d, with the key %x: %x", i, key, got)
			}
		}
	}
	b := long(70)
	for _, cut := range []int{1, 15, 16, 17, 48, 69} {
		with := [][]byte{nil, b[:cut], {}, nil, b[cut:], {}, nil}
		if Tag(someKey(), with...) != wantTag(someKey(), b) {
			t.Errorf("R3: Tag of parts cut at %d: parts without bytes count", cut)
		}
	}
}

// TestCutAnywhere: bytes in two parts and in three.
func TestCutAnywhere(t *testing.T) {
	for _, n := range []int{1, 2, 15, 16, 17, 31, 32, 33, 47, 48, 49, 64, 100} {
		for _, b := range [][]byte{long(n), ones(n), make([]byte, n)} {
			want := wantTag(someKey(), b)
			for second := range n + 1 {
				if Tag(someKey(), b[:second], b[second:]) != want {
					t.Errorf("P6.1: Tag of %d bytes, cut at %d", n, second)
				}
				for first := range second + 1 {
					if Tag(someKey(), b[:first], b[first:second], b[second:]) != want {
						t.Errorf("P6.1: Tag of %d bytes, cut at %d and %d", n, first, second)
					}
				}
			}
		}
	}
}

// TestManyParts: parts of one length, down to one byte each, and of chance, of
// no bytes among them.
func TestManyParts(t *testing.T) {
	b := long(1000)
	want := wantTag(someKey(), b)
	for size := 1; size <= 100; size++ {
		parts := slices.Collect(slices.Chunk(b, size))
		if Tag(someKey(), parts...) != want {
			t.Errorf("P6.1: Tag of parts of %d bytes", size)
		}
	}
	chance := rand.New(rand.NewPCG(13, 14))
	for range 500 {
		var parts [][]byte
		for rest := b; len(rest) > 0; {
			n := min(chance.IntN(50), len(rest))
			parts = append(parts, rest[:n])
			rest = rest[n:]
		}
		if Tag(someKey(), parts...) != want {
			t.Errorf("P6.1: Tag of %d parts of chance", len(parts))
		}
	}
}

// TestOrder: parts stand one behind the other, and one may be there twice.
func TestOrder(t *testing.T) {
	one, other := long(30), ones(40)
	if Tag(someKey(), one, other) == Tag(someKey(), other, one) {
		t.Error("P6.1: Tag: the order of parts plays no part")
	}
	if Tag(someKey(), one, one) != wantTag(someKey(), append(long(30), one...)) {
		t.Error("P6.1: Tag of a part twice")
	}
	sixteens := long(32)
	if Tag(someKey(), sixteens[:16], sixteens[16:]) == Tag(someKey(), sixteens[16:], sixteens[:16]) {
		t.Error("P6.1: Tag: the order of whole pieces plays no part")
	}
}

// TestPieces: what is ranged over has all bytes, and a 1 behind each piece.
func TestPieces(t *testing.T) {
	for n := range 70 {
		for size := 1; size < 40; size++ {
			parts := slices.Collect(slices.Chunk(long(n), size))
			at := 0
			for piece := range pieces(parts) {
				want := make([]byte, 17)
				length := copy(want[:16], long(n)[at:])
				want[length] = 1
				if !bytes.Equal(piece[:], want) {
					t.Errorf("P6.1: of %d bytes in parts of %d: the piece from %d on: %x", n, size, at, piece)
				}
				at += length
				scribble(piece[:])
			}
			if at != n {
				t.Errorf("P6.1: of %d bytes in parts of %d: pieces up to %d", n, size, at)
			}
		}
	}
}

// TestPiecesAgain: a sequence may be ranged over again, and left anywhere.
func TestPiecesAgain(t *testing.T) {
	all := pieces([][]byte{long(20), nil, long(30)})
	want := slices.Collect(all)
	if len(want) != 4 {
		t.Fatalf("P6.1: 50 bytes are %d pieces", len(want))
	}
	for stop := 1; stop <= len(want)+1; stop++ {
		var got [][17]byte
		all(func(piece [17]byte) bool {
			got = append(got, piece)
			return len(got) != stop
		})
		if !slices.Equal(got, want[:min(stop, len(want))]) {
			t.Errorf("R1: left behind %d pieces: %x", stop, got)
		}
	}
}

// TestNotChanged: what is handed in is as it was, and so is the room behind it,
// of bytes and of the list; what stands there counts for nothing.
func TestNotChanged(t *testing.T) {
	for _, n := range []int{0, 1, 15, 16, 17, 31, 32, 33, 64, 1000} {
		whole := append(long(n), bytes.Repeat([]byte{8}, 80)...)
		kept := bytes.Clone(whole)
		other := []byte{1, 2, 3}
		cut := n / 3
		list := [][]byte{whole[:cut], whole[cut:n], other, other}
		key := someKey()
		if Tag(key, list[:2]...) != wantTag(someKey(), long(n)) {
			t.Errorf("R3: Tag of %d bytes: what stands behind the ends counts", n)
		}
		if key != someKey() || !bytes.Equal(whole, kept) || !bytes.Equal(other, []byte{1, 2, 3}) {
			t.Errorf("R3: Tag of %d bytes: what was handed in is changed", n)
		}
		if len(list[0]) != cut || len(list[1]) != n-cut || &list[0][:1][0] != &whole[0] || &list[1][:1][0] != &whole[cut] || &list[2][0] != &other[0] || &list[3][0] != &other[0] {
			t.Errorf("R3: Tag of %d bytes: the list that was handed in is changed", n)
		}
	}
	key := someKey()
	Clamp(key)
	if key != someKey() {
		t.Error("R3: Clamp changes the key")
	}
}

// TestNotKept: an answer stays, whatever is done to what was handed in, and to
// other answers.
func TestNotKept(t *testing.T) {
	for _, n := range []int{1, 15, 16, 17, 31, 32, 33, 64, 1000} {
		want := wantTag(someKey(), long(n))
		key, b := someKey(), long(n)
		list := [][]byte{b}
		first, clamped := Tag(key, list...), Clamp(key)
		scribble(key[:])
		scribble(b)
		list[0] = nil
		second, other := Tag(someKey(), long(n)), Clamp(someKey())
		scribble(second[:])
		scribble(other[:])
		if first != want || Tag(someKey(), long(n)) != want {
			t.Errorf("R3: Tag of %d bytes hangs on what was handed in, or on another answer", n)
		}
		if clamped != wantClamp(someKey()) || Clamp(someKey()) != wantClamp(someKey()) {
			t.Error("R3: Clamp hangs on what was handed in, or on another answer")
		}
		if Tag(key, long(n)) != wantTag(key, long(n)) || Tag(someKey(), b) != wantTag(someKey(), b) {
			t.Errorf("R2: Tag keeps something of a key, or of %d bytes", n)
		}
	}
}

// TestSideBySide: calls know nothing of one another.
func TestSideBySide(t *testing.T) {
	shared := long(400)
	var all sync.WaitGroup
	for i := range 8 {
		all.Go(func() {
			for n := i; n <= len(shared); n += 8 {
				key := [32]byte(long(n + 32)[n:])
				if Tag(key, shared[:n], shared[n:]) != wantTag(key, shared) || Tag(key, shared[:n]) != wantTag(key, shared[:n]) {
					t.Errorf("R2: Tag of %d bytes, beside others", n)
				}
				if Clamp(key) != wantClamp(key) {
					t.Errorf("R2: Clamp, beside others")
				}
			}
		})
	}
	all.Wait()
}

func BenchmarkTag(b *testing.B) {
	text := long(65536)
	b.SetBytes(int64(len(text)))
	for b.Loop() {
		Tag(someKey(), text)
	}
}
