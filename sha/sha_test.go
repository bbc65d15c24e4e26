package sha

import (
	"bytes"
	"crypto/sha256"
	"encoding/binary"
	"encoding/hex"
	"math"
	"math/big"
	"math/bits"
	"math/rand/v2"
	"strings"
	"sync"
	"testing"
)

// long is n bytes of all kinds; always the same.
func long(n int) []byte {
	b := make([]byte, n)
	for i := range b {
		b[i] = byte(i*167 + i>>8 + 13)
	}
	return b
}

// scribble writes over all of b.
func scribble(b []byte) {
	for i := range b {
		b[i] ^= 0xff
	}
}

// TestStandard: the examples of the standard and of the chapter.
func TestStandard(t *testing.T) {
	for _, row := range []struct{ message, want string }{
		{"", "e3b0c44298fc1c149afbf4c8996fb92427ae41e4649b934ca495991b7852b855"},
		{"abc", "ba7816bf8f01cfea414140de5dae2223b00361a396177a9cb410ff61f20015ad"},
		{"abcdbcdecdefdefgefghfghighijhijkijkljklmklmnlmnomnopnopq", "248d6a61d20638b8e5c026930c3e6039a33ce45964ff2167f6ecedd419db06c1"},
		{"abcdefghbcdefghicdefghijdefghijkefghijklfghijklmghijklmnhijklmnoijklmnopjklmnopqklmnopqrlmnopqrsmnopqrstnopqrstu", "cf5b16a778af8380036ce59e7b0492370b249b11e8f07a51afac45037afee9d1"},
		{"\xbd", "68325720aabd7c82f30f554b313d0570c95accbb7dc4b5aae11204c08ffe732b"},
		{"\xc9\x8c\x8e\x55", "7abc22c0ae5af26ce93dbb94433a0e0b2e119d014f8e7f65bd56c61ccccd9504"},
		{strings.Repeat("\x00", 55), "02779466cdec163811d078815c633f21901413081449002f24aa3e80f0b88ef7"},
		{strings.Repeat("\x00", 56), "d4817aa5497628e7c77e6b606107042bbba3130888c5f47a375e6179be789fbb"},
		{strings.Repeat("\x00", 57), "65a16cb7861335d5ace3c60718b5052e44660726da4cd13bb745381b235a1785"},
		{strings.Repeat("\x00", 64), "f5a5fd42d16a20302798ef6ed309979b43003d2320d9f0e8ea9831a92759fb4b"},
		{strings.Repeat("\x00", 1000), "541b3e9daa09b20bf85fa273e5cbd3e80185aa4ec298e765db87742b70138a53"},
		{strings.Repeat("A", 1000), "c2e686823489ced2017f6059b8b239318b6364f6dcd835d0a519105a1eadd6e4"},
		{strings.Repeat("a", 1000000), "cdc76e5c9914fb9281a1c7e284d73e67f1809a48a497200e046d39ccc7112cd0"},
	} {
		if got := Sum([]byte(row.message)); hex.EncodeToString(got[:]) != row.want {
			t.Errorf("P2.1: Sum of %d bytes: %x, not %s", len(row.message), got, row.want)
		}
	}
}

// TestAllLengths: messages of all lengths about whole blocks.
func TestAllLengths(t *testing.T) {
	for n := range 5*64 + 2 {
		for _, message := range [][]byte{long(n), make([]byte, n), bytes.Repeat([]byte{0xff}, n)} {
			if got, want := Sum(message), sha256.Sum256(message); got != want {
				t.Errorf("P2.1: Sum of %d bytes: %x, not %x", n, got, want)
			}
		}
	}
	for _, n := range []int{4095, 4096, 65535, 65536, 65537} {
		if got, want := Sum(long(n)), sha256.Sum256(long(n)); got != want {
			t.Errorf("P2.1: Sum of %d bytes: %x, not %x", n, got, want)
		}
	}
}

// TestEveryBit: each bit of a message counts.
func TestEveryBit(t *testing.T) {
	message := long(130)
	seen := map[[32]byte]int{Sum(message): -1}
	for i := range 8 * len(message) {
		message[i/8] ^= 1 << (i % 8)
		got := Sum(message)
		if got != sha256.Sum256(message) {
			t.Errorf("P2.1: Sum with the bit %d turned: %x", i, got)
		}
		if was, ok := seen[got]; ok {
			t.Errorf("P2.1: Sum is the same with the bits %d and %d turned", was, i)
		}
		seen[got] = i
		message[i/8] ^= 1 << (i % 8)
	}
}

// TestNoBytes: no parts, nil and empty ones are all the same.
func TestNoBytes(t *testing.T) {
	want := sha256.Sum256(nil)
	for i, parts := range [][][]byte{nil, {}, {nil}, {{}}, {nil, {}, nil}, make([][]byte, 200)} {
		if got := Sum(parts...); got != want {
			t.Errorf("P2.1, R6: Sum of no bytes, in the way %d: %x", i, got)
		}
	}
	message := long(70)
	with := [][]byte{nil, message[:64], {}, nil, message[64:], nil}
	if Sum(with...) != sha256.Sum256(message) {
		t.Error("R3: Sum: parts without bytes count")
	}
}

// TestTwoParts: bytes that are cut anywhere.
func TestTwoParts(t *testing.T) {
	for _, n := range []int{1, 55, 56, 63, 64, 65, 119, 120, 127, 128, 129, 200} {
		message := long(n)
		want := sha256.Sum256(message)
		for at := range n + 1 {
			if Sum(message[:at], message[at:]) != want {
				t.Errorf("what follows: Sum of %d bytes, cut at %d", n, at)
			}
		}
	}
}

// TestThreeParts: likewise, cut twice.
func TestThreeParts(t *testing.T) {
	message := long(131)
	want := sha256.Sum256(message)
	for b := range len(message) + 1 {
		for a := range b + 1 {
			if Sum(message[:a], message[a:b], message[b:]) != want {
				t.Errorf("what follows: Sum, cut at %d and %d", a, b)
			}
		}
	}
}

// TestManyParts: parts of one length, down to one byte each, and of chance.
func TestManyParts(t *testing.T) {
	message := long(1000)
	want := sha256.Sum256(message)
	for size := 1; size <= 200; size++ {
		var parts [][]byte
		for at := 0; at < len(message); at += size {
			parts = append(parts, message[at:min(at+size, len(message))])
		}
		if Sum(parts...) != want {
			t.Errorf("what follows: Sum of parts of %d bytes", size)
		}
	}
	chance := rand.New(rand.NewPCG(3, 4))
	for range 300 {
		var parts [][]byte
		for rest := message; len(rest) > 0; {
			n := min(chance.IntN(150), len(rest))
			parts = append(parts, rest[:n])
			rest = rest[n:]
		}
		if Sum(parts...) != want {
			t.Errorf("what follows: Sum of %d parts of chance", len(parts))
		}
	}
}

// TestOnePartOften: the same memory may stand behind itself.
func TestOnePartOften(t *testing.T) {
	part := long(37)
	for n := range 12 {
		parts := make([][]byte, n)
		for i := range parts {
			parts[i] = part
		}
		if Sum(parts...) != sha256.Sum256(bytes.Repeat(part, n)) {
			t.Errorf("P2.1: Sum of a part, %d times", n)
		}
	}
}

// wholeWords are the first 32 bits behind the point of the cube roots of the
// first 64 primes, as the standard says where its constants are from.
func wholeWords() []uint32 {
	var all []uint32
	for p := int64(2); len(all) < 64; p++ {
		if !big.NewInt(p).ProbablyPrime(0) {
			continue
		}
		// The root of p times 2 to the 96th is the root of p times 2 to the 32nd.
		cube := new(big.Int).Lsh(big.NewInt(p), 96)
		root := new(big.Int)
		for bit := 40; bit >= 0; bit-- {
			root.SetBit(root, bit, 1)
			if new(big.Int).Exp(root, big.NewInt(3), nil).Cmp(cube) > 0 {
				root.SetBit(root, bit, 0)
			}
		}
		all = append(all, uint32(root.Uint64()))
	}
	return all
}

func TestWords(t *testing.T) {
	got := Words()
	for i, want := range wholeWords() {
		if got[i] != want {
			t.Errorf("P2.1: Words: %d: %#x, not %#x", i, got[i], want)
		}
	}
	if got[0] != 0x428a2f98 || got[1] != 0x71374491 || got[63] != 0xc67178f2 {
		t.Errorf("P2.1: Words: %#x", got)
	}
}

// checkPad holds a pad against each word of its promise.
func checkPad(t *testing.T, n int) {
	t.Helper()
	pad := Pad(n)
	length := uint64(max(n, 0))
	if len(pad) < 9 || len(pad) > 72 || (length%64+uint64(len(pad)))%64 != 0 {
		t.Errorf("P2.1: Pad(%d): %d bytes", n, len(pad))
		return
	}
	zeros := pad[1 : len(pad)-8]
	if pad[0] != 0x80 || !bytes.Equal(zeros, make([]byte, len(zeros))) {
		t.Errorf("P2.1: Pad(%d): %x", n, pad)
	}
	// What does not go into eight bytes is not in them.
	_, low := bits.Mul64(length, 8)
	if told := binary.BigEndian.Uint64(pad[len(pad)-8:]); told != low {
		t.Errorf("P2.1: Pad(%d) tells %d bits", n, told)
	}
}

func TestPad(t *testing.T) {
	for n := range 5*64 + 2 {
		checkPad(t, n)
	}
	for n, want := range map[int]string{
		0:   "80" + strings.Repeat("00", 63),
		3:   "80" + strings.Repeat("00", 52) + "0000000000000018",
		54:  "8000" + "00000000000001b0",
		55:  "80" + "00000000000001b8",
		56:  "80" + strings.Repeat("00", 63) + "00000000000001c0",
		63:  "80" + strings.Repeat("00", 56) + "00000000000001f8",
		64:  "80" + strings.Repeat("00", 55) + "0000000000000200",
		119: "80" + "00000000000003b8",
	} {
		if got := hex.EncodeToString(Pad(n)); got != want {
			t.Errorf("P2.1: Pad(%d): %s, not %s", n, got, want)
		}
	}
}

func TestPadBelowNone(t *testing.T) {
	want := Pad(0)
	for _, n := range []int{-1, -2, -8, -9, -63, -64, -65, -1000, math.MinInt32, math.MinInt + 1, math.MinInt} {
		checkPad(t, n)
		if !bytes.Equal(Pad(n), want) {
			t.Errorf("P2.1: Pad(%d): %x", n, Pad(n))
		}
	}
}

func TestPadOfVeryGreatLengths(t *testing.T) {
	for shift := 8; shift < 63; shift++ {
		for by := -70; by <= 70; by++ {
			checkPad(t, 1<<shift+by)
		}
	}
	for by := range 140 {
		checkPad(t, math.MaxInt-by)
	}
	for n, want := range map[int]string{
		1 << 29:     "0000000100000000",
		1<<31 - 1:   "00000003fffffff8",
		1 << 40:     "0000080000000000",
		1 << 60:     "8000000000000000",
		1<<61 - 1:   "fffffffffffffff8",
		1<<61 - 100: "fffffffffffffce0",
	} {
		pad := Pad(n)
		if got := hex.EncodeToString(pad[len(pad)-8:]); got != want {
			t.Errorf("P2.1: Pad(%d) ends in %s, not %s", n, got, want)
		}
	}
}

// TestPadIsWhatIsSummed: a message with its pad is what the blocks are made of.
func TestPadIsWhatIsSummed(t *testing.T) {
	for n := range 200 {
		message := long(n)
		var all []byte
		for block := range blocks([][]byte{message[:n/3], message[n/3:]}) {
			all = append(all, block[:]...)
		}
		if !bytes.Equal(all, append(message, Pad(n)...)) {
			t.Errorf("P2.1: the blocks of %d bytes: %x", n, all)
		}
	}
}

// TestBlocksAgain: a sequence may be ranged over again, and left early.
func TestBlocksAgain(t *testing.T) {
	all := blocks([][]byte{long(100), long(100)})
	for range all {
		break
	}
	for range 3 {
		n := 0
		for block := range all {
			if want := append(long(100), long(100)...); n < 3 && !bytes.Equal(block[:], want[64*n:64*n+64]) {
				t.Errorf("R1: the block %d: %x", n, block)
			}
			n++
		}
		if n != 4 {
			t.Errorf("R1: %d blocks", n)
		}
	}
}

// TestNotChanged: what is handed in is as it was, and so is the room behind it.
func TestNotChanged(t *testing.T) {
	for n := range 150 {
		whole := append(long(n), bytes.Repeat([]byte{7}, 80)...)
		kept := bytes.Clone(whole)
		behind := []byte{1, 2, 3}
		list := [][]byte{whole[:n/2], whole[n/2 : n], behind, behind}
		if Sum(list[:2]...) != sha256.Sum256(whole[:n]) {
			t.Errorf("P2.1: of %d bytes: what stands behind the ends counts", n)
		}
		if !bytes.Equal(whole, kept) || !bytes.Equal(behind, []byte{1, 2, 3}) {
			t.Errorf("R3: of %d bytes: bytes that were handed in are changed", n)
		}
		if len(list[0]) != n/2 || len(list[1]) != n-n/2 || &list[2][0] != &behind[0] || &list[3][0] != &behind[0] {
			t.Errorf("R3: of %d bytes: the list that was handed in is changed", n)
		}
	}
}

// TestNotKept: an answer stays, whatever is done to what was handed in, and to
// other answers.
func TestNotKept(t *testing.T) {
	message := long(100)
	want := sha256.Sum256(message)
	first := Sum(message)
	scribble(message)
	second := Sum(long(100))
	scribble(second[:])
	if first != want || Sum(long(100)) != want || Sum(message) == want {
		t.Error("R3: Sum keeps something")
	}
	words := Words()
	clear(words[:])
	if Words()[0] != 0x428a2f98 || Sum(long(100)) != want {
		t.Error("R3: Words hands out what is not its own")
	}
	for _, n := range []int{0, 55, 56, 64} {
		one, other := Pad(n), Pad(n)
		kept := bytes.Clone(one)
		scribble(other[:cap(other)])
		if !bytes.Equal(one, kept) || !bytes.Equal(Pad(n), kept) || Sum(long(100)) != want {
			t.Errorf("R3: Pad(%d) hands out what is not its own", n)
		}
	}
}

// TestSideBySide: calls know nothing of one another.
func TestSideBySide(t *testing.T) {
	var all sync.WaitGroup
	for i := range 8 {
		all.Go(func() {
			for n := i; n < 300; n += 8 {
				if Sum(long(n)[:n/2], long(n)[n/2:]) != sha256.Sum256(long(n)) {
					t.Errorf("R2: Sum of %d bytes, beside others", n)
				}
				checkPad(t, n)
			}
		})
	}
	all.Wait()
}

func BenchmarkSum(b *testing.B) {
	message := long(65536)
	b.SetBytes(int64(len(message)))
	for b.Loop() {
		Sum(message)
	}
}
