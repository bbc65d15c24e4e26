package mac

import (
	"bytes"
	"crypto/hmac"
	"crypto/sha256"
	"encoding/hex"
	"math/rand/v2"
	"strings"
	"sync"
	"testing"

	"domino/sha"
)

// long is n bytes of all kinds; always the same.
func long(n int) []byte {
	b := make([]byte, n)
	for i := range b {
		b[i] = byte(i*151 + i>>8 + 29)
	}
	return b
}

// scribble writes over all of b.
func scribble(b []byte) {
	for i := range b {
		b[i] ^= 0xff
	}
}

// wanted is what the library has for Tag.
func wanted(key, message []byte) [32]byte {
	h := hmac.New(sha256.New, key)
	h.Write(message)
	return [32]byte(h.Sum(nil))
}

// keyLengths are those at which keys are tried: about a Sum, a block and two,
// and many.
func keyLengths() []int {
	return []int{0, 1, 2, 20, 31, 32, 33, 55, 56, 62, 63, 64, 65, 66, 96, 127, 128, 129, 131, 1000, 65536}
}

func TestExample(t *testing.T) {
	got := Tag([]byte("key"), []byte("The quick brown fox jumps over the lazy dog"))
	if hex.EncodeToString(got[:]) != "f7bc83f430538424b13298e6aa6fb143ef4d59a14946175997479dbc2d1a3cd8" {
		t.Errorf("P3.1: the chapter's example: %x", got)
	}
}

// TestStandard: the examples of RFC 4231 (of the fifth the RFC has but the first
// 16 bytes), and nothing with a key of nothing.
func TestStandard(t *testing.T) {
	for i, row := range []struct{ key, message, want string }{
		{strings.Repeat("\x0b", 20), "Hi There", "b0344c61d8db38535ca8afceaf0bf12b881dc200c9833da726e9376c2e32cff7"},
		{"Jefe", "what do ya want for nothing?", "5bdcc146bf60754e6a042426089575c75a003f089d2739839dec58b964ec3843"},
		{strings.Repeat("\xaa", 20), strings.Repeat("\xdd", 50), "773ea91e36800e46854db8ebd09181a72959098b3ef8c122d9635514ced565fe"},
		{"\x01\x02\x03\x04\x05\x06\x07\x08\x09\x0a\x0b\x0c\x0d\x0e\x0f\x10\x11\x12\x13\x14\x15\x16\x17\x18\x19", strings.Repeat("\xcd", 50), "82558a389a443c0ea4cc819899f2083a85f0faa3e578f8077a2e3ff46729665b"},
		{strings.Repeat("\x0c", 20), "Test With Truncation", "a3b6167473100ee06e0c796c2955552b"},
		{strings.Repeat("\xaa", 131), "Test Using Larger Than Block-Size Key - Hash Key First", "60e431591ee0b67f0d8a26aacbf5b77f8e0bc6213728c5140546040f0ee37f54"},
		{strings.Repeat("\xaa", 131), "This is a test using a larger than block-size key and a larger than block-size data. The key needs to be hashed before being used by the HMAC algorithm.", "9b09ffa71b942fcb27635fbcd5b0e944bfdc63644f0713938a7f51535c3a35e2"},
		{"", "", "b613679a0814d9ec772f95d778c35fc5ff1697c493715653c6c712144292c5ad"},
	} {
		got := Tag([]byte(row.key), []byte(row.message))
		if !strings.HasPrefix(hex.EncodeToString(got[:]), row.want) {
			t.Errorf("P3.1: the standard's example %d: %x, not %s", i+1, got, row.want)
		}
	}
}

// TestAllLengths: keys and messages of all lengths about whole blocks.
func TestAllLengths(t *testing.T) {
	for n := range 2*64 + 3 {
		for _, key := range [][]byte{long(n), make([]byte, n), bytes.Repeat([]byte{0xff}, n)} {
			for m := range 2*64 + 3 {
				if got, want := Tag(key, long(m)), wanted(key, long(m)); got != want {
					t.Errorf("P3.1: Tag of %d bytes with a key of %d: %x, not %x", m, n, got, want)
				}
			}
		}
	}
	for _, n := range keyLengths() {
		for _, m := range []int{0, 1, 1000, 65535, 65536} {
			if got, want := Tag(long(n), long(m)), wanted(long(n), long(m)); got != want {
				t.Errorf("P3.1: Tag of %d bytes with a key of %d: %x, not %x", m, n, got, want)
			}
		}
	}
}

// TestByTheWords: the tag is made of two Sums, as RFC 2104 says.
func TestByTheWords(t *testing.T) {
	for _, n := range []int{0, 1, 63, 64} {
		in, out := bytes.Repeat([]byte{0x36}, 64), bytes.Repeat([]byte{0x5c}, 64)
		for i, b := range long(n) {
			in[i] ^= b
			out[i] ^= b
		}
		for _, m := range []int{0, 1, 63, 64, 65, 200} {
			sum := sha.Sum(in, long(m))
			if Tag(long(n), long(m)) != sha.Sum(out, sum[:]) {
				t.Errorf("P3.1: Tag of %d bytes with a key of %d", m, n)
			}
		}
	}
}

// TestZerosBehindAKey: up to a whole block they play no part; beyond it they do.
func TestZerosBehindAKey(t *testing.T) {
	message := long(50)
	for n := range 65 {
		want := Tag(long(n), message)
		for zeros := range 64 - n + 1 {
			if Tag(append(long(n), make([]byte, zeros)...), message) != want {
				t.Errorf("what follows: a key of %d bytes, and %d zeros", n, zeros)
			}
		}
		for over := 65; over < 70; over++ {
			if Tag(append(long(n), make([]byte, over-n)...), message) == want {
				t.Errorf("what follows: a key of %d bytes, and zeros up to %d", n, over)
			}
		}
		if n < 64 && Tag(append(long(n), 1), message) == want {
			t.Errorf("P3.1: a key of %d bytes, and a one", n)
		}
	}
}

// TestLongKeys: a key that is longer than a block is as its Sum, and none else is.
func TestLongKeys(t *testing.T) {
	message := long(50)
	for n := range 400 {
		sum := sha.Sum(long(n))
		if same := Tag(long(n), message) == Tag(sum[:], message); same != (n > 64) {
			t.Errorf("what follows: is a key of %d bytes as its Sum: %v", n, same)
		}
	}
	for _, n := range []int{65, 66, 1000, 65536} {
		sum := sha.Sum(long(n))
		if Tag(long(n), message) != Tag(append(sum[:], make([]byte, 32)...), message) {
			t.Errorf("what follows: a key of %d bytes is not as its Sum with zeros behind it", n)
		}
	}
}

// TestEveryBit: each bit of a key and of a message counts.
func TestEveryBit(t *testing.T) {
	for _, n := range []int{0, 1, 63, 64, 65, 131} {
		key, message := long(n), long(70)
		seen := map[[32]byte]int{Tag(key, message): -1}
		for i := range 8 * (n + len(message)) {
			turned := key
			at := i / 8
			if at >= n {
				turned, at = message, at-n
			}
			turned[at] ^= 1 << (i % 8)
			got := Tag(key, message)
			if was, ok := seen[got]; ok {
				t.Errorf("P3.1: with a key of %d bytes: Tag is the same with the bits %d and %d turned", n, was, i)
			}
			seen[got] = i
			turned[at] ^= 1 << (i % 8)
		}
	}
}

// TestNoBytes: no parts, nil and empty ones are all the same, with any key; and
// so are no key and an empty one.
func TestNoBytes(t *testing.T) {
	for _, n := range keyLengths() {
		want := wanted(long(n), nil)
		for i, parts := range [][][]byte{nil, {}, {nil}, {{}}, {nil, {}, nil}, make([][]byte, 200)} {
			if got := Tag(long(n), parts...); got != want {
				t.Errorf("P3.1, R6: Tag of no bytes, in the way %d, with a key of %d: %x", i, n, got)
			}
		}
	}
	if Tag(nil) != wanted(nil, nil) || Tag(nil, long(9)) != Tag([]byte{}, long(9)) {
		t.Error("R3: Tag with no key is not as with an empty one")
	}
	message := long(70)
	with := [][]byte{nil, message[:64], {}, nil, message[64:], nil}
	if Tag(long(20), with...) != wanted(long(20), message) {
		t.Error("R3: Tag: parts without bytes count")
	}
}

// TestCutAnywhere: bytes in two parts and in three.
func TestCutAnywhere(t *testing.T) {
	message := long(131)
	for _, n := range []int{0, 1, 63, 64, 65, 131} {
		key := long(n)
		want := wanted(key, message)
		for b := range len(message) + 1 {
			if Tag(key, message[:b], message[b:]) != want {
				t.Errorf("P3.1: Tag with a key of %d bytes, cut at %d", n, b)
			}
			for a := range b + 1 {
				if n == 64 && Tag(key, message[:a], message[a:b], message[b:]) != want {
					t.Errorf("P3.1: Tag with a key of %d bytes, cut at %d and %d", n, a, b)
				}
			}
		}
	}
}

// TestManyParts: parts of one length, down to one byte each, and of chance.
func TestManyParts(t *testing.T) {
	key, message := long(40), long(1000)
	want := wanted(key, message)
	for size := 1; size <= 200; size++ {
		var parts [][]byte
		for at := 0; at < len(message); at += size {
			parts = append(parts, message[at:min(at+size, len(message))])
		}
		if Tag(key, parts...) != want {
			t.Errorf("P3.1: Tag of parts of %d bytes", size)
		}
	}
	chance := rand.New(rand.NewPCG(5, 6))
	for range 300 {
		var parts [][]byte
		for rest := message; len(rest) > 0; {
			n := min(chance.IntN(150), len(rest))
			parts = append(parts, rest[:n])
			rest = rest[n:]
		}
		if Tag(key, parts...) != want {
			t.Errorf("P3.1: Tag of %d parts of chance", len(parts))
		}
	}
}

// TestOrder: parts stand one behind the other; and a key is no part.
func TestOrder(t *testing.T) {
	one, other := long(30), bytes.Repeat([]byte{0xa5}, 40)
	if Tag(one, one, other) == Tag(one, other, one) {
		t.Error("P3.1: Tag: the order of parts plays no part")
	}
	if Tag(one, other) == Tag(other, one) || Tag(one, other) == Tag(nil, one, other) {
		t.Error("P3.1: Tag: a key is as a part")
	}
}

// TestOneMemory: a key may be a part, too, and a part may stand behind itself.
func TestOneMemory(t *testing.T) {
	for _, n := range keyLengths() {
		same := long(n)
		if Tag(same, same, same) != wanted(long(n), append(long(n), long(n)...)) {
			t.Errorf("P3.1: Tag of a key of %d bytes with itself", n)
		}
	}
}

// TestBehindAgain: a sequence may be ranged over again, and left anywhere.
func TestBehindAgain(t *testing.T) {
	want := []string{"first", "second", "", "last"}
	all := behind([]byte("first"), [][]byte{[]byte("second"), nil, []byte("last")})
	for stop := range len(want) + 1 {
		var got []string
		for part := range all {
			got = append(got, string(part))
			if len(got) == stop {
				break
			}
		}
		if n := len(got); stop > 0 && n != stop || strings.Join(got, ",") != strings.Join(want[:n], ",") || stop == 0 && n != len(want) {
			t.Errorf("R1: left behind %d parts: %q", stop, got)
		}
	}
}

// TestNotChanged: what is handed in is as it was, and so is the room behind it,
// of bytes and of the list.
func TestNotChanged(t *testing.T) {
	for _, n := range keyLengths() {
		key := append(long(n), bytes.Repeat([]byte{7}, 80)...)
		whole := append(long(100), bytes.Repeat([]byte{8}, 80)...)
		keptKey, kept := bytes.Clone(key), bytes.Clone(whole)
		behind := []byte{1, 2, 3}
		list := [][]byte{whole[:30], whole[30:100], behind, behind}
		if Tag(key[:n], list[:2]...) != wanted(long(n), long(100)) {
			t.Errorf("P3.1: with a key of %d bytes: what stands behind the ends counts", n)
		}
		if !bytes.Equal(key, keptKey) || !bytes.Equal(whole, kept) || !bytes.Equal(behind, []byte{1, 2, 3}) {
			t.Errorf("R3: with a key of %d bytes: bytes that were handed in are changed", n)
		}
		if &list[0][0] != &whole[0] || len(list[0]) != 30 || &list[1][0] != &whole[30] || len(list[1]) != 70 || &list[2][0] != &behind[0] || &list[3][0] != &behind[0] {
			t.Errorf("R3: with a key of %d bytes: the list that was handed in is changed", n)
		}
	}
}

// TestNotKept: an answer stays, whatever is done to what was handed in, and to
// other answers.
func TestNotKept(t *testing.T) {
	for _, n := range []int{1, 63, 64, 65, 131} {
		want := wanted(long(n), long(100))
		key, message := long(n), long(100)
		list := [][]byte{message}
		first := Tag(key, list...)
		scribble(key)
		scribble(message)
		list[0] = nil
		second := Tag(long(n), long(100))
		scribble(second[:])
		if first != want || Tag(long(n), long(100)) != want || Tag(key, long(100)) == want || Tag(long(n), message) == want {
			t.Errorf("R3: Tag keeps something of a key of %d bytes, or of its parts", n)
		}
	}
}

// TestSideBySide: calls know nothing of one another.
func TestSideBySide(t *testing.T) {
	shared := long(100)
	var all sync.WaitGroup
	for i := range 8 {
		all.Go(func() {
			for n := i; n < 300; n += 8 {
				if Tag(long(n), shared, shared[:n/3]) != wanted(long(n), append(long(100), long(n/3)...)) {
					t.Errorf("R2: Tag with a key of %d bytes, beside others", n)
				}
			}
		})
	}
	all.Wait()
}

func BenchmarkTag(b *testing.B) {
	key, message := long(32), long(65536)
	b.SetBytes(int64(len(message)))
	for b.Loop() {
		Tag(key, message)
	}
}
