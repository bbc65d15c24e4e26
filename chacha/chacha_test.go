package chacha

import (
	"bytes"
	"encoding/binary"
	"encoding/hex"
	"math"
	"math/rand/v2"
	"slices"
	"strings"
	"sync"
	"testing"
)

// long is n bytes of all kinds; always the same.
func long(n int) []byte {
	b := make([]byte, n)
	for i := range b {
		b[i] = byte(i*139 + i>>8 + 41)
	}
	return b
}

// scribble writes over all of b.
func scribble(b []byte) {
	for i := range b {
		b[i] ^= 0xff
	}
}

// someKey is a key in which all bytes are unlike.
func someKey() [32]byte {
	return [32]byte(long(32))
}

// someNonce is a nonce in which all bytes are unlike, and unlike those of
// someKey.
func someNonce() [12]byte {
	return [12]byte(long(100)[60:72])
}

// unhex is the bytes that digits of 16 say; blanks play no part.
func unhex(t *testing.T, digits string) []byte {
	t.Helper()
	b, err := hex.DecodeString(strings.Join(strings.Fields(digits), ""))
	if err != nil {
		t.Fatal(err)
	}
	return b
}

// wantQuarter is the quarter round by the words of RFC 8439, 2.1, its additions
// and turns worked out with numbers of 64 bits.
func wantQuarter(a, b, c, d uint32) [4]uint32 {
	s := [4]uint64{uint64(a), uint64(b), uint64(c), uint64(d)}
	for _, step := range [4][4]int{{0, 1, 3, 16}, {2, 3, 1, 12}, {0, 1, 3, 8}, {2, 3, 1, 7}} {
		to, from, mixed, turn := step[0], step[1], step[2], step[3]
		s[to] = (s[to] + s[from]) % (1 << 32)
		x := (s[mixed] ^ s[to]) << turn
		s[mixed] = x%(1<<32) + x>>32
	}
	return [4]uint32{uint32(s[0]), uint32(s[1]), uint32(s[2]), uint32(s[3])}
}

// wantBlock is the block function by the words of RFC 8439, 2.3: a state of
// sixteen words that is read and written as bytes, and eighty quarter rounds.
func wantBlock(key [32]byte, counter uint32, nonce [12]byte) [64]byte {
	all := slices.Concat([]byte("expand 32-byte k"), key[:], binary.LittleEndian.AppendUint32(nil, counter), nonce[:])
	var first, s [16]uint32
	for i := range first {
		first[i] = binary.LittleEndian.Uint32(all[4*i:])
	}
	s = first
	for i := range 80 {
		column, turn := i%4, i/4%2
		var at [4]int
		for row := range at {
			at[row] = 4*row + (column+row*turn)%4
		}
		for row, word := range wantQuarter(s[at[0]], s[at[1]], s[at[2]], s[at[3]]) {
			s[at[row]] = word
		}
	}
	var block [64]byte
	for i := range s {
		binary.LittleEndian.PutUint32(block[4*i:], s[i]+first[i])
	}
	return block
}

// wantXor is b turned, byte by byte.
func wantXor(key [32]byte, nonce [12]byte, counter uint32, b []byte) []byte {
	var out []byte
	for i := range b {
		block := wantBlock(key, uint32((uint64(counter)+uint64(i/64))%(1<<32)), nonce)
		out = append(out, b[i]^block[i%64])
	}
	return out
}

// quarter is what Quarter answers, as a list.
func quarter(a, b, c, d uint32) [4]uint32 {
	a, b, c, d = Quarter(a, b, c, d)
	return [4]uint32{a, b, c, d}
}

// TestExample: the chapter's example, which is RFC 8439's too (2.1.1).
func TestExample(t *testing.T) {
	got := quarter(0x11111111, 0x01020304, 0x9b8d6f43, 0x01234567)
	if got != [4]uint32{0xea2a92f4, 0xcb1cf8ce, 0x4581472e, 0x5881c4bb} {
		t.Errorf("P5.1: Quarter, the chapter's example: %x", got)
	}
}

// TestQuarterStandard: the words of the state in RFC 8439, 2.2.1, at the places
// 2, 7, 8 and 13.
func TestQuarterStandard(t *testing.T) {
	got := quarter(0x516461b1, 0x2a5f714c, 0x53372767, 0x3d631689)
	if got != [4]uint32{0xbdb886dc, 0xcfacafd2, 0xe46bea80, 0xccc07c79} {
		t.Errorf("P5.1: Quarter, the standard's example on a state: %x", got)
	}
}

// TestQuarter: numbers at which a carry or a top bit turns, and many others.
func TestQuarter(t *testing.T) {
	edges := []uint32{0, 1, 2, 0x7fffffff, 0x80000000, 0x80000001, 0xaaaaaaaa, 0xfffffffe, 0xffffffff}
	check := func(a, b, c, d uint32) {
		if got, want := quarter(a, b, c, d), wantQuarter(a, b, c, d); got != want {
			t.Errorf("P5.1: Quarter(%x, %x, %x, %x): %x, not %x", a, b, c, d, got, want)
		}
	}
	for _, a := range edges {
		for _, b := range edges {
			for _, c := range edges {
				for _, d := range edges {
					check(a, b, c, d)
				}
			}
		}
	}
	chance := rand.New(rand.NewPCG(5, 6))
	for range 5000 {
		check(chance.Uint32(), chance.Uint32(), chance.Uint32(), chance.Uint32())
	}
	for bit := range 32 {
		one := uint32(1) << bit
		check(one, 0, 0, 0)
		check(0, one, 0, 0)
		check(0, 0, one, 0)
		check(0, 0, 0, one)
	}
}

// blockExample is one of RFC 8439: a key, a counter, a nonce and their block.
type blockExample struct {
	key     string
	counter uint32
	nonce   string
	want    string
}

// blockExamples are those of 2.3.2, of A.1 and of 2.6.2 (of which the standard
// tells the first half alone).
func blockExamples() []blockExample {
	zeros := strings.Repeat("00", 32)
	none := strings.Repeat("00", 12)
	return []blockExample{
		{"000102030405060708090a0b0c0d0e0f101112131415161718191a1b1c1d1e1f", 1, "000000090000004a00000000",
			"10f1e7e4d13b5915500fdd1fa32071c4c7d1f4c733c068030422aa9ac3d46c4ed2826446079faa0914c2d705d98b02a2b5129cd1de164eb9cbd083e8a2503c4e"},
		{zeros, 0, none,
			"76b8e0ada0f13d90405d6ae55386bd28bdd219b8a08ded1aa836efcc8b770dc7da41597c5157488d7724e03fb8d84a376a43b8f41518a11cc387b669b2ee6586"},
		{zeros, 1, none,
			"9f07e7be5551387a98ba977c732d080dcb0f29a048e3656912c6533e32ee7aed29b721769ce64e43d57133b074d839d531ed1f28510afb45ace10a1f4b794d6f"},
		{zeros[:62] + "01", 1, none,
			"3aeb5224ecf849929b9d828db1ced4dd832025e8018b8160b82284f3c949aa5a8eca00bbb4a73bdad192b5c42f73f2fd4e273644c8b36125a64addeb006c13a0"},
		{"00ff" + zeros[:60], 2, none,
			"72d54dfbf12ec44b362692df94137f328fea8da73990265ec1bbbea1ae9af0ca13b25aa26cb4a648cb9b9d1be65b2c0924a66c54d545ec1b7374f4872e99f096"},
		{zeros, 0, none[:22] + "02",
			"c2c64d378cd536374ae204b9ef933fcd1a8b2288b3dfa49672ab765b54ee27c78a970e0e955c14f3a88e741b97c286f75f8fc299e8148362fa198a39531bed6d"},
		{"808182838485868788898a8b8c8d8e8f909192939495969798999a9b9c9d9e9f", 0, "000000000001020304050607",
			"8ad5a08b905f81cc815040274ab29471a833b637e3fd0da508dbb8e2fdd1a646"},
	}
}

func TestBlockStandard(t *testing.T) {
	for i, r := range blockExamples() {
		key, nonce, want := [32]byte(unhex(t, r.key)), [12]byte(unhex(t, r.nonce)), unhex(t, r.want)
		if got := Block(key, r.counter, nonce); !bytes.HasPrefix(got[:], want) {
			t.Errorf("P5.1: Block, the standard's example %d: %x", i+1, got)
		}
		for block := range Blocks(key, nonce, r.counter) {
			if !bytes.HasPrefix(block[:], want) {
				t.Errorf("P5.1: Blocks, the standard's example %d: %x", i+1, block)
			}
			break
		}
	}
}

// counters are those at which a byte of them, or all of it, is full.
func counters() []uint32 {
	return []uint32{0, 1, 2, 42, 0xff, 0x100, 0xffff, 0x10000, 0xffffff, 0x1000000, 0x7fffffff, 0x80000000, 0xfffffffe, 0xffffffff}
}

func TestBlock(t *testing.T) {
	chance := rand.New(rand.NewPCG(7, 8))
	for range 300 {
		var key [32]byte
		var nonce [12]byte
		for i := range key {
			key[i] = byte(chance.Uint32())
		}
		for i := range nonce {
			nonce[i] = byte(chance.Uint32())
		}
		for _, counter := range append(counters(), chance.Uint32()) {
			if got, want := Block(key, counter, nonce), wantBlock(key, counter, nonce); got != want {
				t.Errorf("P5.1: Block(%x, %x, %x): %x, not %x", key, counter, nonce, got, want)
			}
		}
	}
	full, all := [32]byte(bytes.Repeat([]byte{0xff}, 32)), [12]byte(bytes.Repeat([]byte{0xff}, 12))
	if got, want := Block(full, math.MaxUint32, all), wantBlock(full, math.MaxUint32, all); got != want {
		t.Errorf("P5.1: Block of ones alone: %x, not %x", got, want)
	}
}

// TestEveryBit: each bit of a key, a counter and a nonce counts, and in which of
// them it is.
func TestEveryBit(t *testing.T) {
	var key [32]byte
	var nonce [12]byte
	seen := map[[64]byte]string{Block(key, 0, nonce): "nothing"}
	check := func(counter uint32, name string) {
		got := Block(key, counter, nonce)
		if got != wantBlock(key, counter, nonce) {
			t.Errorf("P5.1: Block with a bit of %s turned: %x", name, got)
		}
		if was, ok := seen[got]; ok {
			t.Errorf("P5.1: Block is the same with a bit of %s turned as with one of %s", name, was)
		}
		seen[got] = name
	}
	for bit := range 256 {
		key[bit/8] ^= 1 << (bit % 8)
		check(0, "the key")
		key[bit/8] ^= 1 << (bit % 8)
	}
	for bit := range 96 {
		nonce[bit/8] ^= 1 << (bit % 8)
		check(0, "the nonce")
		nonce[bit/8] ^= 1 << (bit % 8)
	}
	for bit := range 32 {
		check(1<<bit, "the counter")
	}
}

// TestBlocks: they are the blocks of the counters in a row, which go round.
func TestBlocks(t *testing.T) {
	for _, counter := range counters() {
		i := uint64(0)
		for block := range Blocks(someKey(), someNonce(), counter) {
			next := uint32((uint64(counter) + i) % (1 << 32))
			if block != Block(someKey(), next, someNonce()) || block != wantBlock(someKey(), next, someNonce()) {
				t.Errorf("P5.1: Blocks from %x on, block %d: %x", counter, i, block)
			}
			if i++; i == 5 {
				break
			}
		}
		if i != 5 {
			t.Errorf("P5.1: Blocks from %x on end behind %d", counter, i)
		}
	}
}

// TestGoesRound: behind the last counter is 0; the nonce has no part in it.
func TestGoesRound(t *testing.T) {
	want := []uint32{0xfffffffe, 0xffffffff, 0, 1, 2}
	var got []uint32
	for block := range Blocks(someKey(), someNonce(), 0xfffffffe) {
		if block == Block(someKey(), want[len(got)], someNonce()) {
			got = append(got, want[len(got)])
			if len(got) < len(want) {
				continue
			}
		}
		break
	}
	if !slices.Equal(got, want) {
		t.Errorf("P5.1: Blocks about 2^32: the counters %x alone are right, of %x", got, want)
	}
	b := long(64*4 + 7)
	turned := Xor(someKey(), someNonce(), 0xfffffffe, b)
	if !bytes.Equal(turned, wantXor(someKey(), someNonce(), 0xfffffffe, b)) {
		t.Errorf("P5.1: Xor about 2^32: %x", turned)
	}
	if len(turned) == len(b) && !bytes.Equal(turned[128:], Xor(someKey(), someNonce(), 0, b[128:])) {
		t.Error("P5.1: Xor behind 2^32 is not as from 0 on")
	}
}

// TestWithoutEnd: very many blocks, none like another.
func TestWithoutEnd(t *testing.T) {
	seen := map[[64]byte]bool{}
	for block := range Blocks(someKey(), someNonce(), 0xffffff00) {
		if seen[block] {
			t.Fatalf("P5.1: a block is there twice, among %d", len(seen))
		}
		if seen[block] = true; len(seen) == 20000 {
			break
		}
	}
	if len(seen) != 20000 {
		t.Errorf("P5.1: Blocks end behind %d", len(seen))
	}
}

// TestBlocksAgain: a sequence may be ranged over again, left behind any number
// of blocks, and within itself.
func TestBlocksAgain(t *testing.T) {
	all := Blocks(someKey(), someNonce(), 0xfffffffd)
	for _, stop := range []int{1, 2, 3, 4, 5, 64, 1, 300, 2} {
		n := 0
		for block := range all {
			if block != Block(someKey(), 0xfffffffd+uint32(n), someNonce()) {
				t.Errorf("R1: block %d, of %d: %x", n, stop, block)
			}
			scribble(block[:])
			if n++; n == stop {
				break
			}
		}
		if n != stop {
			t.Errorf("R1: left behind %d blocks: %d", stop, n)
		}
	}
	outer := 0
	for a := range all {
		inner := 0
		for b := range all {
			if (a == b) != (outer == inner) {
				t.Errorf("R1: ranged over within itself: block %d and block %d", outer, inner)
			}
			if inner++; inner == 4 {
				break
			}
		}
		if outer++; outer == 4 {
			break
		}
	}
}

// TestToldToEnd: behind a no, nothing more is told.
func TestToldToEnd(t *testing.T) {
	for stop := 1; stop < 70; stop++ {
		n := 0
		Blocks(someKey(), someNonce(), 0)(func([64]byte) bool {
			n++
			return n < stop
		})
		if n != stop {
			t.Errorf("P5.1: told to end behind %d blocks, Blocks told %d", stop, n)
		}
	}
}

const sun = "Ladies and Gentlemen of the class of '99: If I could offer you only one tip for the future, sunscreen would be it."

const submission = "Any submission to the IETF intended by the Contributor for publication as all or part of an IETF Internet-Draft or RFC and any statement made within the context of an IETF activity is considered an \"IETF Contribution\". Such statements include oral statements in IETF sessions, as well as written and electronic communications made at any time or place, which are addressed to"

const brillig = "'Twas brillig, and the slithy toves\nDid gyre and gimble in the wabe:\nAll mimsy were the borogoves,\nAnd the mome raths outgrabe."

// TestXorStandard: the examples of RFC 8439, 2.4.2 and A.2.
func TestXorStandard(t *testing.T) {
	zeros := strings.Repeat("00", 32)
	two := "000000000000000000000002"
	for i, r := range []struct {
		key     string
		counter uint32
		nonce   string
		text    string
		want    string
	}{
		{"000102030405060708090a0b0c0d0e0f101112131415161718191a1b1c1d1e1f", 1, "000000000000004a00000000", sun, `
			6e2e359a2568f98041ba0728dd0d6981e97e7aec1d4360c20a27afccfd9fae0bf91b65c5524733ab8f593dabcd62b3571639d624e65152ab8f530c359f0861d8
			07ca0dbf500d6a6156a38e088a22b65e52bc514d16ccf806818ce91ab77937365af90bbf74a35be6b40b8eedf2785e42874d`},
		{zeros, 0, zeros[:24], strings.Repeat("\x00", 64), `
			76b8e0ada0f13d90405d6ae55386bd28bdd219b8a08ded1aa836efcc8b770dc7da41597c5157488d7724e03fb8d84a376a43b8f41518a11cc387b669b2ee6586`},
		{zeros[:62] + "01", 1, two, submission, `
			a3fbf07df3fa2fde4f376ca23e82737041605d9f4f4f57bd8cff2c1d4b7955ec2a97948bd3722915c8f3d337f7d370050e9e96d647b7c39f56e031ca5eb6250d
			4042e02785ececfa4b4bb5e8ead0440e20b6e8db09d881a7c6132f420e52795042bdfa7773d8a9051447b3291ce1411c680465552aa6c405b7764d5e87bea85a
			d00f8449ed8f72d0d662ab052691ca66424bc86d2df80ea41f43abf937d3259dc4b2d0dfb48a6c9139ddd7f76966e928e635553ba76c5c879d7b35d49eb2e62b
			0871cdac638939e25e8a1e0ef9d5280fa8ca328b351c3c765989cbcf3daa8b6ccc3aaf9f3979c92b3720fc88dc95ed84a1be059c6499b9fda236e7e818b04b0b
			c39c1e876b193bfe5569753f88128cc08aaa9b63d1a16f80ef2554d7189c411f5869ca52c5b83fa36ff216b9c1d30062bebcfd2dc5bce0911934fda79a86f6e6
			98ced759c3ff9b6477338f3da4f9cd8514ea9982ccafb341b2384dd902f3d1ab7ac61dd29c6f21ba5b862f3730e37cfdc4fd806c22f221`},
		{"1c9240a5eb55d38af333888604f6b5f0473917c1402b80099dca5cbc207075c0", 42, two, brillig, `
			62e6347f95ed87a45ffae7426f27a1df5fb69110044c0d73118effa95b01e5cf166d3df2d721caf9b21e5fb14c616871fd84c54f9d65b283196c7fe4f60553eb
			f39c6402c42234e32a356b3e764312a61a5532055716ead6962568f87d3f3f7704c6a8d1bcd1bf4d50d6154b6da731b187b58dfd728afa36757a797ac188d1`},
	} {
		key, nonce, want := [32]byte(unhex(t, r.key)), [12]byte(unhex(t, r.nonce)), unhex(t, r.want)
		if got := Xor(key, nonce, r.counter, []byte(r.text)); !bytes.Equal(got, want) {
			t.Errorf("P5.1: Xor, the standard's example %d: %x", i+1, got)
		}
		if got := Xor(key, nonce, r.counter, want); string(got) != r.text {
			t.Errorf("what follows: the standard's example %d, turned back: %q", i+1, got)
		}
	}
}

// TestXorLengths: bytes of all lengths about whole blocks, and of many.
func TestXorLengths(t *testing.T) {
	for _, counter := range []uint32{0, 1, 7, 0xfffffffe, 0xffffffff} {
		most := wantXor(someKey(), someNonce(), counter, long(1500))
		for n := range 5*64 + 2 {
			if got := Xor(someKey(), someNonce(), counter, long(n)); !bytes.Equal(got, most[:n]) {
				t.Errorf("P5.1: Xor of %d bytes, from %x on: %x, not %x", n, counter, got, most[:n])
			}
		}
		for _, n := range []int{1023, 1024, 1025, 1500} {
			if got := Xor(someKey(), someNonce(), counter, long(n)); !bytes.Equal(got, most[:n]) {
				t.Errorf("P5.1: Xor of %d bytes, from %x on", n, counter)
			}
		}
	}
}

// TestXorOfMany: as many bytes as are sealed at once, and some more.
func TestXorOfMany(t *testing.T) {
	for _, n := range []int{65535, 65536, 65537, 100000} {
		var want []byte
		for block := range Blocks(someKey(), someNonce(), 1) {
			if want = append(want, block[:]...); len(want) >= n {
				break
			}
		}
		b := long(n)
		got := Xor(someKey(), someNonce(), 1, b)
		if len(got) != n {
			t.Errorf("P5.1: Xor of %d bytes: %d", n, len(got))
			continue
		}
		for i := range b {
			if got[i] != b[i]^want[i] {
				t.Errorf("P5.1: Xor of %d bytes: the byte %d", n, i)
				break
			}
		}
	}
}

func TestXorOfNone(t *testing.T) {
	for _, counter := range counters() {
		if got := Xor(someKey(), someNonce(), counter, nil); len(got) != 0 {
			t.Errorf("R3: Xor of nil: %x", got)
		}
		if got := Xor(someKey(), someNonce(), counter, long(10)[:0]); len(got) != 0 {
			t.Errorf("P5.1: Xor of no bytes: %x", got)
		}
	}
}

// TestXorOfZeros: what is turned has the blocks themselves where it is zero.
func TestXorOfZeros(t *testing.T) {
	got := Xor(someKey(), someNonce(), 3, make([]byte, 192))
	var want []byte
	for i := range uint32(3) {
		block := Block(someKey(), 3+i, someNonce())
		want = append(want, block[:]...)
	}
	if !bytes.Equal(got, want) {
		t.Errorf("P5.1: Xor of zeros: %x, not %x", got, want)
	}
}

// TestTwice: turned twice it is as it was.
func TestTwice(t *testing.T) {
	for _, n := range []int{0, 1, 2, 63, 64, 65, 127, 128, 129, 255, 256, 1000, 65536} {
		for _, counter := range counters() {
			b := long(n)
			once := Xor(someKey(), someNonce(), counter, b)
			if twice := Xor(someKey(), someNonce(), counter, once); !bytes.Equal(twice, b) {
				t.Errorf("what follows: %d bytes from %x on, turned twice, are not as they were", n, counter)
			}
			if n > 1 && bytes.Equal(once, b) {
				t.Errorf("P5.1: Xor of %d bytes from %x on turns nothing", n, counter)
			}
		}
	}
}

// TestFromABlockOn: a part from a whole block on, turned with a counter so much
// greater, is as in the whole; with another one it is not.
func TestFromABlockOn(t *testing.T) {
	b := long(64*6 + 20)
	for _, counter := range counters() {
		whole := Xor(someKey(), someNonce(), counter, b)
		for skip := range 7 {
			part := Xor(someKey(), someNonce(), counter+uint32(skip), b[64*skip:])
			if !bytes.Equal(part, whole[64*skip:]) {
				t.Errorf("P5.1: Xor from %x on: behind %d blocks it is not as in the whole", counter, skip)
			}
			other := Xor(someKey(), someNonce(), counter+uint32(skip)+1, b[64*skip:])
			if bytes.Equal(other, part) {
				t.Errorf("P5.1: Xor from %x on: behind %d blocks the counter plays no part", counter, skip)
			}
		}
		for n := range len(b) {
			if got := Xor(someKey(), someNonce(), counter, b[:n]); !bytes.Equal(got, whole[:n]) {
				t.Errorf("P5.1: Xor from %x on: %d bytes are no beginning of the whole", counter, n)
			}
		}
	}
}

// TestNotChanged: what is handed in is as it was, and so is the room behind it,
// which counts for nothing.
func TestNotChanged(t *testing.T) {
	for _, n := range []int{0, 1, 63, 64, 65, 127, 128, 129, 1000} {
		key, nonce := someKey(), someNonce()
		whole := append(long(n), bytes.Repeat([]byte{7}, 100)...)
		was := bytes.Clone(whole)
		got := Xor(key, nonce, 5, whole[:n])
		if !bytes.Equal(got, wantXor(someKey(), someNonce(), 5, long(n))) {
			t.Errorf("P5.1: Xor of %d bytes: what stands behind the end counts", n)
		}
		scribble(got[:cap(got)])
		scribble(append(got, 1, 2, 3))
		Block(key, 5, nonce)
		for block := range Blocks(key, nonce, 5) {
			scribble(block[:])
			break
		}
		if !bytes.Equal(whole, was) || key != someKey() || nonce != someNonce() {
			t.Errorf("R3: what is handed in with %d bytes is changed", n)
		}
	}
}

// TestNotKept: an answer stays, whatever is done to what was handed in, and to
// other answers.
func TestNotKept(t *testing.T) {
	for _, n := range []int{1, 63, 64, 65, 127, 128, 129, 1000} {
		want := wantXor(someKey(), someNonce(), 5, long(n))
		key, nonce, b := someKey(), someNonce(), long(n)
		first := Xor(key, nonce, 5, b)
		all := Blocks(key, nonce, 5)
		scribble(key[:])
		scribble(nonce[:])
		scribble(b)
		second := Xor(someKey(), someNonce(), 5, long(n))
		scribble(second[:cap(second)])
		if !bytes.Equal(first, want) || !bytes.Equal(Xor(someKey(), someNonce(), 5, long(n)), want) {
			t.Errorf("R3: an answer of %d bytes hangs on what was handed in, or on another", n)
		}
		for block := range all {
			if block != wantBlock(someKey(), 5, someNonce()) {
				t.Errorf("R3: Blocks hang on what was handed in: %x", block)
			}
			break
		}
	}
}

// TestSideBySide: calls know nothing of one another, nor do those who range over
// one sequence.
func TestSideBySide(t *testing.T) {
	b := long(700)
	want := wantXor(someKey(), someNonce(), 0xfffffffe, b)
	shared := Blocks(someKey(), someNonce(), 0xfffffffe)
	var all sync.WaitGroup
	for i := range 8 {
		all.Go(func() {
			for n := i; n <= len(b); n += 8 {
				if !bytes.Equal(Xor(someKey(), someNonce(), 0xfffffffe, b[:n]), want[:n]) {
					t.Errorf("R2: Xor of %d bytes, beside others", n)
				}
			}
			k := 0
			for block := range shared {
				for j, mask := range block {
					if at := 64*k + j; at < len(b) && b[at]^mask != want[at] {
						t.Errorf("R2: Blocks, beside others: the byte %d", at)
					}
				}
				if k++; 64*k >= len(b) {
					break
				}
			}
		})
	}
	all.Wait()
}

func BenchmarkXor(b *testing.B) {
	bytes := long(65536)
	b.SetBytes(65536)
	for b.Loop() {
		Xor(someKey(), someNonce(), 1, bytes)
	}
}
