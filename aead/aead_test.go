package aead

import (
	"bytes"
	"encoding/binary"
	"encoding/hex"
	"math/rand/v2"
	"strings"
	"sync"
	"testing"

	"domino/api"
	"domino/chacha"
	"domino/poly"
)

// long is n bytes of all kinds; always the same.
func long(n int) []byte {
	b := make([]byte, n)
	for i := range b {
		b[i] = byte(i*157 + i>>8 + 23)
	}
	return b
}

// beside is n bytes unlike those of long.
func beside(n int) []byte {
	return long(n + 77)[77:]
}

// some is n bytes of chance.
func some(chance *rand.Rand, n int) []byte {
	b := make([]byte, n)
	for i := range b {
		b[i] = byte(chance.Uint32())
	}
	return b
}

// scribble writes over all of b.
func scribble(b []byte) {
	for i := range b {
		b[i] ^= 0xff
	}
}

// someKey is a key in which all bytes are unlike.
func someKey() [32]byte {
	return [32]byte(long(32))
}

// someNonce is a nonce in which all bytes are unlike, and unlike those of
// someKey.
func someNonce() [12]byte {
	return [12]byte(long(100)[60:72])
}

// unhex is the bytes that digits of 16 say; blanks play no part.
func unhex(t *testing.T, digits string) []byte {
	t.Helper()
	b, err := hex.DecodeString(strings.Join(strings.Fields(digits), ""))
	if err != nil {
		t.Fatal(err)
	}
	return b
}

// wantSeal is what is sealed, by the words of the chapter.
func wantSeal(key [32]byte, nonce [12]byte, aad, plain []byte) []byte {
	sealed := chacha.Xor(key, nonce, 1, plain)
	told := bytes.Clone(aad)
	for len(told)%16 != 0 {
		told = append(told, 0)
	}
	told = append(told, sealed...)
	for len(told)%16 != 0 {
		told = append(told, 0)
	}
	told = binary.LittleEndian.AppendUint64(told, uint64(len(aad)))
	told = binary.LittleEndian.AppendUint64(told, uint64(len(plain)))
	block := chacha.Block(key, 0, nonce)
	tag := poly.Tag([32]byte(block[:32]), told)
	return append(sealed, tag[:]...)
}

// seal is what Seal answers where it must not refuse.
func seal(t *testing.T, key [32]byte, nonce [12]byte, aad, plain []byte) []byte {
	t.Helper()
	sealed, e := Seal(key, nonce, aad, plain)
	if e != api.OK {
		t.Fatalf("P7.1: Seal of %d bytes, %d beside: error %d", len(plain), len(aad), e)
	}
	return sealed
}

// check holds Seal against the chapter's words, and opens what is sealed.
func check(t *testing.T, key [32]byte, nonce [12]byte, aad, plain []byte) {
	t.Helper()
	sealed := seal(t, key, nonce, aad, plain)
	if want := wantSeal(key, nonce, aad, plain); !bytes.Equal(sealed, want) {
		t.Errorf("P7.1: Seal of %d bytes, %d beside: %.80x, not %.80x", len(plain), len(aad), sealed, want)
	}
	opened, e := Open(key, nonce, aad, sealed)
	if e != api.OK || !bytes.Equal(opened, plain) {
		t.Errorf("P7.2, what follows: %d bytes, %d beside, opened: %.80x, error %d", len(plain), len(aad), opened, e)
	}
}

// refused tells what Open does not refuse with the error want, and what it
// answers beside it.
func refused(t *testing.T, want api.Errno, key [32]byte, nonce [12]byte, aad, sealed []byte, what string) {
	t.Helper()
	opened, e := Open(key, nonce, aad, sealed)
	if e != want || len(opened) != 0 {
		t.Errorf("P7.2, R4, R5: Open of %d bytes, %d beside, %s: %.80x, error %d, not %d", len(sealed), len(aad), what, opened, e, want)
	}
}

// lengths are those at which bytes and bytes beside are tried.
func lengths() []int {
	return []int{0, 1, 2, 15, 16, 17, 31, 32, 33, 47, 48, 49, 63, 64, 65, 128, 1000}
}

// TestExample: the chapter's example; that the sixteen bytes are a tag, too.
func TestExample(t *testing.T) {
	sealed := seal(t, someKey(), someNonce(), nil, nil)
	if len(sealed) != 16 {
		t.Errorf("P7.1: the chapter's example: %x", sealed)
	}
	check(t, someKey(), someNonce(), nil, nil)
}

const sunscreen = "Ladies and Gentlemen of the class of '99: If I could offer you only one tip for the future, sunscreen would be it."

const drafts = "Internet-Drafts are draft documents valid for a maximum of six months and may be updated, replaced, or obsoleted by other documents at any time. It is inappropriate to use Internet-Drafts as reference material or to cite them other than as /\u201cwork in progress./\u201d"

// TestStandard: the examples of RFC 8439: of 2.8.2, and of A.5.
func TestStandard(t *testing.T) {
	for i, row := range []struct{ key, nonce, aad, plain, turned, tag string }{
		{"808182838485868788898a8b8c8d8e8f909192939495969798999a9b9c9d9e9f",
			"070000004041424344454647", "50515253c0c1c2c3c4c5c6c7", sunscreen,
			`d31a8d34648e60db7b86afbc53ef7ec2 a4aded51296e08fea9e2b5a736ee62d6
			3dbea45e8ca9671282fafb69da92728b 1a71de0a9e060b2905d6a5b67ecd3b36
			92ddbd7f2d778b8c9803aee328091b58 fab324e4fad675945585808b4831d7bc
			3ff4def08e4b7a9de576d26586cec64b 6116`,
			"1ae10b594f09e26a7e902ecbd0600691"},
		{"1c9240a5eb55d38af333888604f6b5f0473917c1402b80099dca5cbc207075c0",
			"000000000102030405060708", "f33388860000000000004e91", drafts,
			`64a0861575861af460f062c79be643bd 5e805cfd345cf389f108670ac76c8cb2
			4c6cfc18755d43eea09ee94e382d26b0 bdb7b73c321b0100d4f03b7f355894cf
			332f830e710b97ce98c8a84abd0b9481 14ad176e008d33bd60f982b1ff37c855
			9797a06ef4f0ef61c186324e2b350638 3606907b6a7c02b0f9f6157b53c867e4
			b9166c767b804d46a59b5216cde7a4e9 9040c5a40433225ee282a1b0a06c523e
			af4534d7f83fa1155b0047718cbc546a 0d072b04b3564eea1b422273f548271a
			0bb2316053fa76991955ebd63159434e cebb4e466dae5a1073a6727627097a10
			49e617d91d361094fa68f0ff77987130 305beaba2eda04df997b714d6c6f2c29
			a6ad5cb4022b02709b`,
			"eead9d67890cbb22392336fea1851f38"},
	} {
		key, nonce := [32]byte(unhex(t, row.key)), [12]byte(unhex(t, row.nonce))
		aad, want := unhex(t, row.aad), unhex(t, row.turned+row.tag)
		if got := seal(t, key, nonce, aad, []byte(row.plain)); !bytes.Equal(got, want) {
			t.Errorf("P7.1: the standard's example %d: %x, not %x", i, got, want)
		}
		if got, e := Open(key, nonce, aad, want); e != api.OK || string(got) != row.plain {
			t.Errorf("P7.2: the standard's example %d: %q, error %d", i, got, e)
		}
		if got := wantSeal(key, nonce, aad, []byte(row.plain)); !bytes.Equal(got, want) {
			t.Errorf("the standard's example %d, by the words: %x, not %x", i, got, want)
		}
	}
}

// TestOnceKey: the examples of RFC 8439 for the key of a tag: of 2.6.2, 2.8.2,
// and the three of A.4.
func TestOnceKey(t *testing.T) {
	zeros := strings.Repeat("00", 32)
	for i, row := range []struct{ key, nonce, want string }{
		{"808182838485868788898a8b8c8d8e8f909192939495969798999a9b9c9d9e9f", "000000000001020304050607",
			"8ad5a08b905f81cc815040274ab29471a833b637e3fd0da508dbb8e2fdd1a646"},
		{"808182838485868788898a8b8c8d8e8f909192939495969798999a9b9c9d9e9f", "070000004041424344454647",
			"7bac2b252db447af09b67a55a4e955840ae1d6731075d9eb2a9375783ed553ff"},
		{zeros, zeros[:24],
			"76b8e0ada0f13d90405d6ae55386bd28bdd219b8a08ded1aa836efcc8b770dc7"},
		{zeros[2:] + "01", zeros[:22] + "02",
			"ecfa254f845f647473d3cb140da9e87606cb33066c447b87bc2666dde3fbb739"},
		{"1c9240a5eb55d38af333888604f6b5f0473917c1402b80099dca5cbc207075c0", zeros[:22] + "02",
			"965e3bc6f9ec7ed9560808f4d229f94b137ff275ca9b3fcbdd59deaad23310ae"},
	} {
		got := onceKey([32]byte(unhex(t, row.key)), [12]byte(unhex(t, row.nonce)))
		if !bytes.Equal(got[:], unhex(t, row.want)) {
			t.Errorf("P7.1: the key of a tag, the standard's example %d: %x", i, got)
		}
	}
}

// TestLengths: bytes and bytes beside of all lengths about whole sixteens, in
// all pairs.
func TestLengths(t *testing.T) {
	for aad := range 3*16 + 2 {
		for plain := range 5*16 + 2 {
			check(t, someKey(), someNonce(), beside(aad), long(plain))
		}
	}
	for _, aad := range lengths() {
		for _, plain := range lengths() {
			check(t, someKey(), someNonce(), beside(aad), long(plain))
			check(t, someKey(), someNonce(), make([]byte, aad), make([]byte, plain))
			check(t, [32]byte{}, [12]byte{}, bytes.Repeat([]byte{0xff}, aad), bytes.Repeat([]byte{0xff}, plain))
		}
	}
	for _, n := range []int{255, 256, 257, 4095, 65519, 65520, 65521, 65535} {
		check(t, someKey(), someNonce(), beside(n), long(3))
		check(t, someKey(), someNonce(), beside(3), long(n))
		check(t, someKey(), someNonce(), beside(n), long(n))
	}
}

// TestOfChance: keys, nonces, bytes and bytes beside of chance.
func TestOfChance(t *testing.T) {
	chance := rand.New(rand.NewPCG(1, 2))
	for range 5000 {
		key, nonce := [32]byte(some(chance, 32)), [12]byte(some(chance, 12))
		check(t, key, nonce, some(chance, chance.IntN(100)), some(chance, chance.IntN(300)))
	}
}

// TestSealLimits: as many bytes as MaxPlain, and one more, on either side.
func TestSealLimits(t *testing.T) {
	for _, row := range []struct {
		aad, plain int
		want       api.Errno
	}{
		{0, api.MaxPlain, api.OK},
		{api.MaxPlain, 0, api.OK},
		{api.MaxPlain, api.MaxPlain, api.OK},
		{0, api.MaxPlain + 1, api.ErrLimit},
		{api.MaxPlain + 1, 0, api.ErrLimit},
		{api.MaxPlain, api.MaxPlain + 1, api.ErrLimit},
		{api.MaxPlain + 1, api.MaxPlain, api.ErrLimit},
		{api.MaxPlain + 1, api.MaxPlain + 1, api.ErrLimit},
		{0, api.MaxPlain + 16, api.ErrLimit},
		{0, 2 * api.MaxPlain, api.ErrLimit},
		{2 * api.MaxPlain, 0, api.ErrLimit},
		{1 << 24, 1 << 24, api.ErrLimit},
	} {
		sealed, e := Seal(someKey(), someNonce(), beside(row.aad), long(row.plain))
		if e != row.want || e != api.OK && len(sealed) != 0 {
			t.Errorf("P7.1, R4: Seal of %d bytes, %d beside: %d bytes, error %d, not %d", row.plain, row.aad, len(sealed), e, row.want)
		}
		if row.want == api.OK {
			check(t, someKey(), someNonce(), beside(row.aad), long(row.plain))
		}
	}
}

// TestOpenLimits: as many bytes as may be, and one more, on either side; as few,
// and one less; which error counts where more than one would be right.
func TestOpenLimits(t *testing.T) {
	const most = api.MaxPlain + 16
	for _, row := range []struct {
		aad, sealed int
		want        api.Errno
	}{
		{0, most, api.ErrOpen},
		{0, most + 1, api.ErrLimit},
		{0, 2 * most, api.ErrLimit},
		{0, api.MaxPlain + 1, api.ErrOpen},
		{api.MaxPlain, most, api.ErrOpen},
		{api.MaxPlain, most + 1, api.ErrLimit},
		{api.MaxPlain, 16, api.ErrOpen},
		{api.MaxPlain, 15, api.ErrShort},
		{api.MaxPlain, 0, api.ErrShort},
		{api.MaxPlain + 1, most + 1, api.ErrLimit},
		{api.MaxPlain + 1, most, api.ErrLimit},
		{api.MaxPlain + 1, 16, api.ErrLimit},
		{api.MaxPlain + 1, 15, api.ErrLimit},
		{api.MaxPlain + 1, 0, api.ErrLimit},
		{most, 100, api.ErrLimit},
		{0, 16, api.ErrOpen},
	} {
		refused(t, row.want, someKey(), someNonce(), beside(row.aad), long(row.sealed), "at the limits")
	}
	// Sealed by the words alone, so that nothing but its length is wrong.
	over := wantSeal(someKey(), someNonce(), nil, long(api.MaxPlain+1))
	refused(t, api.ErrLimit, someKey(), someNonce(), nil, over, "of more than MaxPlain")
	aside := wantSeal(someKey(), someNonce(), beside(api.MaxPlain+1), long(5))
	refused(t, api.ErrLimit, someKey(), someNonce(), beside(api.MaxPlain+1), aside, "with more than MaxPlain beside")
}

// TestShort: fewer than sixteen bytes, of all kinds.
func TestShort(t *testing.T) {
	empty := seal(t, someKey(), someNonce(), nil, nil)
	for n := range 16 {
		for _, aad := range lengths() {
			refused(t, api.ErrShort, someKey(), someNonce(), beside(aad), long(n), "too short")
			refused(t, api.ErrShort, someKey(), someNonce(), beside(aad), make([]byte, n), "zeros")
		}
		refused(t, api.ErrShort, someKey(), someNonce(), nil, empty[:n], "the first of a tag")
		refused(t, api.ErrShort, someKey(), someNonce(), nil, empty[16-n:], "the last of a tag")
	}
	refused(t, api.ErrShort, someKey(), someNonce(), nil, nil, "none")
	refused(t, api.ErrShort, [32]byte{}, [12]byte{}, []byte{}, []byte{}, "none")
}

// TestBitsTurned: a bit turned anywhere in what is sealed, beside it, in the
// nonce or in the key.
func TestBitsTurned(t *testing.T) {
	for _, n := range []int{0, 1, 15, 16, 17, 33, 64, 70} {
		for _, m := range []int{0, 1, 15, 16, 17, 33} {
			aad, key, nonce := beside(m), someKey(), someNonce()
			sealed := seal(t, key, nonce, aad, long(n))
			for _, part := range []struct {
				what string
				b    []byte
			}{{"what is sealed", sealed}, {"what is beside", aad}, {"the nonce", nonce[:]}, {"the key", key[:]}} {
				for bit := range 8 * len(part.b) {
					part.b[bit/8] ^= 1 << (bit % 8)
					refused(t, api.ErrOpen, key, nonce, aad, sealed, "a bit turned in "+part.what)
					part.b[bit/8] ^= 1 << (bit % 8)
				}
			}
			check(t, key, nonce, aad, long(n))
		}
	}
}

// TestBitsTurnedInMany: a bit turned in as many bytes as may be.
func TestBitsTurnedInMany(t *testing.T) {
	aad := beside(api.MaxPlain)
	sealed := seal(t, someKey(), someNonce(), aad, long(api.MaxPlain))
	for _, at := range []int{0, 1, 63, 64, 32768, 65519, 65520, 65535, 65536, 65551} {
		sealed[at] ^= 0x80
		refused(t, api.ErrOpen, someKey(), someNonce(), aad, sealed, "a bit turned")
		sealed[at] ^= 0x80
		if at < len(aad) {
			aad[at] ^= 1
			refused(t, api.ErrOpen, someKey(), someNonce(), aad, sealed, "a bit turned beside")
			aad[at] ^= 1
		}
	}
}

// TestTagOf: no bit of a tag is left out, not even of two that would make up
// for one another, nor is any other tag taken.
func TestTagOf(t *testing.T) {
	sealed := seal(t, someKey(), someNonce(), beside(20), long(20))
	for first := range 16 {
		for second := range first {
			turned := bytes.Clone(sealed)
			turned[20+first] ^= 0x41
			turned[20+second] ^= 0x41
			refused(t, api.ErrOpen, someKey(), someNonce(), beside(20), turned, "two bytes of the tag turned alike")
		}
	}
	for _, tag := range [][]byte{make([]byte, 16), bytes.Repeat([]byte{0xff}, 16), sealed[:16]} {
		refused(t, api.ErrOpen, someKey(), someNonce(), beside(20), append(bytes.Clone(sealed[:20]), tag...), "another tag")
	}
}

// TestCutAndAdded: bytes cut off, added or taken out, anywhere.
func TestCutAndAdded(t *testing.T) {
	for _, n := range []int{0, 1, 15, 16, 17, 32, 48} {
		for _, m := range []int{0, 1, 16, 17} {
			aad := beside(m)
			sealed := seal(t, someKey(), someNonce(), aad, long(n))
			bad := func(b []byte, what string) {
				t.Helper()
				want := api.ErrOpen
				if len(b) < 16 {
					want = api.ErrShort
				}
				refused(t, want, someKey(), someNonce(), aad, b, what)
			}
			for cut := 1; cut <= len(sealed); cut++ {
				bad(sealed[:len(sealed)-cut], "cut off at the end")
				bad(sealed[cut:], "cut off at the beginning")
				bad(append(bytes.Clone(sealed[:cut-1]), sealed[cut:]...), "a byte taken out")
			}
			for more := 1; more <= 33; more++ {
				for _, extra := range [][]byte{make([]byte, more), long(more)} {
					bad(append(bytes.Clone(sealed), extra...), "added at the end")
					bad(append(bytes.Clone(extra), sealed...), "added at the beginning")
					within := append(bytes.Clone(sealed[:n]), extra...)
					bad(append(within, sealed[n:]...), "added ahead of the tag")
				}
			}
			bad(append(bytes.Clone(sealed), sealed...), "twice")
		}
	}
}

// TestOtherBeside: bytes beside that are cut off, added, or none.
func TestOtherBeside(t *testing.T) {
	for _, m := range []int{0, 1, 15, 16, 17, 32, 48} {
		for _, n := range []int{0, 1, 16, 17} {
			aad := beside(m)
			sealed := seal(t, someKey(), someNonce(), aad, long(n))
			bad := func(b []byte, what string) {
				t.Helper()
				refused(t, api.ErrOpen, someKey(), someNonce(), b, sealed, what)
			}
			for cut := 1; cut <= m; cut++ {
				bad(aad[:m-cut], "cut off at the end of what is beside")
				bad(aad[cut:], "cut off at the beginning of what is beside")
			}
			for more := 1; more <= 33; more++ {
				for _, extra := range [][]byte{make([]byte, more), long(more)} {
					bad(append(bytes.Clone(aad), extra...), "added behind what is beside")
					bad(append(bytes.Clone(extra), aad...), "added ahead of what is beside")
				}
			}
		}
	}
}

// TestMoved: bytes moved from what is sealed to what is beside it, and back,
// where both stand in one row for the tag: their lengths tell.
func TestMoved(t *testing.T) {
	for n := 16; n <= 64; n += 16 {
		sealed := seal(t, someKey(), someNonce(), beside(32), long(n))
		all := append(beside(32), sealed...)
		for at := 0; at <= len(all)-16; at++ {
			if at != 32 {
				refused(t, api.ErrOpen, someKey(), someNonce(), all[:at], all[at:], "cut elsewhere")
			}
		}
	}
	// A byte and a padding of zeros are not the same as those zeros told.
	sealed := seal(t, someKey(), someNonce(), []byte{7}, nil)
	refused(t, api.ErrOpen, someKey(), someNonce(), append([]byte{7}, make([]byte, 15)...), sealed, "its padding told")
}

// TestOtherKeyAndNonce: what is sealed with one key and nonce is not as with
// another, and is not opened with it.
func TestOtherKeyAndNonce(t *testing.T) {
	chance := rand.New(rand.NewPCG(3, 4))
	for _, n := range []int{0, 1, 16, 64, 200} {
		sealed := seal(t, someKey(), someNonce(), beside(12), long(n))
		for range 300 {
			key, nonce := [32]byte(some(chance, 32)), [12]byte(some(chance, 12))
			refused(t, api.ErrOpen, key, someNonce(), beside(12), sealed, "another key")
			refused(t, api.ErrOpen, someKey(), nonce, beside(12), sealed, "another nonce")
			if bytes.Equal(seal(t, key, someNonce(), beside(12), long(n)), sealed) || bytes.Equal(seal(t, someKey(), nonce, beside(12), long(n)), sealed) {
				t.Errorf("P7.1: Seal of %d bytes is the same with another key, or nonce", n)
			}
		}
	}
}

// TestNoBytes: nil and empty ones are alike.
func TestNoBytes(t *testing.T) {
	for _, n := range []int{0, 1, 16, 40} {
		want := wantSeal(someKey(), someNonce(), long(n), nil)
		turned := wantSeal(someKey(), someNonce(), nil, long(n))
		for i, none := range [][]byte{nil, {}, long(10)[:0]} {
			if got := seal(t, someKey(), someNonce(), long(n), none); !bytes.Equal(got, want) {
				t.Errorf("R3: Seal of no bytes, in the way %d, %d beside: %x", i, n, got)
			}
			if got := seal(t, someKey(), someNonce(), none, long(n)); !bytes.Equal(got, turned) {
				t.Errorf("R3: Seal of %d bytes, none beside in the way %d: %x", n, i, got)
			}
			if got, e := Open(someKey(), someNonce(), none, turned); e != api.OK || !bytes.Equal(got, long(n)) {
				t.Errorf("R3: Open of %d bytes, none beside in the way %d: %x, error %d", n, i, got, e)
			}
			if got, e := Open(someKey(), someNonce(), long(n), want); e != api.OK || len(got) != 0 {
				t.Errorf("R3: Open of no bytes, %d beside: %x, error %d", n, got, e)
			}
			refused(t, api.ErrShort, someKey(), someNonce(), long(n), none, "none")
		}
	}
}

// roomy is b with room behind its end, in which something stands.
func roomy(b []byte) (part, whole []byte) {
	whole = append(bytes.Clone(b), bytes.Repeat([]byte{0xa5}, 100)...)
	return whole[:len(b)], whole
}

// TestNotChanged: what is handed in is as it was, and so is the room behind it;
// what stands there counts for nothing.
func TestNotChanged(t *testing.T) {
	for _, n := range lengths() {
		for _, m := range []int{0, 1, 15, 16, 17, 64} {
			key, nonce := someKey(), someNonce()
			want := wantSeal(key, nonce, beside(m), long(n))
			aad, aadWhole := roomy(beside(m))
			plain, plainWhole := roomy(long(n))
			sealed, sealedWhole := roomy(want)
			aadWas, plainWas, sealedWas := bytes.Clone(aadWhole), bytes.Clone(plainWhole), bytes.Clone(sealedWhole)
			if got := seal(t, key, nonce, aad, plain); !bytes.Equal(got, want) {
				t.Errorf("R3: Seal of %d bytes, %d beside: what stands behind the ends counts", n, m)
			}
			if got, e := Open(key, nonce, aad, sealed); e != api.OK || !bytes.Equal(got, long(n)) {
				t.Errorf("R3: Open of %d bytes, %d beside: what stands behind the ends counts", n, m)
			}
			refused(t, api.ErrOpen, key, nonce, aadWhole, sealed, "the room behind told, too")
			if !bytes.Equal(aadWhole, aadWas) || !bytes.Equal(plainWhole, plainWas) || !bytes.Equal(sealedWhole, sealedWas) || key != someKey() || nonce != someNonce() {
				t.Errorf("R3: of %d bytes, %d beside: what was handed in is changed", n, m)
			}
		}
	}
}

// TestNotChangedRefused: what is refused is as it was, too.
func TestNotChangedRefused(t *testing.T) {
	for _, n := range []int{0, 15, 16, 40, api.MaxPlain, api.MaxPlain + 16, api.MaxPlain + 17} {
		for _, m := range []int{0, 20, api.MaxPlain + 1} {
			aad, aadWhole := roomy(beside(m))
			b, whole := roomy(long(n))
			aadWas, was := bytes.Clone(aadWhole), bytes.Clone(whole)
			Seal(someKey(), someNonce(), aad, b)
			Open(someKey(), someNonce(), aad, b)
			if !bytes.Equal(aadWhole, aadWas) || !bytes.Equal(whole, was) {
				t.Errorf("R3: of %d bytes, %d beside: what was refused is changed", n, m)
			}
		}
	}
}

// TestOneMemory: the same bytes handed in as both, or with the ends of one in
// the other.
func TestOneMemory(t *testing.T) {
	b := long(100)
	check(t, someKey(), someNonce(), b, b)
	check(t, someKey(), someNonce(), b[:50], b[30:])
	check(t, someKey(), someNonce(), b[30:], b[:50])
	sealed := wantSeal(someKey(), someNonce(), nil, b)
	row := append(bytes.Clone(sealed), wantSeal(someKey(), someNonce(), sealed, b)...)
	if got, e := Open(someKey(), someNonce(), row[:len(sealed)], row[len(sealed):]); e != api.OK || !bytes.Equal(got, b) {
		t.Errorf("R3: Open of bytes that stand behind what is beside: error %d", e)
	}
}

// TestNewMemory: an answer stays, whatever is done to what was handed in, and to
// other answers with the room behind them.
func TestNewMemory(t *testing.T) {
	for _, n := range lengths() {
		key, nonce, aad, plain := someKey(), someNonce(), beside(n), long(n)
		want := wantSeal(key, nonce, aad, plain)
		first, second := seal(t, key, nonce, aad, plain), seal(t, key, nonce, aad, plain)
		sealed := bytes.Clone(want)
		opened, _ := Open(key, nonce, aad, sealed)
		other, _ := Open(key, nonce, aad, sealed)
		scribble(second[:cap(second)])
		scribble(other[:cap(other)])
		scribble(key[:])
		scribble(nonce[:])
		scribble(aad)
		scribble(plain)
		scribble(sealed)
		if !bytes.Equal(first, want) || !bytes.Equal(opened, long(n)) {
			t.Errorf("R3: of %d bytes: an answer hangs on what was handed in, or on another answer", n)
		}
		aad, plain, sealed = beside(n), long(n), bytes.Clone(want)
		first = seal(t, someKey(), someNonce(), aad, plain)
		opened, _ = Open(someKey(), someNonce(), aad, sealed)
		scribble(first[:cap(first)])
		scribble(opened[:cap(opened)])
		if !bytes.Equal(aad, beside(n)) || !bytes.Equal(plain, long(n)) || !bytes.Equal(sealed, want) {
			t.Errorf("R3: of %d bytes: who writes into an answer changes what was handed in", n)
		}
		check(t, someKey(), someNonce(), beside(n), long(n))
	}
}

// TestNotKept: no call knows of another: not of its key, its nonce or its bytes,
// nor whether it was refused.
func TestNotKept(t *testing.T) {
	chance := rand.New(rand.NewPCG(5, 6))
	for range 200 {
		key, nonce := [32]byte(some(chance, 32)), [12]byte(some(chance, 12))
		n, m := chance.IntN(80), chance.IntN(80)
		Seal(key, nonce, long(m), long(n))
		Open(key, nonce, long(m), long(n))
		Seal(key, nonce, long(api.MaxPlain+1), nil)
		check(t, someKey(), someNonce(), beside(m), long(n))
		check(t, key, someNonce(), beside(m), long(n))
		check(t, someKey(), nonce, beside(m), long(n))
	}
}

// TestPadded: each part, and with it zeros up to a multiple of sixteen, and not
// one more.
func TestPadded(t *testing.T) {
	for n := range 70 {
		for m := range 70 {
			parts := [][]byte{long(n), nil, beside(m)}
			at := 0
			for part, zeros := range padded(parts...) {
				if !bytes.Equal(part, parts[at]) || (len(part)+len(zeros))%16 != 0 || len(zeros) > 15 || len(bytes.Trim(zeros, "\x00")) != 0 {
					t.Errorf("P7.1: of %d and %d bytes: the part %d: %d bytes, padded with %x", n, m, at, len(part), zeros)
				}
				at++
			}
			if at != len(parts) {
				t.Errorf("P7.1: of %d and %d bytes: %d parts", n, m, at)
			}
		}
	}
}

// TestPaddedAgain: a sequence may be ranged over again, and left anywhere; what
// is told is new each time.
func TestPaddedAgain(t *testing.T) {
	all := padded(long(5), long(16), long(33))
	want := []int{11, 0, 15}
	for stop := 1; stop <= 4; stop++ {
		told := 0
		all(func(_, zeros []byte) bool {
			if len(zeros) != want[told] || len(bytes.Trim(zeros, "\x00")) != 0 {
				t.Errorf("R1: left behind %d parts: the padding %d: %x", stop, told, zeros)
			}
			scribble(zeros)
			told++
			return told != stop
		})
		if told != min(stop, 3) {
			t.Errorf("R1: left behind %d parts: %d", stop, told)
		}
	}
	for range padded() {
		t.Error("R6: of no parts there is a padding")
	}
}

// TestLength: eight bytes, the lowest first.
func TestLength(t *testing.T) {
	for _, n := range []int{0, 1, 255, 256, 257, 65535, 65536, 1<<24 + 5} {
		want := binary.LittleEndian.AppendUint64(nil, uint64(n))
		if got := length(make([]byte, n)); !bytes.Equal(got, want) {
			t.Errorf("P7.1: the length of %d bytes: %x, not %x", n, got, want)
		}
	}
}

// TestSideBySide: calls know nothing of one another.
func TestSideBySide(t *testing.T) {
	shared := long(400)
	var all sync.WaitGroup
	for i := range 8 {
		all.Go(func() {
			for n := i; n <= len(shared); n += 8 {
				key := [32]byte(long(n + 32)[n:])
				sealed, e := Seal(key, someNonce(), shared[n:], shared[:n])
				if e != api.OK || !bytes.Equal(sealed, wantSeal(key, someNonce(), shared[n:], shared[:n])) {
					t.Errorf("R2: Seal of %d bytes, beside others: error %d", n, e)
				}
				opened, e := Open(key, someNonce(), shared[n:], sealed)
				if e != api.OK || !bytes.Equal(opened, shared[:n]) {
					t.Errorf("R2: Open of %d bytes, beside others: error %d", n, e)
				}
			}
		})
	}
	all.Wait()
}

func BenchmarkSeal(b *testing.B) {
	text := long(api.MaxPlain)
	b.SetBytes(int64(len(text)))
	for b.Loop() {
		Seal(someKey(), someNonce(), nil, text)
	}
}
