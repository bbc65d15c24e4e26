package hkdf

import (
	"bytes"
	standard "crypto/hkdf"
	"crypto/sha256"
	"encoding/hex"
	"math"
	"slices"
	"strings"
	"sync"
	"testing"

	"domino/api"
	"domino/mac"
)

// long is n bytes of all kinds; always the same.
func long(n int) []byte {
	b := make([]byte, n)
	for i := range b {
		b[i] = byte(i*151 + i>>8 + 29)
	}
	return b
}

// row is n bytes that go up by one from the first.
func row(first byte, n int) []byte {
	b := make([]byte, n)
	for i := range b {
		b[i] = first + byte(i)
	}
	return b
}

// scribble writes over all of b.
func scribble(b []byte) {
	for i := range b {
		b[i] ^= 0xff
	}
}

// extracted is what the library has for Extract.
func extracted(t *testing.T, salt, key []byte) [32]byte {
	t.Helper()
	b, err := standard.Extract(sha256.New, key, salt)
	if err != nil {
		t.Fatal(err)
	}
	return [32]byte(b)
}

// expanded is what the library has for Expand.
func expanded(t *testing.T, key [32]byte, info []byte, n int) []byte {
	t.Helper()
	b, err := standard.Expand(sha256.New, key[:], string(info), n)
	if err != nil {
		t.Fatal(err)
	}
	return b
}

// ours is what Expand answers where it must not refuse.
func ours(t *testing.T, key [32]byte, info []byte, n int) []byte {
	t.Helper()
	b, e := Expand(key, info, n)
	if e != api.OK {
		t.Errorf("P4.1: Expand to %d bytes, with an info of %d: error %d", n, len(info), e)
	}
	return b
}

// lengths are those at which salts, keys and infos are tried.
func lengths() []int {
	return []int{0, 1, 2, 22, 31, 32, 33, 55, 56, 63, 64, 65, 80, 131, 1000}
}

// someKey is a key as Extract answers them.
func someKey() [32]byte {
	return [32]byte(long(32))
}

func TestExample(t *testing.T) {
	for _, info := range [][]byte{nil, []byte("info"), long(100)} {
		key := someKey()
		first := mac.Tag(key[:], info, []byte{1})
		second := mac.Tag(key[:], first[:], info, []byte{2})
		if got, want := ours(t, key, info, 40), append(first[:], second[:8]...); !bytes.Equal(got, want) {
			t.Errorf("P4.1: the chapter's example, with an info of %d bytes: %x, not %x", len(info), got, want)
		}
	}
}

// TestStandard: the examples of RFC 5869 that are for SHA-256.
func TestStandard(t *testing.T) {
	for i, r := range []struct {
		salt, key, info []byte
		middle, want    string
	}{
		{row(0, 13), bytes.Repeat([]byte{0x0b}, 22), row(0xf0, 10),
			"077709362c2e32df0ddc3f0dc47bba6390b6c73bb50f9c3122ec844ad7c2b3e5",
			"3cb25f25faacd57a90434f64d0362f2a2d2d0a90cf1a5a4c5db02d56ecc4c5bf34007208d5b887185865"},
		{row(0x60, 80), row(0, 80), row(0xb0, 80),
			"06a6b88c5853361a06104c9ceb35b45cef760014904671014a193f40c15fc244",
			"b11e398dc80327a1c8e7f78c596a49344f012eda2d4efad8a050cc4c19afa97c59045a99cac7827271cb41c65e590e09da3275600c2f09b8367793a9aca3db71cc30c58179ec3e87c14c01d5c1f3434f1d87"},
		{nil, bytes.Repeat([]byte{0x0b}, 22), nil,
			"19ef24a32c717b167f33a91d6f648bdf96596776afdb6377ac434c1c293ccb04",
			"8da4e775a563c18f715f802a063c5a31b8a11f5c5ee1879ec3454e5f3c738d2d9d201395faa4b61a96c8"},
	} {
		middle := Extract(r.salt, r.key)
		if hex.EncodeToString(middle[:]) != r.middle {
			t.Errorf("P4.1: Extract, the standard's example %d: %x", i+1, middle)
		}
		if got := ours(t, middle, r.info, len(r.want)/2); hex.EncodeToString(got) != r.want {
			t.Errorf("P4.1: Expand, the standard's example %d: %x", i+1, got)
		}
		if got := Key(r.salt, r.key, r.info); hex.EncodeToString(got[:]) != r.want[:64] {
			t.Errorf("P4.1: Key, the standard's example %d: %x", i+1, got)
		}
	}
}

// TestExtract: salts and keys of many lengths, none and many among them.
func TestExtract(t *testing.T) {
	for _, n := range lengths() {
		for _, m := range lengths() {
			salt, key := row(5, n), long(m)
			got := Extract(salt, key)
			if got != extracted(t, salt, key) || got != mac.Tag(salt, key) {
				t.Errorf("P4.1: Extract with a salt of %d bytes, of a key of %d: %x", n, m, got)
			}
		}
	}
}

// TestNoSalt: no salt is as one of 32 zeros, or of as many as a block of mac has;
// a one among them counts.
func TestNoSalt(t *testing.T) {
	for _, m := range lengths() {
		key := long(m)
		want := extracted(t, make([]byte, 32), key)
		if Extract(nil, key) != want || Extract([]byte{}, key) != want {
			t.Errorf("P4.1, R3: Extract without a salt, of a key of %d bytes", m)
		}
		for zeros := range 70 {
			if same := Extract(make([]byte, zeros), key) == want; same != (zeros <= 64) {
				t.Errorf("P4.1: Extract with a salt of %d zeros, of a key of %d bytes: as with 32: %v", zeros, m, same)
			}
		}
		if Extract([]byte{1}, key) == want || Extract(append(make([]byte, 31), 1), key) == want {
			t.Errorf("P4.1: Extract: a salt plays no part, of a key of %d bytes", m)
		}
		if Key(nil, key, []byte("i")) != Key(make([]byte, 32), key, []byte("i")) {
			t.Errorf("P4.1: Key without a salt, of a key of %d bytes", m)
		}
	}
	if Extract(long(3), nil) != Extract(long(3), []byte{}) {
		t.Error("R3: Extract of nil is not as of no bytes")
	}
}

// TestLengths: all lengths up to some pieces, and those about each whole piece,
// up to the greatest.
func TestLengths(t *testing.T) {
	for _, info := range [][]byte{nil, row(0xf0, 10), long(65)} {
		all := expanded(t, someKey(), info, 8160)
		for n := 1; n <= 8160; n++ {
			if over := n % 32; n > 200 && over > 1 && over < 31 {
				continue
			}
			if got := ours(t, someKey(), info, n); !bytes.Equal(got, all[:n]) {
				t.Errorf("P4.1: Expand to %d bytes, with an info of %d: %d bytes, %x", n, len(info), len(got), got)
			}
		}
	}
}

// TestByTheWords: each piece is made of the one ahead of it, to the last one.
func TestByTheWords(t *testing.T) {
	for _, info := range [][]byte{nil, long(1), long(100)} {
		key := someKey()
		all := ours(t, key, info, 8160)
		var before []byte
		for i := 1; i <= 255 && len(all) == 8160; i++ {
			want := mac.Tag(key[:], before, info, []byte{byte(i)})
			before = all[32*i-32 : 32*i]
			if !bytes.Equal(before, want[:]) {
				t.Errorf("P4.1: T(%d), with an info of %d bytes: %x, not %x", i, len(info), before, want)
			}
		}
	}
}

// TestRefused: lengths that may not be; where they are, nothing is answered.
func TestRefused(t *testing.T) {
	for _, n := range []int{0, -1, -31, -32, -8160, math.MinInt32, math.MinInt, 8161, 8192, 65536, math.MaxInt32, 1 << 32, 1<<32 + 32, math.MaxInt} {
		for _, info := range [][]byte{nil, long(10)} {
			if b, e := Expand(someKey(), info, n); e != api.ErrArg || b != nil {
				t.Errorf("P4.1, R4: Expand to %d bytes: %d bytes, error %d", n, len(b), e)
			}
		}
	}
	for _, n := range []int{1, 31, 32, 33, 64, 8159, 8160} {
		if got := ours(t, someKey(), long(10), n); len(got) != n {
			t.Errorf("P4.1: Expand to %d bytes: %d", n, len(got))
		}
	}
}

// TestInfo: infos of all lengths, none and many among them.
func TestInfo(t *testing.T) {
	for n := range 200 {
		if got := ours(t, someKey(), long(n), 70); !bytes.Equal(got, expanded(t, someKey(), long(n), 70)) {
			t.Errorf("P4.1: Expand with an info of %d bytes: %x", n, got)
		}
	}
	if got := ours(t, someKey(), long(65536), 8160); !bytes.Equal(got, expanded(t, someKey(), long(65536), 8160)) {
		t.Error("P4.1: Expand with an info of 65536 bytes")
	}
	if !bytes.Equal(ours(t, someKey(), nil, 70), ours(t, someKey(), []byte{}, 70)) {
		t.Error("R3: Expand with an info of nil is not as with one of no bytes")
	}
}

// TestBeginnings: fewer bytes are a beginning of more.
func TestBeginnings(t *testing.T) {
	kinds := []int{1, 2, 31, 32, 33, 63, 64, 65, 96, 1000, 8159, 8160}
	for i, few := range kinds {
		for _, more := range kinds[i:] {
			a, b := ours(t, someKey(), long(20), few), ours(t, someKey(), long(20), more)
			if !bytes.HasPrefix(b, a) || len(a) != few || len(b) != more {
				t.Errorf("what follows: %d bytes are no beginning of %d", few, more)
			}
		}
	}
}

// TestKey: it is Expand of Extract.
func TestKey(t *testing.T) {
	for _, n := range lengths() {
		for _, m := range lengths() {
			for _, k := range []int{0, 1, 32, 100} {
				salt, key, info := row(7, n), long(m), row(90, k)
				got := Key(salt, key, info)
				if !bytes.Equal(got[:], ours(t, Extract(salt, key), info, 32)) || !bytes.Equal(got[:], expanded(t, extracted(t, salt, key), info, 32)) {
					t.Errorf("P4.1: Key with a salt of %d bytes, a key of %d and an info of %d: %x", n, m, k, got)
				}
			}
		}
	}
	if Key(nil, nil, nil) != Key([]byte{}, []byte{}, []byte{}) {
		t.Error("R3: Key of nils is not as of no bytes")
	}
}

// TestEveryBit: each bit of a salt, a key and an info counts, and in which of
// them it is.
func TestEveryBit(t *testing.T) {
	all := [][]byte{long(40), row(3, 50), row(60, 30)}
	seen := map[[32]byte]string{Key(all[0], all[1], all[2]): "none"}
	for i, part := range all {
		for bit := range 8 * len(part) {
			name := "a bit of " + [3]string{"the salt", "the key", "the info"}[i]
			part[bit/8] ^= 1 << (bit % 8)
			got := Key(all[0], all[1], all[2])
			part[bit/8] ^= 1 << (bit % 8)
			if was, ok := seen[got]; ok {
				t.Errorf("P4.1: Key is the same with %s turned as with %s", name, was)
			}
			seen[got] = name
		}
	}
	for _, turned := range [][3]int{{0, 2, 1}, {1, 0, 2}, {1, 2, 0}, {2, 0, 1}, {2, 1, 0}} {
		got := Key(all[turned[0]], all[turned[1]], all[turned[2]])
		if was, ok := seen[got]; ok {
			t.Errorf("P4.1: Key of the parts in another order is as with %s turned", was)
		}
		seen[got] = "another order"
	}
}

// TestEveryBitOfExpand: each bit of a key counts, from the first byte on.
func TestEveryBitOfExpand(t *testing.T) {
	seen := map[string]bool{string(ours(t, someKey(), nil, 32)): true}
	for bit := range 256 {
		key := someKey()
		key[bit/8] ^= 1 << (bit % 8)
		got := string(ours(t, key, nil, 32))
		if seen[got] {
			t.Errorf("P4.1: Expand is the same with bit %d of the key turned", bit)
		}
		seen[got] = true
	}
}

// TestFollowAgain: a sequence may be ranged over again, left anywhere, and ends.
func TestFollowAgain(t *testing.T) {
	want := expanded(t, someKey(), long(20), 8160)
	all := follow(someKey(), long(20))
	for _, stop := range []int{1, 2, 3, 254, 255, 256, 0, 1} {
		var got []byte
		n := 0
		for piece := range all {
			got = append(got, piece[:]...)
			scribble(piece[:])
			if n++; n == stop {
				break
			}
		}
		if stop > 0 && n != min(stop, 255) || stop == 0 && n != 255 || !bytes.HasPrefix(want, got) {
			t.Errorf("R1: left behind %d pieces: %d", stop, n)
		}
	}
}

// TestOneMemory: salt, key and info may be the same bytes.
func TestOneMemory(t *testing.T) {
	for _, n := range lengths() {
		same := long(n)
		if Key(same, same, same) != Key(long(n), long(n), long(n)) || Extract(same, same) != extracted(t, long(n), long(n)) {
			t.Errorf("P4.1: %d bytes as salt, key and info", n)
		}
	}
}

// TestNotChanged: what is handed in is as it was, and so is the room behind it.
func TestNotChanged(t *testing.T) {
	for _, n := range lengths() {
		salt, key, info := append(long(n), long(100)...), append(row(1, n), long(100)...), append(row(2, n), long(100)...)
		was := [][]byte{slices.Clone(salt), slices.Clone(key), slices.Clone(info)}
		if Extract(salt[:n], key[:n]) != extracted(t, was[0][:n], was[1][:n]) {
			t.Errorf("P4.1: Extract of %d bytes: what stands behind the ends counts", n)
		}
		for _, m := range []int{0, 1, 33, 8160, 8161} {
			got, _ := Expand(someKey(), info[:n], m)
			if m > 0 && m < 8161 && !bytes.Equal(got, expanded(t, someKey(), was[2][:n], m)) {
				t.Errorf("P4.1: Expand with an info of %d bytes: what stands behind the end counts", n)
			}
		}
		if Key(salt[:n], key[:n], info[:n]) != Key(was[0][:n], was[1][:n], was[2][:n]) {
			t.Errorf("P4.1: Key of %d bytes: what stands behind the ends counts", n)
		}
		if !bytes.Equal(salt, was[0]) || !bytes.Equal(key, was[1]) || !bytes.Equal(info, was[2]) {
			t.Errorf("R3: a salt, a key or an info of %d bytes is changed", n)
		}
	}
}

// TestNotKept: an answer stays, whatever is done to what was handed in, and to
// other answers.
func TestNotKept(t *testing.T) {
	for _, n := range []int{1, 32, 64, 65, 131} {
		wantKey, wantMore := Key(long(n), row(1, n), row(2, n)), expanded(t, someKey(), row(2, n), 100)
		salt, key, info := long(n), row(1, n), row(2, n)
		first, middle := Key(salt, key, info), Extract(salt, key)
		more := ours(t, someKey(), info, 100)
		scribble(salt)
		scribble(key)
		scribble(info)
		if first != wantKey || middle != extracted(t, long(n), row(1, n)) || !bytes.Equal(more, wantMore) {
			t.Errorf("R3: an answer shares memory with what was handed in, %d bytes each", n)
		}
		other := ours(t, someKey(), row(2, n), 100)
		scribble(other[:cap(other)])
		if !bytes.Equal(more, wantMore) || !bytes.Equal(ours(t, someKey(), row(2, n), 100), wantMore) || Key(long(n), row(1, n), row(2, n)) != wantKey {
			t.Errorf("R3: an answer hangs on another, with %d bytes each", n)
		}
	}
}

// TestSideBySide: calls know nothing of one another.
func TestSideBySide(t *testing.T) {
	info := long(100)
	whole := expanded(t, someKey(), info, 8160)
	var all sync.WaitGroup
	for i := range 8 {
		all.Go(func() {
			for n := i + 1; n < 300; n += 8 {
				b, e := Expand(someKey(), info, n)
				if e != api.OK || !bytes.Equal(b, whole[:n]) || Key(info[:n/3], info, info) != Key(long(100)[:n/3], long(100), long(100)) {
					t.Errorf("R2: Expand to %d bytes, beside others", n)
				}
			}
		})
	}
	all.Wait()
}

// TestAsText: an info is bytes; what they would be as a text plays no part.
func TestAsText(t *testing.T) {
	for _, info := range []string{"\x00", "\x01", "\xff\xfe", "é", strings.Repeat("\x00", 33)} {
		if got := ours(t, someKey(), []byte(info), 64); !bytes.Equal(got, expanded(t, someKey(), []byte(info), 64)) {
			t.Errorf("P4.1: Expand with the info %q: %x", info, got)
		}
	}
}

func BenchmarkExpand(b *testing.B) {
	b.SetBytes(8160)
	for b.Loop() {
		Expand(someKey(), nil, 8160)
	}
}
