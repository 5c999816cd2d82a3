package digest

import (
	"bytes"
	"crypto/sha256"
	"encoding/hex"
	"math/big"
	"testing"

	"trellis/api"
)

// edges: lengths of texts on both sides of where the ending needs a block more, and of whole blocks.
var edges = []int{0, 1, 2, 54, 55, 56, 57, 62, 63, 64, 65, 118, 119, 120, 121, 127, 128, 129, 183, 184, 192, 256}

// sums: texts and their SHA-256, the chapter's and two that are longer.
var sums = []struct{ text, hex string }{
	{"", "e3b0c44298fc1c149afbf4c8996fb92427ae41e4649b934ca495991b7852b855"},
	{"abc", "ba7816bf8f01cfea414140de5dae2223b00361a396177a9cb410ff61f20015ad"},
	{"abcdbcdecdefdefgefghfghighijhijkijkljklmklmnlmnomnopnopq", "248d6a61d20638b8e5c026930c3e6039a33ce45964ff2167f6ecedd419db06c1"},
	{"abcdefghbcdefghicdefghijdefghijkefghijklfghijklmghijklmnhijklmnoijklmnopjklmnopqklmnopqrlmnopqrsmnopqrstnopqrstu", "cf5b16a778af8380036ce59e7b0492370b249b11e8f07a51afac45037afee9d1"},
	{string(bytes.Repeat([]byte("a"), 1000000)), "cdc76e5c9914fb9281a1c7e284d73e67f1809a48a497200e046d39ccc7112cd0"},
}

// tails: what may stand behind a digest and must not be looked at.
var tails = [][]byte{nil, {0x00}, {0x80}, {0xff}, {0x12, 0x20}, bytes.Repeat([]byte{0xff}, 12)}

// text tells so many bytes that repeat nowhere in step with a block.
func text(n int) []byte {
	b := make([]byte, n)
	for i := range b {
		b[i] = byte(i*7 + i/64*11 + n*3)
	}
	return b
}

// seven tells a number's varint, by numbers of any size.
func seven(n uint64) []byte {
	var b []byte
	left, step := new(big.Int).SetUint64(n), big.NewInt(128)
	for {
		digit := new(big.Int)
		left.QuoRem(left, step, digit)
		if left.Sign() == 0 {
			return append(b, byte(digit.Int64()))
		}
		b = append(b, byte(digit.Int64()+128))
	}
}

// front tells the number at the front of bytes, what stands behind it, and what P3.5 says of it if it is none.
func front(b []byte) (uint64, []byte, api.Errno) {
	for i, c := range b {
		switch {
		case c >= 0x80 && i == 8:
			return 0, nil, api.ErrDigestForm
		case c >= 0x80:
			continue
		case c == 0 && i > 0:
			return 0, nil, api.ErrDigestForm
		}
		n := uint64(0)
		for k := i; k >= 0; k-- {
			n = n*128 + uint64(b[k]%128)
		}
		return n, b[i+1:], api.OK
	}
	return 0, nil, api.ErrDigestShort
}

// wanted tells what P3.5 asks of Read, by its five points in their order.
func wanted(b []byte) (uint64, []byte, int, api.Errno) {
	hash, behind, e := front(b)
	if e != api.OK {
		return 0, nil, 0, e
	}
	length, behind, e := front(behind)
	if e != api.OK {
		return 0, nil, 0, e
	}
	switch {
	case hash != 18 && hash != 0:
		return 0, nil, 0, api.ErrDigestHash
	case hash == 18 && length != 32, hash == 0 && length > 64:
		return 0, nil, 0, api.ErrDigestLen
	case uint64(len(behind)) < length:
		return 0, nil, 0, api.ErrDigestShort
	}
	return hash, behind[:length], len(b) - len(behind) + int(length), api.OK
}

// refused tells whether beside an error nothing else is told.
func refused(hash uint64, d []byte, n int, e, want api.Errno) bool {
	return hash == 0 && len(d) == 0 && n == 0 && e == want
}

// checkRead holds Read against wanted; what it takes must be what Lay lays, and each shorter beginning too short.
func checkRead(t *testing.T, b []byte) {
	t.Helper()
	kept := bytes.Clone(b)
	hash, d, n, e := Read(b)
	if wh, wd, wn, we := wanted(b); hash != wh || !bytes.Equal(d, wd) || n != wn || e != we {
		t.Fatalf("Read(%x) = %d, %x, %d, %d; want %d, %x, %d, %d", b, hash, d, n, e, wh, wd, wn, we)
	}
	if !bytes.Equal(b, kept) {
		t.Fatalf("Read changed %x to %x", kept, b)
	}
	if e != api.OK {
		return
	}
	if again, e := Lay(hash, d); e != api.OK || !bytes.Equal(again, b[:n]) {
		t.Fatalf("Read(%x) = %d, %x, which is laid as %x, %d", b, hash, d, again, e)
	}
	for i := range n {
		if hash, d, n, e := Read(b[:i]); !refused(hash, d, n, e, api.ErrDigestShort) {
			t.Fatalf("Read(%x) = %d, %x, %d, %d", b[:i], hash, d, n, e)
		}
	}
}

// TestSumKnown: P3.1, texts whose SHA-256 is written out.
func TestSumKnown(t *testing.T) {
	for _, c := range sums {
		if d := Sum([]byte(c.text)); hex.EncodeToString(d[:]) != c.hex {
			t.Errorf("Sum of %d bytes = %x; want %s", len(c.text), d, c.hex)
		}
	}
}

// TestSum: P3.1, every length up to some blocks; bytes of all kinds.
func TestSum(t *testing.T) {
	if Sum(nil) != sha256.Sum256(nil) || Sum([]byte{}) != sha256.Sum256(nil) {
		t.Errorf("Sum of no bytes = %x", Sum(nil))
	}
	for n := range 400 {
		for _, b := range [][]byte{text(n), make([]byte, n), bytes.Repeat([]byte{0xff}, n), bytes.Repeat([]byte{0x80}, n)} {
			if d := Sum(b); d != sha256.Sum256(b) {
				t.Fatalf("Sum(%x) = %x", b, d)
			}
		}
	}
	for c := range 256 {
		if d := Sum([]byte{byte(c)}); d != sha256.Sum256([]byte{byte(c)}) {
			t.Errorf("Sum(%x) = %x", c, d)
		}
	}
}

// TestEnding: P3.1, how many bits there were, where that needs more than a few bytes: too many bytes to hash them here.
func TestEnding(t *testing.T) {
	for _, c := range []struct {
		count uint64
		zeros int
		bits  string
	}{
		{0, 55, "\x00\x00\x00\x00\x00\x00\x00\x00"}, {31, 24, "\x00\x00\x00\x00\x00\x00\x00\xf8"}, {55, 0, "\x00\x00\x00\x00\x00\x00\x01\xb8"},
		{56, 63, "\x00\x00\x00\x00\x00\x00\x01\xc0"}, {63, 56, "\x00\x00\x00\x00\x00\x00\x01\xf8"}, {64, 55, "\x00\x00\x00\x00\x00\x00\x02\x00"},
		{1 << 16, 55, "\x00\x00\x00\x00\x00\x08\x00\x00"}, {1 << 26, 55, "\x00\x00\x00\x00\x20\x00\x00\x00"},
		{1<<29 - 1, 56, "\x00\x00\x00\x00\xff\xff\xff\xf8"}, {1 << 29, 55, "\x00\x00\x00\x01\x00\x00\x00\x00"}, {1<<31 - 1, 56, "\x00\x00\x00\x03\xff\xff\xff\xf8"},
	} {
		want := append(append([]byte{0x80}, make([]byte, c.zeros)...), c.bits...)
		if b := ending(c.count); !bytes.Equal(b, want) {
			t.Errorf("behind %d bytes: %x; want %x", c.count, b, want)
		}
	}
}

// TestHash: P3.2, the chapter's example, and a hash to which nothing was written.
func TestHash(t *testing.T) {
	h := New()
	if h.Sum() != sha256.Sum256(nil) {
		t.Errorf("of nothing: %x", h.Sum())
	}
	h.Write([]byte("a"))
	h.Write(nil)
	if h.Sum() != sha256.Sum256([]byte("a")) {
		t.Errorf("of a: %x", h.Sum())
	}
	h.Write([]byte("bc"))
	if h.Sum() != sha256.Sum256([]byte("abc")) || h.Sum() != Sum([]byte("abc")) {
		t.Errorf("of abc: %x", h.Sum())
	}
}

// TestTwoPieces: P3.2, texts of the edges cut in two at every place, with and without a Sum in the midst; a hash keeps nothing of where they were cut.
func TestTwoPieces(t *testing.T) {
	for _, n := range edges {
		b, whole := text(n), New()
		whole.Write(b)
		want := sha256.Sum256(b)
		for cut := range n + 1 {
			plain, asked := New(), New()
			plain.Write(b[:cut])
			asked.Write(b[:cut])
			asked.Write([]byte{})
			if asked.Sum() != sha256.Sum256(b[:cut]) {
				t.Fatalf("the first %d of %d bytes", cut, n)
			}
			plain.Write(b[cut:])
			asked.Write(b[cut:])
			if plain.Sum() != want || asked.Sum() != want || asked.Sum() != want {
				t.Fatalf("%d bytes cut at %d: %x, %x", n, cut, plain.Sum(), asked.Sum())
			}
			if *plain != *whole || *asked != *whole {
				t.Fatalf("%d bytes cut at %d: a hash keeps where", n, cut)
			}
		}
	}
}

// TestManyPieces: P3.2, a text in pieces of every length up to some blocks, a Sum behind each.
func TestManyPieces(t *testing.T) {
	all := text(700)
	for size := 1; size <= 200; size++ {
		h := New()
		for at := 0; at < len(all); at += size {
			end := min(at+size, len(all))
			h.Write(all[at:end])
			if h.Sum() != sha256.Sum256(all[:end]) {
				t.Fatalf("pieces of %d, %d bytes so far", size, end)
			}
		}
	}
	for _, first := range edges {
		for _, second := range edges {
			h := New()
			h.Write(all[:first])
			h.Write(all[first : first+second])
			h.Write(all[first+second:])
			if h.Sum() != sha256.Sum256(all) {
				t.Fatalf("pieces of %d, %d and the rest", first, second)
			}
		}
	}
}

// TestHolds: P3.3, both hashes, the edges of their lengths, and hashes that are none.
func TestHolds(t *testing.T) {
	d, long := sha256.Sum256([]byte("abc")), text(65)
	for i, c := range []struct {
		hash uint64
		d, b []byte
		want bool
	}{
		{api.HashSha, d[:], []byte("abc"), true},
		{api.HashSha, d[:], []byte("ab"), false},
		{api.HashSha, d[:], d[:], false},
		{api.HashSha, d[:31], []byte("abc"), false},
		{api.HashSha, append(bytes.Clone(d[:]), 0), []byte("abc"), false},
		{api.HashSha, append(bytes.Clone(d[:]), d[:]...), []byte("abc"), false},
		{api.HashSha, nil, []byte("abc"), false},
		{api.HashSha, nil, nil, false},
		{api.HashSha, []byte("abc"), []byte("abc"), false},
		{api.HashNone, []byte("ab"), []byte("ab"), true},
		{api.HashNone, nil, nil, true},
		{api.HashNone, nil, []byte{}, true},
		{api.HashNone, nil, []byte{0}, false},
		{api.HashNone, []byte{0}, nil, false},
		{api.HashNone, []byte("ab"), []byte("abc"), false},
		{api.HashNone, []byte("abc"), []byte("ab"), false},
		{api.HashNone, []byte("ab"), []byte("ac"), false},
		{api.HashNone, long[:31], long[:31], true},
		{api.HashNone, long[:32], long[:32], true},
		{api.HashNone, long[:33], long[:33], true},
		{api.HashNone, long[:64], long[:64], true},
		{api.HashNone, long, long, false},
		{api.HashNone, long[:64], long, false},
		{api.HashNone, d[:], []byte("abc"), false},
		{0x13, d[:], []byte("abc"), false},
		{0x11, []byte("ab"), []byte("ab"), false},
		{1, nil, nil, false},
		{1<<64 - 1, d[:], []byte("abc"), false},
		{1<<32 + 0x12, d[:], []byte("abc"), false},
		{1 << 32, []byte("ab"), []byte("ab"), false},
	} {
		if Holds(c.hash, c.d, c.b) != c.want {
			t.Errorf("case %d: Holds(%d, %x, %x) is not %v", i, c.hash, c.d, c.b, c.want)
		}
	}
}

// TestHoldsAlone: P3.7, of one digest and no other: none with another bit, none longer or shorter, no other text's.
func TestHoldsAlone(t *testing.T) {
	for _, n := range edges {
		b := text(n)
		d := Sum(b)
		if !Holds(api.HashSha, d[:], b) {
			t.Fatalf("%d bytes do not have their own digest", n)
		}
		for bit := range 256 {
			other := d
			other[bit/8] ^= 1 << (bit % 8)
			if Holds(api.HashSha, other[:], b) {
				t.Fatalf("%d bytes have a digest with another bit %d", n, bit)
			}
		}
		for k := range d {
			if Holds(api.HashSha, d[:k], b) || Holds(api.HashSha, d[k+1:], b) {
				t.Fatalf("%d bytes have a digest of other than 32 bytes", n)
			}
		}
		for _, tail := range tails[1:] {
			if Holds(api.HashSha, append(bytes.Clone(d[:]), tail...), b) {
				t.Fatalf("%d bytes have a digest and more", n)
			}
		}
		if Holds(api.HashSha, d[:], append(bytes.Clone(b), 0)) {
			t.Fatalf("%d bytes and a zero have the digest of %d bytes", n, n)
		}
	}
}

// TestLay: P3.4, the chapter's examples, the edges of the lengths, and wrong hashes and lengths.
func TestLay(t *testing.T) {
	d, long := sha256.Sum256([]byte("abc")), text(65)
	for i, c := range []struct {
		hash uint64
		d, b []byte
		e    api.Errno
	}{
		{api.HashNone, []byte("ab"), []byte{0, 2, 'a', 'b'}, api.OK},
		{api.HashNone, nil, []byte{0, 0}, api.OK},
		{api.HashNone, []byte{}, []byte{0, 0}, api.OK},
		{api.HashNone, long[:31], append([]byte{0, 31}, long[:31]...), api.OK},
		{api.HashNone, long[:32], append([]byte{0, 32}, long[:32]...), api.OK},
		{api.HashNone, long[:33], append([]byte{0, 33}, long[:33]...), api.OK},
		{api.HashNone, long[:64], append([]byte{0, 64}, long[:64]...), api.OK},
		{api.HashSha, d[:], append([]byte{0x12, 0x20}, d[:]...), api.OK},
		{api.HashNone, long, nil, api.ErrDigestLen},
		{api.HashNone, text(256), nil, api.ErrDigestLen},
		{api.HashSha, nil, nil, api.ErrDigestLen},
		{api.HashSha, long[:31], nil, api.ErrDigestLen},
		{api.HashSha, long[:33], nil, api.ErrDigestLen},
		{api.HashSha, long[:64], nil, api.ErrDigestLen},
		{api.HashSha, long, nil, api.ErrDigestLen},
		{0x13, d[:], nil, api.ErrDigestHash},
		{0x13, long, nil, api.ErrDigestHash},
		{1, nil, nil, api.ErrDigestHash},
		{0x11, []byte("ab"), nil, api.ErrDigestHash},
		{1 << 63, d[:], nil, api.ErrDigestHash},
		{1<<64 - 1, nil, nil, api.ErrDigestHash},
		{1<<32 + 0x12, d[:], nil, api.ErrDigestHash},
	} {
		if b, e := Lay(c.hash, c.d); !bytes.Equal(b, c.b) || e != c.e {
			t.Errorf("case %d: Lay(%d, %x) = %x, %d; want %x, %d", i, c.hash, c.d, b, e, c.b, c.e)
		}
	}
}

// TestRead: P3.5, the chapter's examples and the edges that are taken.
func TestRead(t *testing.T) {
	d := sha256.Sum256(nil)
	for _, c := range []struct {
		b    []byte
		hash uint64
		d    []byte
		n    int
	}{
		{[]byte{0, 2, 'a', 'b', 'c'}, 0, []byte("ab"), 4},
		{[]byte{0, 0}, 0, nil, 2},
		{[]byte{0, 0, 0x80}, 0, nil, 2},
		{append([]byte{0, 64}, text(65)...), 0, text(65)[:64], 66},
		{append([]byte{18, 32}, d[:]...), 18, d[:], 34},
		{append([]byte{18, 32}, text(40)...), 18, text(40)[:32], 34},
	} {
		if hash, d, n, e := Read(c.b); hash != c.hash || !bytes.Equal(d, c.d) || n != c.n || e != api.OK {
			t.Errorf("Read(%x) = %d, %x, %d, %d", c.b, hash, d, n, e)
		}
	}
}

// TestReadRefuses: P3.5, what is refused, and which error comes first.
func TestReadRefuses(t *testing.T) {
	eight := string(bytes.Repeat([]byte{0xff}, 8))
	full := string(text(70))
	for _, c := range []struct {
		b string
		e api.Errno
	}{
		{"", api.ErrDigestShort}, {"\x80", api.ErrDigestShort}, {eight, api.ErrDigestShort},
		{"\x12", api.ErrDigestShort}, {"\x00", api.ErrDigestShort}, {"\x13", api.ErrDigestShort}, {"\x13\x80", api.ErrDigestShort}, {"\x00" + eight, api.ErrDigestShort},
		{"\x00\x02\x61", api.ErrDigestShort}, {"\x00\x01", api.ErrDigestShort}, {"\x00\x40" + full[:63], api.ErrDigestShort}, {"\x12\x20", api.ErrDigestShort}, {"\x12\x20" + full[:31], api.ErrDigestShort},
		{"\x92\x00", api.ErrDigestForm}, {"\x92\x00\x20" + full, api.ErrDigestForm}, {"\x80\x00", api.ErrDigestForm}, {eight + "\xff", api.ErrDigestForm}, {eight + "\xff\x01\x00", api.ErrDigestForm},
		{"\x13\x80\x00", api.ErrDigestForm}, {"\x12\xa0\x00" + full, api.ErrDigestForm}, {"\x00\x80\x00", api.ErrDigestForm}, {"\x12" + eight + "\xff", api.ErrDigestForm}, {"\x00" + eight + "\x80\x01", api.ErrDigestForm},
		{"\x13\x00", api.ErrDigestHash}, {"\x13\x20", api.ErrDigestHash}, {"\x13\x41", api.ErrDigestHash}, {"\x01\x00", api.ErrDigestHash}, {"\x11\x20" + full, api.ErrDigestHash}, {"\x92\x01\x20" + full, api.ErrDigestHash}, {eight + "\x7f\x00", api.ErrDigestHash}, {"\x92\x80\x80\x80\x10\x20" + full, api.ErrDigestHash},
		{"\x00\x41", api.ErrDigestLen}, {"\x00\x41" + full, api.ErrDigestLen}, {"\x00\xff\x01", api.ErrDigestLen}, {"\x00" + eight + "\x7f", api.ErrDigestLen}, {"\x00\x80\x80\x80\x80\x10", api.ErrDigestLen},
		{"\x12\x1f", api.ErrDigestLen}, {"\x12\x1f" + full, api.ErrDigestLen}, {"\x12\x21" + full, api.ErrDigestLen}, {"\x12\x00", api.ErrDigestLen}, {"\x12\x40" + full, api.ErrDigestLen}, {"\x12" + eight + "\x7f", api.ErrDigestLen}, {"\x12\xa0\x80\x80\x80\x10" + full, api.ErrDigestLen},
	} {
		if hash, d, n, e := Read([]byte(c.b)); !refused(hash, d, n, e, c.e) {
			t.Errorf("Read(%x) = %d, %x, %d, %d; want %d", c.b, hash, d, n, e, c.e)
		}
	}
	if hash, d, n, e := Read(nil); !refused(hash, d, n, e, api.ErrDigestShort) {
		t.Errorf("Read(nil) = %d, %x, %d, %d", hash, d, n, e)
	}
}

// TestReadAll: P3.5 and P3.6, every two first bytes, with bytes behind them as many as a digest has, one more and one fewer.
func TestReadAll(t *testing.T) {
	checkRead(t, nil)
	for first := range 256 {
		checkRead(t, []byte{byte(first)})
		for second := range 256 {
			two := []byte{byte(first), byte(second)}
			for _, n := range []int{0, 1, 31, 32, 33, 63, 64, 65, 66} {
				checkRead(t, append(bytes.Clone(two), text(n)...))
				checkRead(t, append(bytes.Clone(two), make([]byte, n)...))
			}
		}
	}
}

// TestNumbers: P3.5, hashes and lengths of every size.
func TestNumbers(t *testing.T) {
	for k := range 63 {
		for _, n := range []uint64{1<<k - 1, 1 << k, 1<<k + 18, 1<<k + 32} {
			for _, behind := range [][]byte{nil, text(31), text(32), text(100)} {
				checkRead(t, append(append([]byte{0}, seven(n)...), behind...))
				checkRead(t, append(append([]byte{18}, seven(n)...), behind...))
				checkRead(t, append(append(seven(n), 32), behind...))
				checkRead(t, append(append(seven(n), seven(n)...), behind...))
			}
		}
	}
}

// TestBack: P3.6, what is laid is read, with whatever behind it; each shorter beginning is too short; no row is the beginning of another.
func TestBack(t *testing.T) {
	var rows [][]byte
	back := func(hash uint64, d []byte) {
		b, e := Lay(hash, d)
		if e != api.OK {
			t.Fatalf("Lay(%d, %x): %d", hash, d, e)
		}
		rows = append(rows, b)
		for _, tail := range tails {
			rh, rd, n, e := Read(append(bytes.Clone(b), tail...))
			if rh != hash || !bytes.Equal(rd, d) || n != len(b) || e != api.OK {
				t.Errorf("%x and %x: %d, %x, %d, %d", b, tail, rh, rd, n, e)
			}
		}
		for i := range b {
			if rh, rd, n, e := Read(b[:i]); !refused(rh, rd, n, e, api.ErrDigestShort) {
				t.Errorf("%x: %d, %x, %d, %d", b[:i], rh, rd, n, e)
			}
		}
	}
	for n := range 65 {
		back(api.HashNone, text(n))
		back(api.HashSha, text(n + 32)[n:])
	}
	for i, a := range rows {
		for k, b := range rows {
			if i != k && bytes.HasPrefix(a, b) {
				t.Errorf("%x begins with %x", a, b)
			}
		}
	}
}

// spoil overwrites bytes, their spare room too.
func spoil(b []byte) {
	b = b[:cap(b)]
	for i := range b {
		b[i] ^= 0xee
	}
}

// TestMemory: P3.8, R2: what is handed in is neither changed nor kept, and answers share no memory, spare room neither.
func TestMemory(t *testing.T) {
	for _, n := range edges[:11] {
		d := text(n)
		in := append(text(n), 1, 2, 3)[:n]
		Holds(api.HashNone, in, in)
		Holds(api.HashSha, in, in)
		Sum(in)
		one, e := Lay(api.HashNone, in)
		if !bytes.Equal(in[:n+3], append(text(n), 1, 2, 3)) {
			t.Fatalf("%d bytes that were handed in were changed: %x", n, in[:n+3])
		}
		if e != api.OK {
			continue
		}
		two, _ := Lay(api.HashNone, in)
		spoil(in)
		spoil(one)
		if !bytes.Equal(two, append([]byte{0, byte(n)}, d...)) {
			t.Errorf("Lay of %d bytes shares memory: %x", n, two)
		}
		row := append(bytes.Clone(two), 7, 8, 9)
		_, read, _, _ := Read(row)
		_, again, _, _ := Read(row)
		spoil(read)
		if !bytes.Equal(row, append(bytes.Clone(two), 7, 8, 9)) {
			t.Errorf("what Read tells is part of what it was handed: %x", row)
		}
		spoil(row)
		if !bytes.Equal(again, d) {
			t.Errorf("two answers of Read share memory, or with what it was handed: %x", again)
		}
	}
}

// TestHashMemory: P3.8, R2: a hash neither changes nor keeps what is written to it, and its answers are the caller's own.
func TestHashMemory(t *testing.T) {
	for _, n := range edges {
		h, b := New(), text(n)
		room := append(text(n), 1, 2, 3)
		h.Write(room[:n])
		if !bytes.Equal(room, append(text(n), 1, 2, 3)) {
			t.Fatalf("Write changed %d bytes to %x", n, room)
		}
		spoil(room)
		d := h.Sum()
		spoil(d[:])
		if h.Sum() != sha256.Sum256(b) {
			t.Errorf("a hash keeps the %d bytes that it was handed", n)
		}
	}
}

// TestTwoHashes: P3.8, two hashes have nothing in common, nor has a hash with a Sum beside it.
func TestTwoHashes(t *testing.T) {
	one, two, none := New(), New(), New()
	var a, b []byte
	for i := range 200 {
		p, q := text(i%67), bytes.Repeat([]byte{byte(i)}, i%5*13)
		a, b = append(a, p...), append(b, q...)
		one.Write(p)
		two.Write(q)
		Sum(text(i))
		if one.Sum() != sha256.Sum256(a) || two.Sum() != sha256.Sum256(b) || none.Sum() != sha256.Sum256(nil) {
			t.Fatalf("piece %d: %x, %x, %x", i, one.Sum(), two.Sum(), none.Sum())
		}
	}
}

// FuzzHash: P3.8, R3: whatever is written, in whatever pieces, the SHA-256 is that of all of it.
func FuzzHash(f *testing.F) {
	for _, n := range edges {
		f.Add(text(n), uint16(n/2), uint16(n/3))
	}
	f.Fuzz(func(t *testing.T, b []byte, first, second uint16) {
		i := int(first) % (len(b) + 1)
		k := i + int(second)%(len(b)-i+1)
		h := New()
		for _, piece := range [][]byte{b[:i], b[i:k], b[k:]} {
			h.Write(piece)
			h.Sum()
		}
		d := h.Sum()
		if d != sha256.Sum256(b) || d != Sum(b) || !Holds(api.HashSha, d[:], b) || Holds(api.HashNone, b, b) != (len(b) <= 64) {
			t.Fatalf("%x in pieces to %d and %d: %x", b, i, k, d)
		}
	})
}

// FuzzRead: P3.8, R3: whatever is handed in, Read ends and tells what the chapter says.
func FuzzRead(f *testing.F) {
	for _, n := range []int{0, 1, 31, 32, 33, 64, 65} {
		f.Add(append([]byte{0, byte(n)}, text(n)...))
		f.Add(append([]byte{18, byte(n)}, text(n)...))
		f.Add(append([]byte{0x92, 0, byte(n)}, text(n)...))
	}
	f.Fuzz(checkRead)
}

// FuzzLay: P3.8, R3: whatever is handed in, Lay ends, and takes it just if Read takes what it would be.
func FuzzLay(f *testing.F) {
	for _, hash := range []uint64{0, 18, 19, 1 << 63, 1<<64 - 1} {
		for _, n := range []int{0, 31, 32, 33, 64, 65} {
			f.Add(hash, text(n))
		}
	}
	f.Fuzz(func(t *testing.T, hash uint64, d []byte) {
		b, e := Lay(hash, d)
		full := append(append(seven(hash), seven(uint64(len(d)))...), d...)
		if hash >= 1<<63 {
			if len(b) != 0 || e != api.ErrDigestHash {
				t.Fatalf("Lay(%d, %x) = %x, %d", hash, d, b, e)
			}
			return
		}
		if _, _, _, we := wanted(full); e != we || e == api.OK && !bytes.Equal(b, full) || e != api.OK && len(b) != 0 {
			t.Fatalf("Lay(%d, %x) = %x, %d; want %d", hash, d, b, e, we)
		}
	})
}
