package link

import (
	"bytes"
	"crypto/sha256"
	"encoding/hex"
	"math/big"
	"slices"
	"strings"
	"testing"

	"trellis/api"
)

// codecs: on both sides of where a codec needs a byte more, the named ones, and the greatest.
var codecs = []uint64{0, 1, 18, api.CodecRaw, api.CodecOld, api.CodecTree, 127, 128, 129, 200, 16383, 16384, 1 << 32, 1<<56 - 1, 1 << 56, 1<<63 - 1}

// lengths: of digests, on both sides of those that a hash has.
var lengths = []int{0, 1, 2, 18, 31, 32, 33, 63, 64, 65, 127, 128, 1000}

// tails: what may stand behind a link and must not be looked at.
var tails = []string{"", "\x00", "\x01", "\x80", "\xff", "\x12\x20", "\x01\x55\x00\x00", strings.Repeat("\xff", 80)}

// some tells so many bytes of a digest that are unlike from length to length.
func some(n int) string {
	b := make([]byte, n)
	for i := range b {
		b[i] = byte(i*29 + n*7 + 3)
	}
	return string(b)
}

// sha tells the SHA-256 of a text, as a link's digest.
func sha(s string) string {
	d := sha256.Sum256([]byte(s))
	return string(d[:])
}

// seven tells a number's varint, by numbers of any size.
func seven(n uint64) string {
	var b []byte
	left, step := new(big.Int).SetUint64(n), big.NewInt(128)
	for {
		digit := new(big.Int)
		left.QuoRem(left, step, digit)
		if left.Sign() == 0 {
			return string(append(b, byte(digit.Int64())))
		}
		b = append(b, byte(digit.Int64()+128))
	}
}

// every tells links of all versions, codecs, hashes and lengths, those that may be and others.
func every() []api.Link {
	var out []api.Link
	for _, version := range []int{0, 1, 2, -1, 18, 1 << 32, -1 << 63, 1<<63 - 1} {
		for _, codec := range append(slices.Clone(codecs), 1<<63, 1<<63+api.CodecRaw, 1<<64-1) {
			for _, hash := range []uint64{0, 1, 17, 18, 19, 32, 1 << 32, 1<<32 + 18, 1<<64 - 1} {
				for _, n := range lengths {
					out = append(out, api.Link{Version: version, Codec: codec, Hash: hash, Digest: some(n)})
				}
			}
		}
	}
	return out
}

// may tells whether a link is one of the document's table 'Links'.
func may(l api.Link) bool {
	n := len(l.Digest)
	if l.Version == 0 {
		return l.Codec == 0x70 && l.Hash == 0x12 && n == 32
	}
	sha, none := l.Hash == 0x12 && n == 32, l.Hash == 0 && n <= 64
	return l.Version == 1 && l.Codec <= 1<<63-1 && (sha || none)
}

// laid tells the bytes that the table gives a link that may be.
func laid(l api.Link) string {
	behind := seven(l.Hash) + seven(uint64(len(l.Digest))) + l.Digest
	if l.Version == 0 {
		return behind
	}
	return "\x01" + seven(l.Codec) + behind
}

// front tells the number at the front of bytes and what stands behind it; false if it is none.
func front(b string) (n uint64, behind string, ok bool) {
	for i := range len(b) {
		switch {
		case b[i] >= 0x80 && i == 8:
			return 0, "", false
		case b[i] >= 0x80:
			continue
		case b[i] == 0 && i > 0:
			return 0, "", false
		}
		for k := i; k >= 0; k-- {
			n = n*128 + uint64(b[k]%128)
		}
		return n, b[i+1:], true
	}
	return 0, "", false
}

// wanted tells what P4.5 asks of First, by its points in their order.
func wanted(b string) (api.Link, int, api.Errno) {
	l, behind, ok := api.Link{Codec: 0x70}, b, false
	if b == "" || b[0] != 18 {
		version, after, ok := front(b)
		if !ok {
			return api.Link{}, 0, api.ErrLinkForm
		}
		if version != 1 {
			return api.Link{}, 0, api.ErrLinkVersion
		}
		l.Version = 1
		if l.Codec, behind, ok = front(after); !ok {
			return api.Link{}, 0, api.ErrLinkForm
		}
	}
	if l.Hash, behind, ok = front(behind); !ok {
		return api.Link{}, 0, api.ErrLinkForm
	}
	length, behind, ok := front(behind)
	switch {
	case !ok:
		return api.Link{}, 0, api.ErrLinkForm
	case l.Hash != 18 && l.Hash != 0, l.Hash == 18 && length != 32, l.Hash == 0 && length > 64:
		return api.Link{}, 0, api.ErrLinkDigest
	case uint64(len(behind)) < length:
		return api.Link{}, 0, api.ErrLinkForm
	}
	l.Digest = behind[:length]
	return l, len(b) - len(behind) + int(length), api.OK
}

// checkFirst holds First and Parse against wanted; what they take must be what Bytes lays, and each shorter beginning no link.
func checkFirst(t *testing.T, b []byte) {
	t.Helper()
	kept := string(b)
	l, n, e := First(b)
	wl, wn, we := wanted(kept)
	if l != wl || n != wn || e != we {
		t.Fatalf("First(%x) = %+v, %d, %d; want %+v, %d, %d", b, l, n, e, wl, wn, we)
	}
	if e == api.OK && n < len(b) {
		wl, we = api.Link{}, api.ErrLinkLeft
	}
	if p, f := Parse(b); p != wl || f != we {
		t.Fatalf("Parse(%x) = %+v, %d; want %+v, %d", b, p, f, wl, we)
	}
	if string(b) != kept {
		t.Fatalf("First or Parse changed %x to %x", kept, b)
	}
	if e != api.OK {
		return
	}
	if again, f := Bytes(l); f != api.OK || !bytes.Equal(again, b[:n]) || Check(l) != api.OK {
		t.Fatalf("First(%x) = %+v, which is laid as %x, %d", b, l, again, f)
	}
	for i := range n {
		if l, k, e := First(b[:i]); l != (api.Link{}) || k != 0 || e != api.ErrLinkForm {
			t.Fatalf("First(%x) = %+v, %d, %d", b[:i], l, k, e)
		}
	}
}

// TestCheck: P4.1, links of all kinds against the table.
func TestCheck(t *testing.T) {
	taken := 0
	for _, l := range every() {
		want := api.ErrLinkNone
		if may(l) {
			taken++
			want = api.OK
		}
		if e := Check(l); e != want {
			t.Errorf("Check(%+v) = %d; want %d", l, e, want)
		}
	}
	// Version 0 once; of version 1 for each codec one of HashSha, nine of HashNone.
	if want := 1 + len(codecs)*10; taken != want {
		t.Errorf("%d of these links may be; want %d", taken, want)
	}
}

// TestCheckRows: P4.1, the edges one by one.
func TestCheckRows(t *testing.T) {
	for _, c := range []struct {
		l api.Link
		e api.Errno
	}{
		{api.Link{Codec: api.CodecOld, Hash: api.HashSha, Digest: some(32)}, api.OK},
		{api.Link{Version: 1, Codec: api.CodecOld, Hash: api.HashSha, Digest: some(32)}, api.OK},
		{api.Link{Version: 1}, api.OK},
		{api.Link{Version: 1, Codec: 1<<63 - 1, Digest: some(64)}, api.OK},
		{api.Link{Version: 1, Codec: 1<<63 - 1, Hash: api.HashSha, Digest: some(32)}, api.OK},
		{api.Link{}, api.ErrLinkNone},
		{api.Link{Codec: api.CodecTree, Hash: api.HashSha, Digest: some(32)}, api.ErrLinkNone},
		{api.Link{Codec: api.CodecOld, Hash: api.HashNone, Digest: some(32)}, api.ErrLinkNone},
		{api.Link{Codec: api.CodecOld, Hash: api.HashSha, Digest: some(31)}, api.ErrLinkNone},
		{api.Link{Codec: api.CodecOld, Hash: api.HashSha, Digest: some(33)}, api.ErrLinkNone},
		{api.Link{Version: 1, Hash: api.HashSha, Digest: some(31)}, api.ErrLinkNone},
		{api.Link{Version: 1, Hash: api.HashSha, Digest: some(33)}, api.ErrLinkNone},
		{api.Link{Version: 1, Hash: api.HashSha, Digest: some(64)}, api.ErrLinkNone},
		{api.Link{Version: 1, Hash: api.HashSha}, api.ErrLinkNone},
		{api.Link{Version: 1, Digest: some(65)}, api.ErrLinkNone},
		{api.Link{Version: 1, Hash: 0x13, Digest: some(32)}, api.ErrLinkNone},
		{api.Link{Version: 1, Codec: 1 << 63}, api.ErrLinkNone},
		{api.Link{Version: 1, Codec: 1 << 63, Hash: api.HashSha, Digest: some(32)}, api.ErrLinkNone},
		{api.Link{Version: 2, Hash: api.HashSha, Digest: some(32)}, api.ErrLinkNone},
		{api.Link{Version: -1, Codec: api.CodecOld, Hash: api.HashSha, Digest: some(32)}, api.ErrLinkNone},
	} {
		if e := Check(c.l); e != c.e {
			t.Errorf("Check(%+v) = %d; want %d", c.l, e, c.e)
		}
	}
}

// TestOf: P4.2, every codec's edge, blocks of many lengths, and codecs that no link has.
func TestOf(t *testing.T) {
	for _, codec := range codecs {
		for _, n := range lengths {
			want := api.Link{Version: 1, Codec: codec, Hash: api.HashSha, Digest: sha(some(n))}
			if l, e := Of(codec, []byte(some(n))); l != want || e != api.OK || Check(l) != api.OK {
				t.Errorf("Of(%d, %d bytes) = %+v, %d", codec, n, l, e)
			}
		}
	}
	if l, e := Of(api.CodecRaw, nil); l.Digest != sha("") || e != api.OK {
		t.Errorf("Of no bytes: %+v, %d", l, e)
	}
	for _, codec := range []uint64{1 << 63, 1<<63 + 1, 1<<63 + api.CodecRaw, 1<<64 - 1} {
		if l, e := Of(codec, []byte("abc")); l != (api.Link{}) || e != api.ErrLinkNone {
			t.Errorf("Of(%d) = %+v, %d", codec, l, e)
		}
	}
}

// TestHolds: P4.3, both hashes and versions, other bytes, and links that may not be, though their digest is that of the bytes.
func TestHolds(t *testing.T) {
	d, long := sha("abc"), some(65)
	for i, c := range []struct {
		l    api.Link
		b    string
		want bool
	}{
		{api.Link{Version: 1, Codec: api.CodecTree, Hash: api.HashSha, Digest: d}, "abc", true},
		{api.Link{Version: 1, Codec: 1<<63 - 1, Hash: api.HashSha, Digest: d}, "abc", true},
		{api.Link{Codec: api.CodecOld, Hash: api.HashSha, Digest: d}, "abc", true},
		{api.Link{Version: 1, Codec: api.CodecRaw, Hash: api.HashSha, Digest: sha("")}, "", true},
		{api.Link{Version: 1, Digest: "ab"}, "ab", true},
		{api.Link{Version: 1, Codec: api.CodecTree, Digest: "ab"}, "ab", true},
		{api.Link{Version: 1}, "", true},
		{api.Link{Version: 1, Digest: long[:64]}, long[:64], true},
		{api.Link{Version: 1, Hash: api.HashSha, Digest: d}, "abd", false},
		{api.Link{Version: 1, Hash: api.HashSha, Digest: d}, "ab", false},
		{api.Link{Version: 1, Hash: api.HashSha, Digest: d}, "", false},
		{api.Link{Version: 1, Hash: api.HashSha, Digest: d}, d, false},
		{api.Link{Version: 1, Hash: api.HashSha, Digest: long[:32]}, long[:32], false},
		{api.Link{Version: 1, Digest: "ab"}, "a", false},
		{api.Link{Version: 1, Digest: "ab"}, "abc", false},
		{api.Link{Version: 1, Digest: "ab"}, "", false},
		{api.Link{Version: 1}, "\x00", false},
		{api.Link{Version: 1, Digest: d}, "abc", false},
		{api.Link{Version: 1, Digest: long}, long, false},
		{api.Link{Codec: api.CodecTree, Hash: api.HashSha, Digest: d}, "abc", false},
		{api.Link{Codec: api.CodecOld, Digest: "ab"}, "ab", false},
		{api.Link{}, "", false},
		{api.Link{Version: 2, Hash: api.HashSha, Digest: d}, "abc", false},
		{api.Link{Version: 2, Digest: "ab"}, "ab", false},
		{api.Link{Version: 1, Codec: 1 << 63, Hash: api.HashSha, Digest: d}, "abc", false},
		{api.Link{Version: 1, Codec: 1 << 63, Digest: "ab"}, "ab", false},
		{api.Link{Version: 1, Hash: 0x13, Digest: d}, "abc", false},
		{api.Link{Version: 1, Hash: 0x13, Digest: "ab"}, "ab", false},
	} {
		if Holds(c.l, []byte(c.b)) != c.want {
			t.Errorf("case %d: Holds(%+v, %x) is not %v", i, c.l, c.b, c.want)
		}
	}
	if !Holds(api.Link{Version: 1}, nil) {
		t.Errorf("a link of no bytes does not hold nil")
	}
}

// TestBytes: P4.4, links of all kinds against the table; beside an error nothing.
func TestBytes(t *testing.T) {
	for _, l := range every() {
		want, we := "", api.ErrLinkNone
		if may(l) {
			want, we = laid(l), api.OK
		}
		if b, e := Bytes(l); string(b) != want || e != we {
			t.Errorf("Bytes(%+v) = %x, %d; want %x, %d", l, b, e, want, we)
		}
	}
}

// TestBytesKnown: P4.4 and P4.6, the chapter's examples.
func TestBytesKnown(t *testing.T) {
	empty := "e3b0c44298fc1c149afbf4c8996fb92427ae41e4649b934ca495991b7852b855"
	for _, c := range []struct {
		l   api.Link
		hex string
	}{
		{api.Link{Version: 1, Codec: api.CodecRaw, Hash: api.HashSha, Digest: sha("")}, "01551220" + empty},
		{api.Link{Codec: api.CodecOld, Hash: api.HashSha, Digest: sha("")}, "1220" + empty},
		{api.Link{Version: 1, Codec: api.CodecTree, Digest: "ab"}, "017100026162"},
		{api.Link{Version: 1, Codec: api.CodecRaw}, "01550000"},
		{api.Link{Version: 1, Codec: 127}, "017f0000"},
		{api.Link{Version: 1, Codec: 128}, "0180010000"},
		{api.Link{Version: 1, Codec: 1<<63 - 1, Digest: "ab"}, "01ffffffffffffffff7f00026162"},
	} {
		b, e := Bytes(c.l)
		if hex.EncodeToString(b) != c.hex || e != api.OK {
			t.Errorf("Bytes(%+v) = %x, %d; want %s", c.l, b, e, c.hex)
		}
		if l, e := Parse(b); l != c.l || e != api.OK {
			t.Errorf("Parse(%x) = %+v, %d", b, l, e)
		}
	}
}

// TestFirst: P4.5 and P4.6, the chapter's examples of what is taken and what is left.
func TestFirst(t *testing.T) {
	raw := api.Link{Version: 1, Codec: api.CodecRaw}
	if l, n, e := First([]byte{1, 0x55, 0, 0, 0xff}); l != raw || n != 4 || e != api.OK {
		t.Errorf("First: %+v, %d, %d", l, n, e)
	}
	if l, e := Parse([]byte{1, 0x55, 0, 0, 0xff}); l != (api.Link{}) || e != api.ErrLinkLeft {
		t.Errorf("Parse with a byte left: %+v, %d", l, e)
	}
	if l, e := Parse([]byte{1, 0x55, 0, 0}); l != raw || e != api.OK {
		t.Errorf("Parse: %+v, %d", l, e)
	}
	old := api.Link{Codec: api.CodecOld, Hash: api.HashSha, Digest: some(32)}
	if l, n, e := First([]byte("\x12\x20" + some(32) + "x")); l != old || n != 34 || e != api.OK {
		t.Errorf("First: %+v, %d, %d", l, n, e)
	}
}

// TestFirstRefuses: P4.5 and P4.6, what is refused, and which error comes first.
func TestFirstRefuses(t *testing.T) {
	eight, full := strings.Repeat("\xff", 8), some(80)
	for _, c := range []struct {
		b string
		e api.Errno
	}{
		{"", api.ErrLinkForm}, {"\x01", api.ErrLinkForm}, {"\x80", api.ErrLinkForm}, {"\x81\x00", api.ErrLinkForm}, {"\x81\x00\x55\x00\x00", api.ErrLinkForm}, {"\x92\x00\x20" + full, api.ErrLinkForm}, {"\x80\x00", api.ErrLinkForm}, {eight, api.ErrLinkForm}, {eight + "\xff\x01", api.ErrLinkForm},
		{"\x00", api.ErrLinkVersion}, {"\x00\x55", api.ErrLinkVersion}, {"\x02", api.ErrLinkVersion}, {"\x02\x80\x00", api.ErrLinkVersion}, {"\x11\x20" + full, api.ErrLinkVersion}, {"\x13\x20" + full, api.ErrLinkVersion}, {"\x7f", api.ErrLinkVersion}, {"\x81\x01\x55\x00\x00", api.ErrLinkVersion}, {"\x92\x01\x20" + full, api.ErrLinkVersion}, {"\x81\x80\x80\x80\x10\x55\x00\x00", api.ErrLinkVersion}, {eight + "\x7f", api.ErrLinkVersion},
		{"\x01\x80", api.ErrLinkForm}, {"\x01\x80\x00\x00\x00", api.ErrLinkForm}, {"\x01\xd5\x00\x13\x00", api.ErrLinkForm}, {"\x01" + eight + "\xff\x01\x00\x00", api.ErrLinkForm}, {"\x01" + eight + "\x80\x01\x00\x00", api.ErrLinkForm}, {"\x01" + eight, api.ErrLinkForm},
		{"\x01\x55", api.ErrLinkForm}, {"\x01\x55\x12", api.ErrLinkForm}, {"\x01\x55\x13", api.ErrLinkForm}, {"\x01\x55\x92\x00\x20" + full, api.ErrLinkForm}, {"\x01\x55\x80\x00\x00", api.ErrLinkForm}, {"\x01\x55\x13\x80\x00", api.ErrLinkForm}, {"\x01\x55\x00\x82\x00\x61\x62", api.ErrLinkForm}, {"\x01\x55" + eight + "\xff\x00", api.ErrLinkForm},
		{"\x01\x55\x12\x20", api.ErrLinkForm}, {"\x01\x55\x12\x20" + full[:31], api.ErrLinkForm}, {"\x01\x55\x00\x02\x61", api.ErrLinkForm}, {"\x01\x55\x00\x40" + full[:63], api.ErrLinkForm},
		{"\x01\x55\x13\x00", api.ErrLinkDigest}, {"\x01\x55\x01\x00", api.ErrLinkDigest}, {"\x01\x55\x13\x20" + full, api.ErrLinkDigest}, {"\x01\x55\x92\x01\x20" + full, api.ErrLinkDigest}, {"\x01\x55\x12\x1f", api.ErrLinkDigest}, {"\x01\x55\x12\x1f" + full, api.ErrLinkDigest}, {"\x01\x55\x12\x21" + full, api.ErrLinkDigest}, {"\x01\x55\x12\x00", api.ErrLinkDigest}, {"\x01\x55\x00\x41", api.ErrLinkDigest}, {"\x01\x55\x00\x41" + full, api.ErrLinkDigest}, {"\x01\x55\x12" + eight + "\x7f", api.ErrLinkDigest}, {"\x01\x12\x20" + full, api.ErrLinkDigest},
		{"\x12", api.ErrLinkForm}, {"\x12\x80", api.ErrLinkForm}, {"\x12\xa0\x00" + full, api.ErrLinkForm}, {"\x12\x20", api.ErrLinkForm}, {"\x12\x20" + full[:31], api.ErrLinkForm}, {"\x12" + eight + "\xff", api.ErrLinkForm},
		{"\x12\x1f", api.ErrLinkDigest}, {"\x12\x1f" + full, api.ErrLinkDigest}, {"\x12\x21" + full, api.ErrLinkDigest}, {"\x12\x00", api.ErrLinkDigest}, {"\x12\x40" + full, api.ErrLinkDigest},
	} {
		if l, n, e := First([]byte(c.b)); l != (api.Link{}) || n != 0 || e != c.e {
			t.Errorf("First(%x) = %+v, %d, %d; want %d", c.b, l, n, e, c.e)
		}
		if l, e := Parse([]byte(c.b)); l != (api.Link{}) || e != c.e {
			t.Errorf("Parse(%x) = %+v, %d; want %d", c.b, l, e, c.e)
		}
	}
	if l, n, e := First(nil); l != (api.Link{}) || n != 0 || e != api.ErrLinkForm {
		t.Errorf("First(nil) = %+v, %d, %d", l, n, e)
	}
}

// TestFirstAll: P4.5 and P4.6, every two first bytes, and every two behind a version and a codec, with as many bytes behind as a digest has, and others.
func TestFirstAll(t *testing.T) {
	for first := range 256 {
		checkFirst(t, []byte{byte(first)})
		for second := range 256 {
			two := string([]byte{byte(first), byte(second)})
			for _, n := range []int{0, 1, 31, 32, 33, 64, 65} {
				checkFirst(t, []byte(two+some(n)))
				checkFirst(t, []byte("\x01\x55"+two+some(n)))
				checkFirst(t, []byte("\x01\x80\x01"+two+some(n)))
			}
		}
	}
}

// TestNumbers: P4.5, versions, codecs, hashes and lengths of every size.
func TestNumbers(t *testing.T) {
	for k := range 63 {
		for _, n := range []uint64{1<<k - 1, 1 << k, 1<<k + 1, 1<<k + 18, 1<<k + 32} {
			x := seven(n)
			for _, behind := range []string{"", some(31), some(32), some(100)} {
				for _, ahead := range []string{x + "\x55\x00\x02", "\x01" + x + "\x00\x02", "\x01" + x + "\x12\x20", "\x01\x55" + x + "\x20", "\x01\x55\x00" + x, "\x01\x55\x12" + x, "\x12" + x} {
					checkFirst(t, []byte(ahead+behind))
				}
			}
		}
	}
}

// TestBack: P4.10, of every link that may be: its bytes are read as it, with whatever behind them; they are at most 76; no row is the beginning of another.
func TestBack(t *testing.T) {
	longest := 0
	rows := map[string]bool{}
	for _, l := range every() {
		b, e := Bytes(l)
		if e != api.OK {
			continue
		}
		longest = max(longest, len(b))
		rows[string(b)] = true
		if back, e := Parse(b); back != l || e != api.OK {
			t.Errorf("Parse(%x) = %+v, %d; want %+v", b, back, e, l)
		}
		for _, tail := range tails {
			checkFirst(t, []byte(string(b)+tail))
			if back, n, e := First([]byte(string(b) + tail)); back != l || n != len(b) || e != api.OK {
				t.Errorf("First(%x and %x) = %+v, %d, %d; want %+v", b, tail, back, n, e, l)
			}
		}
	}
	if longest != 76 || len(rows) != 1+len(codecs)*10 {
		t.Errorf("%d rows, the longest of %d bytes", len(rows), longest)
	}
	for row := range rows {
		for i := range row {
			if rows[row[:i]] {
				t.Errorf("%x begins with another link's bytes", row)
			}
		}
	}
}

// TestLess: P4.7 and P4.10, each two of many links: by their bytes; of two unlike ones just one is less; one that may not be never is.
func TestLess(t *testing.T) {
	var links []api.Link
	for _, l := range every() {
		if may(l) || l.Codec == api.CodecRaw && len(l.Digest)%32 == 0 {
			links = append(links, l)
		}
	}
	for i, a := range links {
		for k, b := range links {
			want := may(a) && may(b) && laid(a) < laid(b)
			if Less(a, b) != want {
				t.Fatalf("Less(%+v, %+v) is not %v", a, b, want)
			}
			if i < k && may(a) && may(b) && Less(a, b) == Less(b, a) {
				t.Fatalf("%+v and %+v: not just one is less", a, b)
			}
		}
	}
}

// TestLessRows: P4.7, rising links one by one: version 1 ahead of version 0, codecs by their bytes and not by their number.
func TestLessRows(t *testing.T) {
	rising := []api.Link{
		{Version: 1}, {Version: 1, Digest: "a"}, {Version: 1, Digest: "b"}, {Version: 1, Digest: "\xff"}, {Version: 1, Digest: "aa"}, {Version: 1, Hash: api.HashSha, Digest: some(32)},
		{Version: 1, Codec: 127}, {Version: 1, Codec: 128}, {Version: 1, Codec: 256}, {Version: 1, Codec: 129}, {Version: 1, Codec: 1<<63 - 1},
		{Codec: api.CodecOld, Hash: api.HashSha, Digest: strings.Repeat("\x00", 32)}, {Codec: api.CodecOld, Hash: api.HashSha, Digest: strings.Repeat("\xff", 32)},
	}
	for i, a := range rising {
		for k, b := range rising {
			if Less(a, b) != (i < k) {
				t.Errorf("Less(%+v, %+v) is not %v", a, b, i < k)
			}
		}
		for _, none := range []api.Link{{}, {Version: 2}, {Version: 1, Hash: 19}} {
			if Less(a, none) || Less(none, a) || Less(none, none) {
				t.Errorf("%+v, which may not be, is held against %+v", none, a)
			}
		}
	}
}

// spoil overwrites bytes, their spare room too.
func spoil(b []byte) {
	b = b[:cap(b)]
	for i := range b {
		b[i] ^= 0xee
	}
}

// TestMemory: P4.11, R2: bytes that are handed in are neither changed nor kept, and answers share no memory, spare room neither.
func TestMemory(t *testing.T) {
	for _, l := range every() {
		if !may(l) {
			continue
		}
		one, _ := Bytes(l)
		two, _ := Bytes(l)
		spoil(one)
		if string(two) != laid(l) {
			t.Fatalf("two answers of Bytes share memory: %x", two)
		}
		in := append(two, 7, 8, 9)
		read, _, _ := First(in)
		whole, _ := Parse(in[:len(two)])
		made, _ := Of(l.Codec, in)
		Holds(l, in)
		if string(in) != laid(l)+"\x07\x08\x09" {
			t.Fatalf("what was handed in was changed: %x", in)
		}
		digest := made.Digest
		spoil(in)
		if read != l || whole != l || made.Digest != digest || digest != sha(laid(l)+"\x07\x08\x09") {
			t.Fatalf("a link keeps the bytes that were handed in: %+v, %+v, %+v", read, whole, made)
		}
	}
}

// FuzzFirst: P4.11, R3: whatever is handed in, First and Parse end and tell what the chapter says.
func FuzzFirst(f *testing.F) {
	for _, n := range lengths {
		f.Add([]byte("\x01\x55\x00" + seven(uint64(n)) + some(n)))
		f.Add([]byte("\x01\x80\x01\x12" + seven(uint64(n)) + some(n)))
		f.Add([]byte("\x12" + seven(uint64(n)) + some(n)))
	}
	f.Fuzz(checkFirst)
}

// FuzzLink: P4.11, R3: whatever is handed in, every call that takes a link ends and tells what the table says.
func FuzzLink(f *testing.F) {
	for _, l := range []api.Link{{}, {Version: 1}, {Version: 2}, {Codec: api.CodecOld, Hash: api.HashSha, Digest: some(32)}, {Version: 1, Codec: 1 << 63}, {Version: 1, Hash: 19, Digest: some(65)}} {
		f.Add(l.Version, l.Codec, l.Hash, l.Digest, l.Codec, l.Hash, l.Digest, 1)
	}
	f.Fuzz(func(t *testing.T, version int, codec, hash uint64, digest string, codec2, hash2 uint64, digest2 string, base int) {
		a := api.Link{Version: version, Codec: codec, Hash: hash, Digest: digest}
		b := api.Link{Version: version, Codec: codec2, Hash: hash2, Digest: digest2}
		if (Check(a) == api.OK) != may(a) || Less(a, b) != (may(a) && may(b) && laid(a) < laid(b)) {
			t.Fatalf("%+v, %+v", a, b)
		}
		if Holds(a, []byte(digest2)) != (may(a) && (hash == 0 && digest == digest2 || hash == 18 && digest == sha(digest2))) {
			t.Fatalf("Holds(%+v, %x)", a, digest2)
		}
		if row, e := Bytes(a); (e == api.OK) != may(a) || e == api.OK && string(row) != laid(a) {
			t.Fatalf("Bytes(%+v) = %x, %d", a, row, e)
		}
		checkTexts(t, a, base)
	})
}
