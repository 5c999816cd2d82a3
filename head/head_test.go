package head

import (
	"bytes"
	"math/big"
	"testing"

	"trellis/api"
)

// rows: heads of MajorInt and their arguments, each on its own written out by hand: both sides of each further length. Another major adds to the first byte alone.
var rows = []struct {
	n uint64
	b []byte
}{
	{0, []byte{0x00}},
	{1, []byte{0x01}},
	{10, []byte{0x0a}},
	{22, []byte{0x16}},
	{23, []byte{0x17}},
	{24, []byte{0x18, 0x18}},
	{25, []byte{0x18, 0x19}},
	{28, []byte{0x18, 0x1c}},
	{31, []byte{0x18, 0x1f}},
	{32, []byte{0x18, 0x20}},
	{255, []byte{0x18, 0xff}},
	{256, []byte{0x19, 0x01, 0x00}},
	{0x1234, []byte{0x19, 0x12, 0x34}},
	{65535, []byte{0x19, 0xff, 0xff}},
	{65536, []byte{0x1a, 0x00, 0x01, 0x00, 0x00}},
	{0x12345678, []byte{0x1a, 0x12, 0x34, 0x56, 0x78}},
	{1<<32 - 1, []byte{0x1a, 0xff, 0xff, 0xff, 0xff}},
	{1 << 32, []byte{0x1b, 0x00, 0x00, 0x00, 0x01, 0x00, 0x00, 0x00, 0x00}},
	{0x123456789abcdef0, []byte{0x1b, 0x12, 0x34, 0x56, 0x78, 0x9a, 0xbc, 0xde, 0xf0}},
	{1<<63 - 1, []byte{0x1b, 0x7f, 0xff, 0xff, 0xff, 0xff, 0xff, 0xff, 0xff}},
	{1 << 63, []byte{0x1b, 0x80, 0x00, 0x00, 0x00, 0x00, 0x00, 0x00, 0x00}},
	{1<<64 - 1, []byte{0x1b, 0xff, 0xff, 0xff, 0xff, 0xff, 0xff, 0xff, 0xff}},
}

// tails: what may stand behind a head and must not be looked at.
var tails = [][]byte{nil, {0x00}, {0x1c}, {0xff}, {0xf8, 0x1f}, bytes.Repeat([]byte{0xff}, 12), bytes.Repeat([]byte{0x00}, 12)}

// of tells a row's head with another major.
func of(major int, b []byte) []byte {
	out := bytes.Clone(b)
	out[0] += byte(32 * major)
	return out
}

// numbers tells arguments in rising order: all small ones, and those around each power of two.
func numbers() []uint64 {
	var out []uint64
	for n := range uint64(1 << 10) {
		out = append(out, n)
	}
	for k := 10; k < 64; k++ {
		p := uint64(1) << k
		for _, n := range []uint64{p - 1, p, p + 1, p + p/3} {
			if n > out[len(out)-1] {
				out = append(out, n)
			}
		}
	}
	return append(out, 1<<64-1)
}

// lengths tells how many bytes stand behind the first one, as the chapter's table says it.
func lengths(info int) int {
	return map[int]int{24: 1, 25: 2, 26: 4, 27: 8}[info]
}

// fewest tells how many bytes the shortest head of an argument has, by trying the lengths one behind the other.
func fewest(n uint64) int {
	if n < 24 {
		return 1
	}
	for info := 24; info < 27; info++ {
		if top := uint64(1) << (8 * lengths(info)); n < top {
			return 1 + lengths(info)
		}
	}
	return 9
}

// wanted tells what P2.2 asks of Read, by its four points in their order and by numbers of any size.
func wanted(b []byte) (Head, api.Errno) {
	if len(b) == 0 {
		return Head{}, api.ErrHeadShort
	}
	major, info := int(b[0])/32, int(b[0])%32
	if info == 28 || info == 29 || info == 30 || info == 31 && (major == 0 || major == 1 || major == 6) {
		return Head{}, api.ErrHeadInfo
	}
	if len(b)-1 < lengths(info) {
		return Head{}, api.ErrHeadShort
	}
	used := 1 + lengths(info)
	n := new(big.Int).SetBytes(b[1:used]).Uint64()
	if info < 24 {
		n = uint64(info)
	}
	if major == 7 && info == 24 && n < 32 {
		return Head{}, api.ErrHeadInfo
	}
	return Head{Major: major, Info: info, N: n, Used: used, Short: info == 31 || major == 7 || used == fewest(n)}, api.OK
}

// checkRead holds Read against wanted; what it takes as short must be what Lay lays, and each shorter beginning too short.
func checkRead(t *testing.T, b []byte) {
	t.Helper()
	kept := bytes.Clone(b)
	h, e := Read(b)
	if wh, we := wanted(b); h != wh || e != we {
		t.Fatalf("Read(%x) = %+v, %d; want %+v, %d", b, h, e, wh, we)
	}
	if !bytes.Equal(b, kept) {
		t.Fatalf("Read changed %x to %x", kept, b)
	}
	if e != api.OK {
		return
	}
	if h.Used < Size(h.N) && h.Info != 31 {
		t.Fatalf("Read(%x): fewer bytes than the shortest head of %d", b, h.N)
	}
	if again := Lay(h.Major, h.N); h.Major != api.MajorOther && h.Info < 28 && h.Short != bytes.Equal(again, b[:h.Used]) {
		t.Fatalf("Read(%x) = %+v, which is laid as %x", b, h, again)
	}
	for i := range h.Used {
		if short, e := Read(b[:i]); short != (Head{}) || e != api.ErrHeadShort {
			t.Fatalf("Read(%x) = %+v, %d", b[:i], short, e)
		}
	}
}

// TestLay: P2.1, each major and both sides of each length.
func TestLay(t *testing.T) {
	for major := range 8 {
		for _, r := range rows {
			if b := Lay(major, r.n); !bytes.Equal(b, of(major, r.b)) {
				t.Errorf("Lay(%d, %d) = %x; want %x", major, r.n, b, of(major, r.b))
			}
		}
	}
}

// TestLayChapter: P2.1, the chapter's table of what Lay lays.
func TestLayChapter(t *testing.T) {
	for _, c := range []struct {
		major int
		n     uint64
		b     string
	}{
		{api.MajorInt, 0, "\x00"}, {api.MajorInt, 23, "\x17"}, {api.MajorInt, 24, "\x18\x18"}, {api.MajorInt, 255, "\x18\xff"},
		{api.MajorNeg, 256, "\x39\x01\x00"}, {api.MajorText, 65535, "\x79\xff\xff"},
		{api.MajorList, 65536, "\x9a\x00\x01\x00\x00"}, {api.MajorMap, 3, "\xa3"},
		{api.MajorTag, 42, "\xd8\x2a"}, {api.MajorInt, 1 << 32, "\x1b\x00\x00\x00\x01\x00\x00\x00\x00"},
		{api.MajorBytes, 32, "\x58\x20"}, {api.MajorOther, 24, "\xf8\x18"}, {api.MajorOther, 20, "\xf4"},
	} {
		if b := Lay(c.major, c.n); string(b) != c.b {
			t.Errorf("Lay(%d, %d) = %x; want %x", c.major, c.n, b, c.b)
		}
	}
}

// TestLayNone: P2.1, a major that is none has no head, whatever its lowest bits are.
func TestLayNone(t *testing.T) {
	for _, major := range []int{-1, -2, -8, -1 << 63, 8, 9, 15, 16, 256, 1 << 32, 1<<63 - 1} {
		for _, r := range rows {
			if b := Lay(major, r.n); len(b) != 0 {
				t.Errorf("Lay(%d, %d) = %x", major, r.n, b)
			}
		}
	}
}

// TestSize: P2.1, as many bytes as the shortest head has.
func TestSize(t *testing.T) {
	for _, r := range rows {
		if Size(r.n) != len(r.b) {
			t.Errorf("Size(%d) = %d; want %d", r.n, Size(r.n), len(r.b))
		}
	}
	for _, n := range numbers() {
		if Size(n) != fewest(n) || len(Lay(api.MajorMap, n)) != fewest(n) {
			t.Errorf("Size(%d) = %d; want %d", n, Size(n), fewest(n))
		}
	}
}

// TestRead: P2.2, heads that are read: the chapter's, those that are not the shortest, those without an argument, all that MajorOther has.
func TestRead(t *testing.T) {
	for _, c := range []struct {
		b string
		h Head
	}{
		{"\x17\xff", Head{Major: 0, Info: 23, N: 23, Used: 1, Short: true}},
		{"\x18\x17", Head{Major: 0, Info: 24, N: 23, Used: 2}},
		{"\x18\x18", Head{Major: 0, Info: 24, N: 24, Used: 2, Short: true}},
		{"\x39\x00\xff", Head{Major: 1, Info: 25, N: 255, Used: 3}},
		{"\x39\x01\x00", Head{Major: 1, Info: 25, N: 256, Used: 3, Short: true}},
		{"\x7a\x00\x00\xff\xff", Head{Major: 3, Info: 26, N: 65535, Used: 5}},
		{"\x9b\x00\x00\x00\x00\xff\xff\xff\xff", Head{Major: 4, Info: 27, N: 1<<32 - 1, Used: 9}},
		{"\xbb\x00\x00\x00\x00\x00\x00\x00\x00", Head{Major: 5, Info: 27, N: 0, Used: 9}},
		{"\xd8\x2a", Head{Major: 6, Info: 24, N: 42, Used: 2, Short: true}},
		{"\xd9\x00\x2a", Head{Major: 6, Info: 25, N: 42, Used: 3}},
		{"\x5f", Head{Major: 2, Info: 31, Used: 1, Short: true}},
		{"\x7f\x61", Head{Major: 3, Info: 31, Used: 1, Short: true}},
		{"\x9f\x00", Head{Major: 4, Info: 31, Used: 1, Short: true}},
		{"\xbf\xff", Head{Major: 5, Info: 31, Used: 1, Short: true}},
		{"\xff", Head{Major: 7, Info: 31, Used: 1, Short: true}},
		{"\xe0", Head{Major: 7, Info: 0, N: 0, Used: 1, Short: true}},
		{"\xf4", Head{Major: 7, Info: 20, N: 20, Used: 1, Short: true}},
		{"\xf7", Head{Major: 7, Info: 23, N: 23, Used: 1, Short: true}},
		{"\xf8\x20", Head{Major: 7, Info: 24, N: 32, Used: 2, Short: true}},
		{"\xf8\xff", Head{Major: 7, Info: 24, N: 255, Used: 2, Short: true}},
		{"\xf9\x3c\x00", Head{Major: 7, Info: 25, N: 15360, Used: 3, Short: true}},
		{"\xf9\x00\x00", Head{Major: 7, Info: 25, N: 0, Used: 3, Short: true}},
		{"\xfa\x00\x00\x00\x01", Head{Major: 7, Info: 26, N: 1, Used: 5, Short: true}},
		{"\xfb\x00\x00\x00\x00\x00\x00\x00\x1f", Head{Major: 7, Info: 27, N: 31, Used: 9, Short: true}},
	} {
		if h, e := Read([]byte(c.b)); h != c.h || e != api.OK {
			t.Errorf("Read(%x) = %+v, %d; want %+v", c.b, h, e, c.h)
		}
	}
}

// TestReadRefuses: P2.2, what is no head, and which error comes first.
func TestReadRefuses(t *testing.T) {
	for _, c := range []struct {
		b string
		e api.Errno
	}{
		{"", api.ErrHeadShort},
		{"\x18", api.ErrHeadShort}, {"\x19\x01", api.ErrHeadShort}, {"\x39", api.ErrHeadShort},
		{"\x5a\x00\x00\x00", api.ErrHeadShort}, {"\x9b\x00\x00\x00\x00\x00\x00\x00", api.ErrHeadShort},
		{"\xd8", api.ErrHeadShort}, {"\xf8", api.ErrHeadShort}, {"\xf9\x3c", api.ErrHeadShort}, {"\xfb\x00", api.ErrHeadShort},
		{"\x1c", api.ErrHeadInfo}, {"\x1d", api.ErrHeadInfo}, {"\x1e", api.ErrHeadInfo}, {"\x5c\x00", api.ErrHeadInfo},
		{"\xbd\x00\x00\x00\x00\x00\x00\x00\x00", api.ErrHeadInfo}, {"\xfc", api.ErrHeadInfo}, {"\xfe", api.ErrHeadInfo},
		{"\x1f", api.ErrHeadInfo}, {"\x3f", api.ErrHeadInfo}, {"\xdf", api.ErrHeadInfo}, {"\xdf\x00", api.ErrHeadInfo},
		{"\xf8\x00", api.ErrHeadInfo}, {"\xf8\x17", api.ErrHeadInfo}, {"\xf8\x18", api.ErrHeadInfo}, {"\xf8\x1f", api.ErrHeadInfo}, {"\xf8\x1f\xff", api.ErrHeadInfo},
	} {
		if h, e := Read([]byte(c.b)); h != (Head{}) || e != c.e {
			t.Errorf("Read(%x) = %+v, %d; want %d", c.b, h, e, c.e)
		}
	}
	if h, e := Read(nil); h != (Head{}) || e != api.ErrHeadShort {
		t.Errorf("Read(nil) = %+v, %d", h, e)
	}
}

// TestReadAll: P2.2 and P2.3, every first byte, with each byte behind it, and with rows of edge bytes of every length.
func TestReadAll(t *testing.T) {
	edges := []byte{0x00, 0x01, 0x17, 0x18, 0x1f, 0x20, 0x80, 0xff}
	for first := range 256 {
		checkRead(t, []byte{byte(first)})
		for second := range 256 {
			checkRead(t, []byte{byte(first), byte(second)})
		}
		for size := range 11 {
			for zeros := range size + 1 {
				for _, c := range edges {
					b := append([]byte{byte(first)}, bytes.Repeat([]byte{0}, zeros)...)
					checkRead(t, append(b, bytes.Repeat([]byte{c}, size-zeros)...))
				}
			}
		}
	}
}

// TestBack: P2.3, what is laid is read, with whatever behind it, and each shorter beginning is too short.
func TestBack(t *testing.T) {
	for major := range api.MajorOther {
		for _, n := range numbers() {
			b := Lay(major, n)
			for _, tail := range tails {
				h, e := Read(append(bytes.Clone(b), tail...))
				if e != api.OK || h.Major != major || h.N != n || h.Used != Size(n) || h.Used != len(b) || !h.Short {
					t.Errorf("%d, %d: %x and %x: %+v, %d", major, n, b, tail, h, e)
				}
			}
			for i := range b {
				if h, e := Read(b[:i]); h != (Head{}) || e != api.ErrHeadShort {
					t.Errorf("%d, %d: %x: %+v, %d", major, n, b[:i], h, e)
				}
			}
		}
	}
}

// TestLonger: P2.3, the longer heads of one argument are read as it, and are not short.
func TestLonger(t *testing.T) {
	for major := range api.MajorOther {
		for _, r := range rows {
			for info := 24; info <= 27; info++ {
				k := lengths(info)
				if 1+k <= len(r.b) {
					continue
				}
				full := new(big.Int).SetUint64(r.n).FillBytes(make([]byte, k))
				b := append([]byte{byte(major*32 + info)}, full...)
				if h, e := Read(b); e != api.OK || h != (Head{Major: major, Info: info, N: r.n, Used: 1 + k}) {
					t.Errorf("Read(%x) = %+v, %d", b, h, e)
				}
			}
		}
	}
}

// TestOther: P2.3 leaves MajorOther out: what Lay lays of it is read as it stands, or refused as P2.2 says.
func TestOther(t *testing.T) {
	for _, n := range numbers() {
		h, e := Read(Lay(api.MajorOther, n))
		switch {
		case n >= 24 && n < 32:
			if h != (Head{}) || e != api.ErrHeadInfo {
				t.Errorf("%d: %+v, %d", n, h, e)
			}
		case e != api.OK || h.Major != api.MajorOther || h.N != n || h.Used != Size(n) || !h.Short:
			t.Errorf("%d: %+v, %d", n, h, e)
		}
	}
}

// TestMemory: P2.4, R2: answers share no memory, spare room neither, and Read keeps what it is handed as it was.
func TestMemory(t *testing.T) {
	for _, r := range rows {
		a, b := Lay(api.MajorInt, r.n), Lay(api.MajorInt, r.n)
		for i := range a[:cap(a)] {
			a[:cap(a)][i] = 0xee
		}
		if !bytes.Equal(b, r.b) || !bytes.Equal(Lay(api.MajorInt, r.n), r.b) {
			t.Errorf("Lay(%d): two answers share memory", r.n)
		}
		in := append(bytes.Clone(r.b), 0x55, 0xaa)
		room := append(bytes.Clone(in), 1, 2, 3)
		Read(room[:len(in)])
		if !bytes.Equal(room, append(bytes.Clone(in), 1, 2, 3)) {
			t.Errorf("Read changed what it was handed: %x", room)
		}
	}
}

// FuzzRead: P2.4, R3: whatever is handed in, Read ends and tells what the chapter says.
func FuzzRead(f *testing.F) {
	for _, r := range rows {
		for major := range 8 {
			f.Add(of(major, r.b))
		}
	}
	for _, tail := range tails {
		f.Add(tail)
	}
	f.Fuzz(checkRead)
}

// FuzzLay: P2.4, R3: whatever is handed in, Lay ends, and Size and Read agree with it.
func FuzzLay(f *testing.F) {
	for _, major := range []int{-1 << 63, -1, 0, 1, 6, 7, 8, 1<<63 - 1} {
		for _, r := range rows {
			f.Add(major, r.n)
		}
	}
	f.Fuzz(func(t *testing.T, major int, n uint64) {
		b := Lay(major, n)
		if major < 0 || major > 7 {
			if len(b) != 0 {
				t.Fatalf("Lay(%d, %d) = %x", major, n, b)
			}
			return
		}
		if len(b) != Size(n) || len(b) != fewest(n) {
			t.Fatalf("Lay(%d, %d) = %x; Size %d", major, n, b, Size(n))
		}
		checkRead(t, b)
	})
}
