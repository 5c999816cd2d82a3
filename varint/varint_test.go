package varint

import (
	"bytes"
	"math/big"
	"testing"

	"trellis/api"
)

// rows: numbers and their varints, each on its own written out by hand: the chapter's, and both sides of each further byte.
var rows = []struct {
	n uint64
	b []byte
}{
	{0, []byte{0x00}},
	{1, []byte{0x01}},
	{127, []byte{0x7f}},
	{128, []byte{0x80, 0x01}},
	{255, []byte{0xff, 0x01}},
	{300, []byte{0xac, 0x02}},
	{1<<14 - 1, []byte{0xff, 0x7f}},
	{1 << 14, []byte{0x80, 0x80, 0x01}},
	{1<<21 - 1, []byte{0xff, 0xff, 0x7f}},
	{1 << 21, []byte{0x80, 0x80, 0x80, 0x01}},
	{1<<28 - 1, []byte{0xff, 0xff, 0xff, 0x7f}},
	{1 << 28, []byte{0x80, 0x80, 0x80, 0x80, 0x01}},
	{1<<32 - 1, []byte{0xff, 0xff, 0xff, 0xff, 0x0f}},
	{1<<35 - 1, []byte{0xff, 0xff, 0xff, 0xff, 0x7f}},
	{1 << 35, []byte{0x80, 0x80, 0x80, 0x80, 0x80, 0x01}},
	{1<<42 - 1, []byte{0xff, 0xff, 0xff, 0xff, 0xff, 0x7f}},
	{1 << 42, []byte{0x80, 0x80, 0x80, 0x80, 0x80, 0x80, 0x01}},
	{1<<49 - 1, []byte{0xff, 0xff, 0xff, 0xff, 0xff, 0xff, 0x7f}},
	{1 << 49, []byte{0x80, 0x80, 0x80, 0x80, 0x80, 0x80, 0x80, 0x01}},
	{1<<56 - 1, []byte{0xff, 0xff, 0xff, 0xff, 0xff, 0xff, 0xff, 0x7f}},
	{1 << 56, []byte{0x80, 0x80, 0x80, 0x80, 0x80, 0x80, 0x80, 0x80, 0x01}},
	{1 << 62, []byte{0x80, 0x80, 0x80, 0x80, 0x80, 0x80, 0x80, 0x80, 0x40}},
	{1<<63 - 1, []byte{0xff, 0xff, 0xff, 0xff, 0xff, 0xff, 0xff, 0xff, 0x7f}},
}

// tails: what may stand behind a varint and must not be looked at.
var tails = [][]byte{nil, {0x00}, {0x05}, {0x80}, {0xff, 0xff}, bytes.Repeat([]byte{0xff}, 20), bytes.Repeat([]byte{0x80}, 20)}

// numbers tells numbers below 2^63 in rising order: all small ones, and those around each power of two.
func numbers() []uint64 {
	var out []uint64
	for n := range uint64(1 << 10) {
		out = append(out, n)
	}
	for k := 10; k < 63; k++ {
		p := uint64(1) << k
		for _, n := range []uint64{p - 1, p, p + 1, p + p/3} {
			if n > out[len(out)-1] {
				out = append(out, n)
			}
		}
	}
	return append(out, 1<<63-1)
}

// laid tells a number's varint where the number must have one.
func laid(t *testing.T, n uint64) []byte {
	t.Helper()
	b, e := Lay(n)
	if e != api.OK {
		t.Fatalf("Lay(%d): %d", n, e)
	}
	return b
}

// wanted tells what P1.2 asks of Read, by its three points in their order and by numbers of any size.
func wanted(b []byte) (uint64, int, api.Errno) {
	first := -1
	for i := range b {
		if b[i] < 0x80 {
			first = i
			break
		}
	}
	if len(b) >= 9 && (first < 0 || first >= 9) {
		return 0, 0, api.ErrVarintLong
	}
	if first < 0 {
		return 0, 0, api.ErrVarintShort
	}
	if first > 0 && b[first] == 0 {
		return 0, 0, api.ErrVarintForm
	}
	n := new(big.Int)
	for i := first; i >= 0; i-- {
		n.Mul(n, big.NewInt(128))
		n.Add(n, big.NewInt(int64(b[i]%128)))
	}
	return n.Uint64(), first + 1, api.OK
}

// checkRead holds Read against wanted; what Read takes, Lay must lay as it stood.
func checkRead(t *testing.T, b []byte) {
	t.Helper()
	kept := bytes.Clone(b)
	n, used, e := Read(b)
	if wn, wu, we := wanted(b); n != wn || used != wu || e != we {
		t.Fatalf("Read(%x) = %d, %d, %d; want %d, %d, %d", b, n, used, e, wn, wu, we)
	}
	if !bytes.Equal(b, kept) {
		t.Fatalf("Read changed %x to %x", kept, b)
	}
	if e != api.OK {
		return
	}
	if again := laid(t, n); !bytes.Equal(again, b[:used]) || Len(n) != used {
		t.Fatalf("Read(%x) = %d, which is laid as %x, Len %d", b, n, again, Len(n))
	}
}

// TestLay: P1.1, numbers that have a varint.
func TestLay(t *testing.T) {
	for _, r := range rows {
		if b, e := Lay(r.n); e != api.OK || !bytes.Equal(b, r.b) {
			t.Errorf("Lay(%d) = %x, %d; want %x", r.n, b, e, r.b)
		}
		if k := Len(r.n); k != len(r.b) {
			t.Errorf("Len(%d) = %d; want %d", r.n, k, len(r.b))
		}
	}
}

// TestLayRefuses: P1.1, numbers of 2^63 and more.
func TestLayRefuses(t *testing.T) {
	for _, n := range []uint64{1 << 63, 1<<63 + 1, 1<<63 + 127, 3 << 62, 1<<64 - 1} {
		if b, e := Lay(n); e != api.ErrVarintLong || len(b) != 0 {
			t.Errorf("Lay(%d) = %x, %d", n, b, e)
		}
		if k := Len(n); k != 0 {
			t.Errorf("Len(%d) = %d", n, k)
		}
	}
}

// TestForm: P1.1, each varint is of the chapter's form: bit 0x80 in all bytes but the last, no last byte of 0.
func TestForm(t *testing.T) {
	for _, n := range numbers() {
		b := laid(t, n)
		if len(b) < 1 || len(b) > api.MaxVarint || len(b) != Len(n) {
			t.Fatalf("%d: %x, Len %d", n, b, Len(n))
		}
		end := len(b) - 1
		for _, c := range b[:end] {
			if c < 0x80 {
				t.Errorf("%d: %x ends in the midst", n, b)
			}
		}
		if b[end] >= 0x80 || b[end] == 0 && end > 0 {
			t.Errorf("%d: %x ends wrongly", n, b)
		}
	}
}

// TestRead: P1.2, varints with and without something behind them.
func TestRead(t *testing.T) {
	for _, r := range rows {
		for _, tail := range tails {
			b := append(bytes.Clone(r.b), tail...)
			if n, used, e := Read(b); n != r.n || used != len(r.b) || e != api.OK {
				t.Errorf("Read(%x) = %d, %d, %d; want %d, %d", b, n, used, e, r.n, len(r.b))
			}
		}
	}
}

// TestReadRefuses: P1.2, what is no varint, and which error comes first.
func TestReadRefuses(t *testing.T) {
	run := func(c byte, n int, behind ...byte) []byte {
		return append(bytes.Repeat([]byte{c}, n), behind...)
	}
	for _, c := range []struct {
		name string
		b    []byte
		e    api.Errno
	}{
		{"nil", nil, api.ErrVarintShort},
		{"none", []byte{}, api.ErrVarintShort},
		{"one that goes on", run(0x80, 1), api.ErrVarintShort},
		{"one of all bits", run(0xff, 1), api.ErrVarintShort},
		{"eight that go on", run(0xff, 8), api.ErrVarintShort},
		{"eight of 80", run(0x80, 8), api.ErrVarintShort},
		{"80 00", run(0x80, 1, 0), api.ErrVarintForm},
		{"ff 00", run(0xff, 1, 0), api.ErrVarintForm},
		{"80 00 and a byte behind", run(0x80, 1, 0, 1), api.ErrVarintForm},
		{"ac 82 00", []byte{0xac, 0x82, 0x00}, api.ErrVarintForm},
		{"eight of 80, 00", run(0x80, 8, 0), api.ErrVarintForm},
		{"eight of ff, 00", run(0xff, 8, 0), api.ErrVarintForm},
		{"nine of ff", run(0xff, 9), api.ErrVarintLong},
		{"nine of 80", run(0x80, 9), api.ErrVarintLong},
		{"nine of 80, 01", run(0x80, 9, 1), api.ErrVarintLong},
		{"nine of 80, 00: long ahead of form", run(0x80, 9, 0), api.ErrVarintLong},
		{"ten of ff: long ahead of short", run(0xff, 10), api.ErrVarintLong},
		{"a thousand of 80", run(0x80, 1000), api.ErrVarintLong},
	} {
		if n, used, e := Read(c.b); n != 0 || used != 0 || e != c.e {
			t.Errorf("%s: %d, %d, %d; want %d", c.name, n, used, e, c.e)
		}
	}
}

// TestReadAll: P1.2 and P1.3, every row of up to two bytes, and rows of edge bytes up to ten.
func TestReadAll(t *testing.T) {
	for i := range 256 {
		checkRead(t, []byte{byte(i)})
		for j := range 256 {
			checkRead(t, []byte{byte(i), byte(j)})
		}
	}
	edges := []byte{0x00, 0x01, 0x80, 0xff}
	for size := range 9 {
		for k := range 1 << (2 * size) {
			b := make([]byte, size)
			for i := range b {
				b[i] = edges[k>>(2*i)&3]
			}
			checkRead(t, b)
		}
	}
	for goOn := range 13 {
		for _, c := range []byte{0x80, 0x81, 0xff} {
			for last := range 256 {
				checkRead(t, append(bytes.Repeat([]byte{c}, goOn), byte(last)))
			}
		}
	}
}

// TestBack: P1.3, what is laid is read, with whatever behind it, and each shorter beginning is too short.
func TestBack(t *testing.T) {
	for _, n := range numbers() {
		b := laid(t, n)
		for _, tail := range tails {
			m, used, e := Read(append(bytes.Clone(b), tail...))
			if m != n || used != Len(n) || e != api.OK {
				t.Errorf("%d: %x and %x: %d, %d, %d", n, b, tail, m, used, e)
			}
		}
		for i := range b {
			if m, used, e := Read(b[:i]); m != 0 || used != 0 || e != api.ErrVarintShort {
				t.Errorf("%d: %x: %d, %d, %d", n, b[:i], m, used, e)
			}
		}
	}
}

// TestRising: P1.3, a greater number has as many bytes or more, and none is the beginning of another.
func TestRising(t *testing.T) {
	ns := numbers()
	for i := 1; i < len(ns); i++ {
		a, b := laid(t, ns[i-1]), laid(t, ns[i])
		if Len(ns[i]) < Len(ns[i-1]) || len(b) < len(a) {
			t.Errorf("%d: %x, %d: %x", ns[i-1], a, ns[i], b)
		}
		if bytes.HasPrefix(b, a) || bytes.HasPrefix(a, b) {
			t.Errorf("%x and %x: one begins the other", a, b)
		}
	}
}

// TestMemory: P1.4, R2: answers share no memory, spare room neither, and Read keeps what it is handed as it was.
func TestMemory(t *testing.T) {
	for _, r := range rows {
		a, b := laid(t, r.n), laid(t, r.n)
		for i := range a[:cap(a)] {
			a[:cap(a)][i] = 0xee
		}
		if !bytes.Equal(b, r.b) || !bytes.Equal(laid(t, r.n), r.b) {
			t.Errorf("Lay(%d): two answers share memory", r.n)
		}
		in := append(bytes.Clone(r.b), 0x55, 0xaa)
		room := append(bytes.Clone(in), 1, 2, 3)
		Read(room[:len(in)])
		if !bytes.Equal(room, append(bytes.Clone(in), 1, 2, 3)) {
			t.Errorf("Read changed what it was handed: %x", room)
		}
	}
}

// FuzzRead: P1.4, R3: whatever is handed in, Read ends and tells what the chapter says.
func FuzzRead(f *testing.F) {
	for _, r := range rows {
		f.Add(r.b)
	}
	for _, tail := range tails {
		f.Add(tail)
	}
	f.Fuzz(checkRead)
}

// FuzzLay: P1.4, R3: whatever number is handed in, Lay ends, and Len and Read agree with it.
func FuzzLay(f *testing.F) {
	for _, r := range rows {
		f.Add(r.n)
	}
	f.Add(uint64(1) << 63)
	f.Add(^uint64(0))
	f.Fuzz(func(t *testing.T, n uint64) {
		b, e := Lay(n)
		if n >= 1<<63 {
			if e != api.ErrVarintLong || len(b) != 0 || Len(n) != 0 {
				t.Fatalf("Lay(%d) = %x, %d; Len %d", n, b, e, Len(n))
			}
			return
		}
		m, used, back := Read(b)
		if e != api.OK || back != api.OK || m != n || used != len(b) || Len(n) != used {
			t.Fatalf("Lay(%d) = %x, %d; read as %d, %d, %d", n, b, e, m, used, back)
		}
	})
}
