package number

import (
	"math"
	"strconv"
	"strings"
	"testing"

	"trellis/api"
	"trellis/sample"
)

// shown tells what Print, or Print32, tells of a float by its bits.
func shown(float uint64, w width) string {
	if w == w32 {
		return Print32(math.Float32frombits(uint32(float)))
	}
	return Print(math.Float64frombits(float))
}

// checkPrint holds the text of a finite amount, with and without the sign, against the chapter's, and reads it back.
func checkPrint(t *testing.T, amount uint64, w width) {
	t.Helper()
	for _, float := range []uint64{amount, amount | w.sign()} {
		s := shown(float, w)
		if want := w.printed(float); s != want {
			t.Errorf("P5.9: %x is printed as %s, not %s", float, s, want)
		}
		if back, e := read(s, w); back != float || e != api.OK {
			t.Errorf("P5.10: %x is printed as %s and read as %x, %d", float, s, back, e)
		}
	}
}

// TestPrintExamples: the chapter's example 4.
func TestPrintExamples(t *testing.T) {
	for _, c := range []struct {
		x float64
		s string
	}{{0, "0.0"}, {minus, "-0.0"}, {1, "1.0"}, {0.1, "0.1"}, {100, "100.0"}, {123456.75, "123456.75"}, {1e21 / 10, "100000000000000000000.0"}, {1e21, "1e21"}, {0.000001, "0.000001"}, {0.0000001, "1e-7"}, {math.Ldexp(1, -1074), "5e-324"}, {math.MaxFloat64, "1.7976931348623157e308"}, {math.Ldexp(1, -44), "5.684341886080802e-14"}, {math.Ldexp(4097, -19), "0.007814407348632812"}} {
		if s := Print(c.x); s != c.s {
			t.Errorf("P5.9: Print(%b) = %s, not %s", c.x, s, c.s)
		}
		if s := Print(-c.x); s != strings.TrimPrefix("-"+c.s, "--") {
			t.Errorf("P5.9: Print(%b) = %s", -c.x, s)
		}
	}
	if s := Print32(0.1); s != "0.1" {
		t.Errorf("P5.9: Print32(0.1) = %s", s)
	}
	if s := Print(float64(float32(0.1))); s != "0.10000000149011612" {
		t.Errorf("P5.9: Print of 0.1 of 32 bits = %s", s)
	}
}

// TestPrintOthers: P5.9, of what is not finite.
func TestPrintOthers(t *testing.T) {
	if Print(infinite) != "inf" || Print(-infinite) != "-inf" {
		t.Errorf("P5.9: Print of the infinities: %s, %s", Print(infinite), Print(-infinite))
	}
	if s, l := Print32(float32(infinite)), Print32(float32(-infinite)); s != "inf" || l != "-inf" {
		t.Errorf("P5.9: Print32 of the infinities: %s, %s", s, l)
	}
	for _, x := range nones() {
		if s := Print(x); s != "nan" {
			t.Errorf("P5.9: Print(%x) = %s", math.Float64bits(x), s)
		}
	}
	for _, float := range []uint32{0x7f800001, 0x7fc00000, 0x7fffffff, 0xff800001, 0xffc00000, 0xffffffff} {
		if s := Print32(math.Float32frombits(float)); s != "nan" {
			t.Errorf("P5.9: Print32(%x) = %s", float, s)
		}
	}
}

// TestPrintPoints: P5.9, of one, two and more digits with the dot at each place about which the writing changes.
func TestPrintPoints(t *testing.T) {
	for _, c := range []struct{ in, out string }{
		{"1e-8", "1e-8"}, {"1e-7", "1e-7"}, {"1e-6", "0.000001"}, {"1e-5", "0.00001"}, {"1e-2", "0.01"}, {"1e-1", "0.1"}, {"1e0", "1.0"}, {"1e1", "10.0"}, {"1e2", "100.0"}, {"1e19", "10000000000000000000.0"}, {"1e20", "100000000000000000000.0"}, {"1e21", "1e21"}, {"1e22", "1e22"}, {"1e100", "1e100"}, {"1e-100", "1e-100"},
		{"12e-8", "1.2e-7"}, {"12e-7", "0.0000012"}, {"12e-2", "0.12"}, {"12e-1", "1.2"}, {"12", "12.0"}, {"12e1", "120.0"}, {"12e19", "120000000000000000000.0"}, {"12e20", "1.2e21"},
		{"123456e-12", "1.23456e-7"}, {"123456e-11", "0.00000123456"}, {"123456e-6", "0.123456"}, {"123456e-5", "1.23456"}, {"123456e-1", "12345.6"}, {"123456", "123456.0"}, {"123456e1", "1234560.0"}, {"123456e15", "123456000000000000000.0"}, {"123456e16", "1.23456e21"},
		{"9007199254740991", "9007199254740991.0"}, {"9007199254740992", "9007199254740992.0"}, {"9007199254740994", "9007199254740994.0"}, {"9223372036854775808", "9223372036854776000.0"}, {"18446744073709551616", "18446744073709552000.0"}, {"1234567890123456.7", "1234567890123456.8"}, {"0.30000000000000004", "0.30000000000000004"}, {"5e-324", "5e-324"}, {"1e-323", "1e-323"}, {"2.2250738585072014e-308", "2.2250738585072014e-308"}, {"2.225073858507201e-308", "2.225073858507201e-308"}, {"1e23", "1e23"}, {"9.5", "9.5"}, {"2.5e-7", "2.5e-7"},
	} {
		x, e := Parse(c.in)
		if s := Print(x); s != c.out || e != api.OK {
			t.Errorf("P5.9: Print(%s) = %s, not %s", c.in, s, c.out)
		}
		if s := Print(-x); s != "-"+c.out {
			t.Errorf("P5.9: Print(-%s) = %s, not -%s", c.in, s, c.out)
		}
	}
	for _, c := range []struct{ in, out string }{
		{"0", "0.0"}, {"-0", "-0.0"}, {"1e-7", "1e-7"}, {"1e-6", "0.000001"}, {"16777216", "16777216.0"}, {"16777217", "16777216.0"}, {"1e20", "100000000000000000000.0"}, {"1e21", "1e21"}, {"3.4028235e38", "3.4028235e38"}, {"1e-45", "1e-45"}, {"3e-45", "3e-45"}, {"1e-44", "1e-44"}, {"1.1754944e-38", "1.1754944e-38"}, {"1.1754942e-38", "1.1754942e-38"}, {"0.3", "0.3"}, {"8388608.5", "8388608.0"}, {"33554432", "33554432.0"}, {"9007199254740993", "9007199000000000.0"},
	} {
		x, e := Parse32(c.in)
		if s := Print32(x); s != c.out || e != api.OK {
			t.Errorf("P5.9: Print32(%s) = %s, not %s", c.in, s, c.out)
		}
	}
}

// TestPrint: P5.9 and P5.10, of the edges of both widths and of some others, by trying all decimals that are near: so none with fewer digits is read as the float, and none with as many is nearer.
func TestPrint(t *testing.T) {
	for _, w := range []width{w32, w64} {
		from := new(sample.Dice)
		for _, amount := range append(fewer(w.edges()), w.some(400, from)...) {
			checkPrint(t, amount, w)
		}
		// The least floats have few digits: of each of them several rows may do.
		for amount := range uint64(150) {
			checkPrint(t, amount, w)
		}
	}
}

// TestPrintDecimals: P5.9 and P5.10, of floats nearest to short decimals, each power of ten among them.
func TestPrintDecimals(t *testing.T) {
	from := new(sample.Dice)
	for power := -330; power <= 308; power++ {
		digits := strconv.FormatUint(from.Next(), 10)
		digits = digits[:1+from.Next()%uint64(len(digits))]
		for _, s := range []string{"1e" + strconv.Itoa(power), digits + "e" + strconv.Itoa(power-len(digits)+1)} {
			for _, w := range []width{w32, w64} {
				if bits, e := read(s, w); e == api.OK && bits != 0 {
					checkPrint(t, bits, w)
				}
			}
		}
	}
}

// TestPrintTies: P5.9, of floats that are just between two rows of as few digits as they need.
func TestPrintTies(t *testing.T) {
	ties := 0
	for n := uint64(1); n < 1<<14; n += 2 {
		x := math.Ldexp(float64(n), -19)
		exact := strings.TrimRight(strconv.FormatFloat(x, 'f', 40, 64), "0")
		s := Print(x)
		if len(s) == len(exact)-1 && exact[len(exact)-1] == '5' {
			ties++
			if last := s[len(s)-1]; last%2 == 1 {
				t.Errorf("P5.9: Print(%s) = %s", exact, s)
			}
		}
		if n%8 == 1 {
			checkPrint(t, math.Float64bits(x), w64)
		}
	}
	if ties < 100 {
		t.Errorf("only %d ties", ties)
	}
}

// TestPrintMany: P5.10, of many floats: each is read back, and has as many digits as the library finds.
func TestPrintMany(t *testing.T) {
	from := new(sample.Dice)
	for range 50000 {
		bits := from.Next()
		if x := math.Float64frombits(bits); Finite(x) {
			s := Print(x)
			if y, e := Parse(s); math.Float64bits(y) != bits || e != api.OK {
				t.Errorf("P5.10: %x is printed as %s and read as %x, %d", bits, s, math.Float64bits(y), e)
			}
			checkCount(t, s, strconv.FormatFloat(x, 'e', -1, 64))
		}
		if y := math.Float32frombits(uint32(bits)); Finite(float64(y)) {
			s := Print32(y)
			if z, e := Parse32(s); math.Float32bits(z) != uint32(bits) || e != api.OK {
				t.Errorf("P5.10: %x is printed as %s and read as %x, %d", uint32(bits), s, math.Float32bits(z), e)
			}
			checkCount(t, s, strconv.FormatFloat(float64(y), 'e', -1, 32))
		}
	}
}

// checkCount holds two texts of a number against each other by how many digits they have, noughts at both ends not counted.
func checkCount(t *testing.T, s, other string) {
	count := func(s string) int {
		s, _, _ = strings.Cut(strings.TrimPrefix(s, "-"), "e")
		return len(strings.Trim(strings.Replace(s, ".", "", 1), "0"))
	}
	if count(s) != count(other) {
		t.Errorf("P5.9: %s has not as many digits as %s", s, other)
	}
}
