package number

import (
	"math"
	"math/big"
	"testing"

	"trellis/sample"
)

// both tells a finite float of 64 bits and the same one with the sign.
func both(amount uint64) []float64 {
	return []float64{math.Float64frombits(amount), math.Float64frombits(amount | w64.sign())}
}

// amountOf tells a float's bits without the sign.
func amountOf(x float64) uint64 { return math.Float64bits(x) % w64.sign() }

// signOf tells the sign of a float as that of a width.
func signOf(x float64, w width) uint64 {
	if math.Float64bits(x) >= w64.sign() {
		return w.sign()
	}
	return 0
}

// TestFinite: P5.1.
func TestFinite(t *testing.T) {
	for _, amount := range append(w64.edges(), w64.some(1000, new(sample.Dice))...) {
		for _, x := range both(amount) {
			if !Finite(x) {
				t.Errorf("P5.1: Finite(%b) = false", x)
			}
		}
	}
	for _, x := range append(nones(), infinite, -infinite) {
		if Finite(x) {
			t.Errorf("P5.1: Finite(%x) = true", math.Float64bits(x))
		}
	}
}

// TestFromHalf: P5.2, of each row of 16 bits.
func TestFromHalf(t *testing.T) {
	for h := range 1 << 16 {
		x, amount := FromHalf(uint16(h)), uint64(h)%w16.sign()
		switch {
		case amount > w16.infinity():
			if x == x {
				t.Errorf("P5.2: FromHalf(%#x) = %v", h, x)
			}
			continue
		case amount == w16.infinity():
			amount = w64.infinity()
		default:
			x := w16.number(amount)
			amount = w64.nearest(x)
			if same := w64.number(amount); less(same, x) || less(x, same) {
				t.Fatalf("no float of 64 bits is %#x", h)
			}
		}
		if h >= 1<<15 {
			amount |= w64.sign()
		}
		if math.Float64bits(x) != amount {
			t.Errorf("P5.2: FromHalf(%#x) = %x, not %x", h, math.Float64bits(x), amount)
		}
	}
}

// TestHalf: P5.3, of each float of 16 bits, of what lies just between two, and by a little more or less.
func TestHalf(t *testing.T) {
	check := func(x float64, want uint64) {
		for _, x := range []float64{x, -x} {
			if h := Half(x); uint64(h) != want|signOf(x, w16) {
				t.Errorf("P5.3: Half(%b) = %#x, not %#x", x, h, want|signOf(x, w16))
			}
		}
	}
	for amount := range w16.infinity() {
		x := math.Float64frombits(w64.nearest(w16.number(amount)))
		middle := math.Float64frombits(w64.nearest(fraction{w16.between(amount), new(big.Int).Lsh(big.NewInt(1), uint(w16.shift()+1))}))
		check(x, amount)
		check(math.Nextafter(x, infinite), amount)
		check(middle, amount+amount%2)
		check(math.Nextafter(middle, 0), amount)
		check(math.Nextafter(middle, infinite), amount+1)
	}
	check(infinite, w16.infinity())
	check(math.MaxFloat64, w16.infinity())
	check(65536, w16.infinity())
	check(5e-324, 0)
	check(math.Ldexp(1, -1022), 0)
	for _, x := range nones() {
		if h := Half(x); h != 0x7e00 {
			t.Errorf("P5.3: Half(%x) = %#x", math.Float64bits(x), h)
		}
	}
	for _, amount := range append(w64.edges(), w64.some(2000, new(sample.Dice))...) {
		check(math.Float64frombits(amount), w16.nearest(w64.number(amount)))
	}
}

// TestSingle: P5.3, likewise of the edges of 32 bits, of some others and of what lies between.
func TestSingle(t *testing.T) {
	check := func(x float64, want uint64) {
		for _, x := range []float64{x, -x} {
			if y := Single(x); uint64(math.Float32bits(y)) != want|signOf(x, w32) {
				t.Errorf("P5.3: Single(%b) = %x, not %x", x, math.Float32bits(y), want|signOf(x, w32))
			}
		}
	}
	for _, amount := range append(w32.edges(), w32.some(2000, new(sample.Dice))...) {
		x := math.Float64frombits(w64.nearest(w32.number(amount)))
		middle := math.Float64frombits(w64.nearest(fraction{w32.between(amount), new(big.Int).Lsh(big.NewInt(1), uint(w32.shift()+1))}))
		check(x, amount)
		check(middle, amount+amount%2)
		check(math.Nextafter(middle, 0), amount)
		check(math.Nextafter(middle, infinite), amount+1)
	}
	check(infinite, w32.infinity())
	check(math.MaxFloat64, w32.infinity())
	check(5e-324, 0)
	for _, x := range nones() {
		if y := Single(x); y == y {
			t.Errorf("P5.3: Single(%x) = %v", math.Float64bits(x), y)
		}
	}
	for _, amount := range append(w64.edges(), w64.some(2000, new(sample.Dice))...) {
		check(math.Float64frombits(amount), w32.nearest(w64.number(amount)))
	}
}

// TestExact: P5.4.
func TestExact(t *testing.T) {
	check := func(x float64, in16, in32 bool) {
		if Exact16(x) != in16 {
			t.Errorf("P5.4: Exact16(%b) = %v", x, !in16)
		}
		if Exact32(x) != in32 {
			t.Errorf("P5.4: Exact32(%b) = %v", x, !in32)
		}
	}
	// Of no two floats of 64 bits that stand side by side are both of a narrower width.
	for amount := range w16.infinity() {
		for _, x := range both(w64.nearest(w16.number(amount))) {
			check(x, true, true)
			check(math.Nextafter(x, infinite), false, false)
			check(math.Nextafter(x, -infinite), false, false)
		}
	}
	for _, amount := range append(w32.edges(), w32.some(2000, new(sample.Dice))...) {
		x := math.Float64frombits(w64.nearest(w32.number(amount)))
		near := w16.nearest(w64.number(amountOf(x)))
		in16 := near < w16.infinity() && amountOf(x) == w64.nearest(w16.number(near))
		check(x, in16, true)
		check(-x, in16, true)
		check(math.Nextafter(x, infinite), false, false)
		check(-math.Nextafter(x, infinite), false, false)
	}
	for _, x := range []float64{0, minus, infinite, -infinite} {
		check(x, true, true)
	}
	for _, x := range append(nones(), math.MaxFloat64, -math.MaxFloat64, 5e-324, -5e-324, 0.1, 1e39) {
		check(x, false, false)
	}
	for _, x := range []float64{65505, 65520, 65536, 2049, math.MaxFloat32, math.SmallestNonzeroFloat32, math.Ldexp(1, -25)} {
		check(x, false, true)
	}
	check(16777217, false, false)
}

// TestCompare: P5.5, of each two of a row in its order.
func TestCompare(t *testing.T) {
	var row []float64
	amounts := w64.edges()
	for i := len(amounts) - 1; i >= 0; i -= 5 {
		row = append(row, math.Float64frombits(amounts[i]|w64.sign()))
	}
	row = append([]float64{-infinite}, append(row, -5e-324, minus)...)
	for i := len(row) - 1; i >= 0; i-- {
		row = append(row, -row[i])
	}
	for i, x := range row {
		for k, y := range row {
			want := 0
			if math.Float64bits(x) != math.Float64bits(y) {
				want = map[bool]int{true: -1, false: 1}[i < k]
			}
			if c := Compare(x, y); c != want {
				t.Fatalf("P5.5: Compare(%b, %b) = %d, not %d", x, y, c, want)
			}
		}
		for _, none := range nones() {
			if Compare(x, none) != -1 || Compare(none, x) != 1 {
				t.Errorf("P5.5: Compare of %b and %x", x, math.Float64bits(none))
			}
		}
	}
	for _, one := range nones() {
		for _, two := range nones() {
			if c := Compare(one, two); c != 0 {
				t.Errorf("P5.5: Compare(%x, %x) = %d", math.Float64bits(one), math.Float64bits(two), c)
			}
		}
	}
}

// TestCompareNumbers: P5.5 of any two finite floats, by their numbers.
func TestCompareNumbers(t *testing.T) {
	from := new(sample.Dice)
	for range 20000 {
		x, y := math.Float64frombits(from.Next()), math.Float64frombits(from.Next())
		if !Finite(x) || !Finite(y) {
			continue
		}
		want := big.NewFloat(x).Cmp(big.NewFloat(y))
		if c := Compare(x, y); c != want {
			t.Errorf("P5.5: Compare(%b, %b) = %d", x, y, c)
		}
		if Compare(y, x) != -want || Compare(x, x) != 0 {
			t.Errorf("P5.5: Compare of %b and %b, the other way", x, y)
		}
	}
}

// TestWhole: P5.6.
func TestWhole(t *testing.T) {
	for _, x := range []float64{0, minus, 1, -1, 0.5, -0.5, 1.5, 2.5, 1e15, 1e18, 1e19, 1 << 52, 1<<52 + 0.5, 1<<52 - 0.5, 1<<53 - 1, 1 << 53, 1<<53 + 2, 1 << 62, 1 << 63, -(1 << 63), 1 << 64, -(1 << 64), math.Nextafter(1<<63, 0), math.Nextafter(-(1 << 63), 0), math.Nextafter(-(1 << 63), -infinite), math.Nextafter(1<<63, infinite), math.Nextafter(1, 2), math.Nextafter(1, 0), 4294967296, 2147483648, -2147483649, 5e-324, math.MaxFloat64} {
		checkWhole(t, x)
		checkWhole(t, -x)
	}
	for _, x := range append(nones(), infinite, -infinite) {
		if n, ok := Whole(x); n != 0 || ok {
			t.Errorf("P5.6: Whole(%b) = %d, %v", x, n, ok)
		}
	}
	from := new(sample.Dice)
	for range 20000 {
		// Exponents about those in which a float becomes a whole number and leaves an int64.
		checkWhole(t, math.Ldexp(float64(int64(from.Next())), int(from.Next()%80)-70))
	}
}

// checkWhole holds Whole of a finite float against its number.
func checkWhole(t *testing.T, x float64) {
	exact, _ := new(big.Float).SetFloat64(x).Rat(nil)
	var want int64
	is := exact.IsInt() && exact.Num().IsInt64()
	if is {
		want = exact.Num().Int64()
	}
	if n, ok := Whole(x); n != want || ok != is {
		t.Errorf("P5.6: Whole(%b) = %d, %v, not %d, %v", x, n, ok, want, is)
	}
}

// TestHalvesBack: P5.10: Half of FromHalf.
func TestHalvesBack(t *testing.T) {
	for h := range 1 << 16 {
		if uint64(h)%w16.sign() > w16.infinity() {
			continue
		}
		if back := Half(FromHalf(uint16(h))); int(back) != h {
			t.Errorf("P5.10: Half(FromHalf(%#x)) = %#x", h, back)
		}
	}
}

// TestSinglesInOrder: P5.10: narrower floats stand in no other order.
func TestSinglesInOrder(t *testing.T) {
	check := func(x, y float64) {
		if Compare(x, y) > 0 {
			x, y = y, x
		}
		if Compare(float64(Single(x)), float64(Single(y))) > 0 {
			t.Errorf("P5.10: Single(%b) stands behind Single(%b)", x, y)
		}
	}
	from := new(sample.Dice)
	for _, amount := range append(w32.edges(), w32.some(5000, from)...) {
		x := math.Float64frombits(w64.nearest(w32.number(amount)))
		near := math.Float64frombits(math.Float64bits(x) + from.Next()%(1<<31))
		check(x, near)
		check(-x, -near)
		check(x, -near)
	}
	check(minus, 0)
	check(-5e-324, 5e-324)
	check(math.MaxFloat64, -math.MaxFloat64)
}
