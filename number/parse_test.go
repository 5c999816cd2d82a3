package number

import (
	"math"
	"math/big"
	"regexp"
	"slices"
	"strconv"
	"strings"
	"testing"

	"trellis/api"
	"trellis/sample"
)

// form is P5.7 in another notation.
var form = regexp.MustCompile(`\A-?(0|[1-9][0-9]*)(\.[0-9]+)?([eE][+-]?[0-9]+)?\z`)

// read tells the bits that Parse, or Parse32, tells of a text.
func read(s string, w width) (uint64, api.Errno) {
	if w == w32 {
		x, e := Parse32(s)
		return uint64(math.Float32bits(x)), e
	}
	x, e := Parse(s)
	return math.Float64bits(x), e
}

// short tells a text for a message.
func short(s string) string {
	if len(s) > 60 {
		return s[:30] + ".." + s[len(s)-20:] + " of " + strconv.Itoa(len(s))
	}
	return s
}

// checkRead holds what a text without the sign is read as, and the text with it, against an amount.
func checkRead(t *testing.T, s string, w width, amount uint64) {
	t.Helper()
	want, refusal := amount, api.OK
	if amount == w.infinity() {
		want, refusal = 0, api.ErrNumberRange
	}
	if bits, e := read(s, w); bits != want || e != refusal {
		t.Errorf("P5.8: %s is read as %x, %d, not %x, %d", short(s), bits, e, want, refusal)
	}
	if refusal == api.OK {
		want |= w.sign()
	}
	if bits, e := read("-"+s, w); bits != want || e != refusal {
		t.Errorf("P5.8: -%s is read as %x, %d, not %x, %d", short(s), bits, e, want, refusal)
	}
}

// spellings tells decimals of one number, digits (the first of which is not 0) times 10^power.
func spellings(digits string, power int) []string {
	n := len(digits)
	out := []string{
		digits + "e" + strconv.Itoa(power),
		digits + ".0E" + strconv.Itoa(power),
		digits + "000e" + strconv.Itoa(power-3),
		"0." + digits + "e" + strconv.Itoa(power+n),
		"0.0000" + digits + "00E" + strconv.Itoa(power+n+4),
	}
	if power >= 0 {
		out = append(out, digits+"e+"+strconv.Itoa(power), digits+"E000"+strconv.Itoa(power), digits+strings.Repeat("0", power), digits+strings.Repeat("0", power)+".000")
	} else {
		out = append(out, digits+"e-00"+strconv.Itoa(-power))
	}
	if power < 0 && -power < n {
		out = append(out, digits[:n+power]+"."+digits[n+power:])
	}
	if power <= -n {
		out = append(out, "0."+strings.Repeat("0", -power-n)+digits)
	}
	if n > 1 {
		out = append(out, digits[:1]+"."+digits[1:]+"e"+strconv.Itoa(power+n-1))
	}
	return out
}

// wrong: texts that are no decimals.
var wrong = []string{"", "-", "+", "+1", "--1", "-+1", "01", "00", "-01", "00.5", "1.", "-1.", "1.e5", ".5", "-.5", ".", "-.", ".e1", "e", "e5", "-e5", "1e", "1E", "1e+", "1e-", "1e+-5", "1e-+5", "1e--5", "1e5.", "1e5.5", "1e 5", "1ee5", "1e5e5", "1.5.5", "1..5", "0x1p3", "0x1", "1p3", "1_0", "1_000.5", "1,5", "inf", "-inf", "Infinity", "nan", "NaN", " 1", "1 ", "\t1", "1\n", "1\x00", "\x001", "1\r\n", "1e5 ", "- 1", "1f", "1d", "1.5f", "0b1", "0o7", "\u0661", "1\u00a0", "\xff", "1\xff", "1.\u0665", "\u22121", "1e\u0665", "\uff11", "12a", "1a2", "0-", "1-", "1+", "0e", "-0e", "0.e0"}

// right: texts that are.
var right = []string{"0", "-0", "1", "9", "-9", "10", "0.0", "-0.0", "0.5", "1.50", "1e0", "1E0", "1e+0", "1e-0", "0e0", "0e5", "-0e-5", "0.0e99", "1e00", "1e007", "1e-007", "123456789.123456789E+12", "0.000", "100", "1e9", "90.09e-09"}

// TestDecimals: P5.7, of texts that are named.
func TestDecimals(t *testing.T) {
	for _, s := range wrong {
		if form.MatchString(s) {
			t.Fatalf("%q is a decimal", s)
		}
		checkForm(t, s)
	}
	for _, s := range right {
		if !form.MatchString(s) {
			t.Fatalf("%q is no decimal", s)
		}
		checkForm(t, s)
	}
}

// checkForm holds both readings of a text against P5.7, and, if it is a decimal of few digits, against the library's.
func checkForm(t *testing.T, s string) {
	t.Helper()
	x, e := Parse(s)
	y, e32 := Parse32(s)
	if !form.MatchString(s) {
		if e != api.ErrNumberText || e32 != api.ErrNumberText || math.Float64bits(x) != 0 || math.Float32bits(y) != 0 {
			t.Errorf("P5.7: %q is read as %v, %d and %v, %d", short(s), x, e, y, e32)
		}
		return
	}
	want, err := strconv.ParseFloat(s, 64)
	if (e == api.OK) != (err == nil) || err == nil && math.Float64bits(x) != math.Float64bits(want) || e != api.OK && (e != api.ErrNumberRange || math.Float64bits(x) != 0) {
		t.Errorf("P5.8: Parse(%q) = %v, %d, not %v", short(s), x, e, want)
	}
	want, err = strconv.ParseFloat(s, 32)
	if (e32 == api.OK) != (err == nil) || err == nil && math.Float32bits(y) != math.Float32bits(float32(want)) || e32 != api.OK && (e32 != api.ErrNumberRange || math.Float32bits(y) != 0) {
		t.Errorf("P5.8: Parse32(%q) = %v, %d, not %v", short(s), y, e32, want)
	}
}

// TestShortTexts: P5.7, of each text of at most six of the letters of decimals, and of each of at most two bytes.
func TestShortTexts(t *testing.T) {
	level := []string{""}
	for range 6 {
		var next []string
		for _, s := range level {
			for _, c := range []string{"-", "+", "0", "1", "9", ".", "e", "E"} {
				next = append(next, s+c)
			}
		}
		for _, s := range next {
			checkForm(t, s)
		}
		level = next
	}
	for a := range 256 {
		checkForm(t, string([]byte{byte(a)}))
		for b := range 256 {
			checkForm(t, string([]byte{byte(a), byte(b)}))
		}
	}
}

// TestSpoiltTexts: P5.7, of decimals with any byte put in, in another's stead, and of their beginnings.
func TestSpoiltTexts(t *testing.T) {
	for _, s := range []string{"-12.34e-56", "0.5E+7", "100", "-0", "7e8"} {
		for at := range len(s) + 1 {
			checkForm(t, s[:at])
			checkForm(t, s[at:])
			for c := range 256 {
				checkForm(t, s[:at]+string([]byte{byte(c)})+s[at:])
				if at < len(s) {
					checkForm(t, s[:at]+string([]byte{byte(c)})+s[at+1:])
				}
			}
		}
	}
}

// exactly tells the digits and the power of ten of so many halves of a width's 2^-shift.
func exactly(halves *big.Int, w width) (string, int) {
	down := w.shift() + 1
	row := new(big.Int).Exp(big.NewInt(5), big.NewInt(int64(down)), nil)
	digits := row.Mul(row, halves).String()
	bare := strings.TrimRight(digits, "0")
	return bare, len(digits) - len(bare) - down
}

// lower tells digits one less in their last place.
func lower(digits string) string {
	n, _ := new(big.Int).SetString(digits, 10)
	return n.Sub(n, big.NewInt(1)).String()
}

// TestParseBetween: P5.8, of each edge of both widths and some others: the float itself by all its digits, what lies just between it and the next one, and by a little more or less, however far back that stands.
func TestParseBetween(t *testing.T) {
	longest := 0
	for _, w := range []width{w32, w64} {
		from := new(sample.Dice)
		for i, amount := range append(fewer(w.edges()), w.some(200, from)...) {
			digits, power := exactly(new(big.Int).Lsh(w.units(amount), 1), w)
			if amount > 0 {
				checkRead(t, digits+"e"+strconv.Itoa(power), w, amount)
			}
			digits, power = exactly(w.between(amount), w)
			longest = max(longest, len(digits))
			ways := spellings(digits, power)
			checkRead(t, ways[i%len(ways)], w, amount+amount%2)
			for _, far := range []int{1, 2, 40, 790 + i%20, 799 - min(len(digits), 799) + i%3, 3000} {
				up, down := digits+strings.Repeat("0", far)+"1", lower(digits)+strings.Repeat("9", far+1)
				ways = spellings(up, power-far-1)
				checkRead(t, ways[i%len(ways)], w, amount+1)
				ways = spellings(strings.TrimLeft(down, "0"), power-far-1)
				checkRead(t, ways[i%len(ways)], w, amount)
			}
		}
	}
	if longest != 767 && longest != 768 {
		t.Errorf("the longest number just between two floats that was tried has %d digits", longest)
	}
}

// TestParseNearest: P5.8, of decimals of one to forty digits, with powers in and out of the range, by a search for the nearest float.
func TestParseNearest(t *testing.T) {
	from := new(sample.Dice)
	for i := range 3000 {
		digits := strings.TrimLeft(new(big.Int).SetUint64(from.Next()).String()+strconv.FormatUint(from.Next(), 10), "0")
		digits = digits[:1+from.Next()%uint64(len(digits))]
		for _, w := range []width{w32, w64} {
			power := int(from.Next()%700) - 370
			if w == w32 {
				power = int(from.Next()%100) - 60
			}
			power -= len(digits) - 1
			want := w.nearest(decimally(digits, power))
			ways := spellings(digits, power)
			checkRead(t, ways[i%len(ways)], w, want)
		}
	}
}

// TestSpellings: P5.8, of each way to write some numbers: powers of 2 and of 10, whole numbers about 2^53 and 2^63, the chapter's.
func TestSpellings(t *testing.T) {
	var rows []string
	for n := range 66 {
		power := new(big.Int).Lsh(big.NewInt(1), uint(n))
		rows = append(rows, power.String(), new(big.Int).Add(power, big.NewInt(1)).String())
	}
	rows = append(rows, "9007199254740991", "9007199254740993", "9007199254740995", "90071992547409930000000001", "9223372036854775807", "9223372036854775295", "9223372036854775296", "9223372036854775297", "9223372036854774784", "16777217", "167772170000000001", "17976931348623157", "17976931348623158", "17976931348623159", "34028234663852886", "34028235677973366", "3402823567797336", "3402823567797337", "49406564584124654", "24703282292062327", "24703282292062328", "22250738585072011", "22250738585072014", "5", "123456789")
	for _, digits := range rows {
		for _, power := range []int{0, 1, 2, 5, 20, 22, 23, 30, 38, 45, 290, 291, 292, 293, 308, -1, -2, -5, -20, -22, -23, -30, -46, -53, -61, -308, -323, -324, -325, -340} {
			want32, want64 := w32.nearest(decimally(digits, power)), w64.nearest(decimally(digits, power))
			for _, s := range spellings(digits, power) {
				checkRead(t, s, w32, want32)
				checkRead(t, s, w64, want64)
			}
		}
	}
}

// TestPowersOfTen: P5.8, of each power of ten in the range and about its ends.
func TestPowersOfTen(t *testing.T) {
	for power := -345; power <= 330; power++ {
		for _, w := range []width{w32, w64} {
			checkRead(t, "1e"+strconv.Itoa(power), w, w.nearest(decimally("1", power)))
			checkRead(t, "9.99999999999999999999e"+strconv.Itoa(power), w, w.nearest(decimally("999999999999999999999", power-20)))
		}
	}
}

// TestRange: P5.8, about the edge of each width's infinity and of its nought.
func TestRange(t *testing.T) {
	for _, w := range []width{w32, w64} {
		// The middle of the greatest float and 2^(b+1) is the least number that is too great.
		digits, power := exactly(w.between(w.infinity()-1), w)
		whole := digits + strings.Repeat("0", power)
		checkRead(t, whole, w, w.infinity())
		checkRead(t, whole+".0", w, w.infinity())
		checkRead(t, whole+"."+strings.Repeat("0", 2000)+"1", w, w.infinity())
		checkRead(t, lower(whole), w, w.infinity()-1)
		checkRead(t, lower(whole)+"."+strings.Repeat("9", 2000), w, w.infinity()-1)
		// The middle of 0 and the least float is the greatest number that is read as 0.
		digits, power = exactly(w.between(0), w)
		e := "e" + strconv.Itoa(power)
		checkRead(t, digits+e, w, 0)
		checkRead(t, lower(digits)+e, w, 0)
		checkRead(t, digits+".0000000000000000000000000000001"+e, w, 1)
		for _, s := range []string{"1e400", "1e401", "1e402", "1e5000", "123e399", "0.1e400", "0.1e401", "0.1e402", "1e2147483647", "1e2147483648", "1e9223372036854775807", "1e9223372036854775808", "1e18446744073709551616", "1e18446744073709551617", "1e+" + strings.Repeat("9", 5000), "0.0000001e99999999999999999999"} {
			checkRead(t, s, w, w.infinity())
		}
		for _, s := range []string{"1e-400", "1e-401", "1e-402", "0.1e-400", "123e-405", "1e-5000", "1e-2147483648", "1e-2147483649", "1e-9223372036854775808", "1e-9223372036854775809", "1e-18446744073709551616", "1e-18446744073709551617", "1e-" + strings.Repeat("9", 5000), "12345e-99999999999999999999"} {
			checkRead(t, s, w, 0)
		}
		for _, s := range []string{"0", "0.0", "0e0", "0e400", "0e-400", "0e99999999999999999999", "0.000e99999999999999999999", "0E-99999999999999999999", "0." + strings.Repeat("0", 5000), "0.000e" + strings.Repeat("9", 5000)} {
			checkRead(t, s, w, 0)
		}
	}
}

// TestLong: P5.8, of texts in which many noughts and a great power take each other back, and of powers with noughts ahead.
func TestLong(t *testing.T) {
	for _, n := range []int{1, 300, 399, 400, 401, 800, 1000, 9999, 10000, 10001, 100000, 1000003} {
		noughts, power := strings.Repeat("0", n), strconv.Itoa(n)
		next := strconv.Itoa(n + 1)
		for _, w := range []width{w32, w64} {
			one := w.nearest(decimally("1", 0))
			tenth := w.nearest(decimally("1", -1))
			checkRead(t, "1"+noughts+"e-"+power, w, one)
			checkRead(t, "1"+noughts+".000E-"+power, w, one)
			checkRead(t, "0."+noughts+"1e"+next, w, one)
			checkRead(t, "0."+noughts+"1e+"+power, w, tenth)
			checkRead(t, "1e"+noughts, w, one)
			checkRead(t, "1e-"+noughts+"1", w, tenth)
			checkRead(t, "1."+noughts, w, one)
			checkRead(t, "0."+noughts, w, 0)
			checkRead(t, "0."+strings.Repeat("9", n+20), w, one)
			checkRead(t, "1"+noughts+"e-"+noughts+power, w, one)
		}
	}
	// 2^-1075 and 2^-150 are just between 0 and the least floats: a digit far behind decides.
	for _, w := range []width{w32, w64} {
		digits, power := exactly(w.between(0), w)
		for _, n := range []int{1, 31, 32, 33, 34, 35, 799, 800, 801, 100000, 1000000} {
			tail := strings.Repeat("0", n)
			checkRead(t, digits+tail+"1e"+strconv.Itoa(power-n-1), w, 1)
			checkRead(t, digits+tail+"e"+strconv.Itoa(power-n), w, 0)
		}
	}
}

// TestOnceRounded: P5.8: Parse32 rounds the decimal's number, not Parse's.
func TestOnceRounded(t *testing.T) {
	from, unlike := new(sample.Dice), 0
	for _, amount := range append(w32.edges(), w32.some(300, from)...) {
		digits, power := exactly(w32.between(amount), w32)
		// So little more or less that a float of 64 bits does not have it.
		up := digits + strings.Repeat("0", 60) + "1e" + strconv.Itoa(power-61)
		down := lower(digits) + strings.Repeat("9", 60) + "e" + strconv.Itoa(power-60)
		down = strings.TrimLeft(down, "0")
		checkRead(t, up, w32, amount+1)
		checkRead(t, down, w32, amount)
		for _, s := range []string{up, down} {
			x, _ := Parse(s)
			if y, e := Parse32(s); e != api.OK || y != Single(x) {
				unlike++
			}
		}
	}
	if unlike < 100 {
		t.Errorf("P5.10: only %d decimals are rounded in two ways", unlike)
	}
}

// TestParseExamples: the chapter's examples 5 and 6.
func TestParseExamples(t *testing.T) {
	for s, want := range map[string]float64{"1": 1, "1.0": 1, "10e-1": 1, "0.01E+2": 1, "9007199254740993": 9007199254740992, "9007199254740993.0000000001": 9007199254740994, "1e-400": 0, "-1e-400": minus, "-0": minus, "1.7976931348623158e308": math.MaxFloat64} {
		if x, e := Parse(s); e != api.OK || math.Float64bits(x) != math.Float64bits(want) {
			t.Errorf("P5.8: Parse(%s) = %v, %d", s, x, e)
		}
	}
	for _, s := range []string{"1e400", "1.7976931348623159e308"} {
		if x, e := Parse(s); e != api.ErrNumberRange || math.Float64bits(x) != 0 {
			t.Errorf("P5.8: Parse(%s) = %v, %d", s, x, e)
		}
	}
	if x, e := Parse32("16777217.0000000001"); x != 16777218 || e != api.OK {
		t.Errorf("P5.8: Parse32 = %v, %d", x, e)
	}
	if x, _ := Parse("16777217.0000000001"); Single(x) != 16777216 {
		t.Errorf("P5.10: Single = %v", Single(x))
	}
}

// TestParseInOrder: P5.10: of two decimals in their order the floats stand in no other one.
func TestParseInOrder(t *testing.T) {
	type decimal struct {
		text  string
		exact *big.Rat
	}
	var row []decimal
	from := new(sample.Dice)
	for _, amount := range append(w64.some(60, from), w64.infinity()-1, 0, 1, 1<<52) {
		digits, power := exactly(w64.between(amount), w64)
		for _, s := range []string{digits, lower(digits), digits[:min(17, len(digits))] + strings.Repeat("0", max(0, len(digits)-17))} {
			for _, sign := range []string{"", "-"} {
				text := sign + strings.TrimLeft(s, "0") + "e" + strconv.Itoa(power)
				if exact, ok := new(big.Rat).SetString(text); ok {
					row = append(row, decimal{text, exact})
				}
			}
		}
	}
	slices.SortFunc(row, func(a, b decimal) int { return a.exact.Cmp(b.exact) })
	before := -infinite
	for i, d := range row {
		x, e := Parse(d.text)
		if e != api.OK {
			continue
		}
		if Compare(before, x) > 0 && (i == 0 || row[i-1].exact.Cmp(d.exact) < 0) {
			t.Errorf("P5.10: %s stands ahead of the one before", short(d.text))
		}
		before = x
	}
}

// TestAnyBytes: P5.11, of rows of any bytes, of letters of decimals, and of very long texts.
func TestAnyBytes(t *testing.T) {
	from := new(sample.Dice)
	letters := "0123456789--..eE+0000019"
	for range 20000 {
		b := make([]byte, from.Next()%40)
		for i := range b {
			b[i] = byte(from.Next())
		}
		checkForm(t, string(b))
		for i := range b {
			b[i] = letters[from.Next()%uint64(len(letters))]
		}
		checkForm(t, string(b))
	}
	for _, piece := range []string{"-", "+", "0", "1", "9", ".", "e", "-1", "1.", "1e", "\x00", "\xff", "0.", "é"} {
		for _, head := range []string{"", "-", "1", "0.", "1e", "1e-", "-0"} {
			s := head + strings.Repeat(piece, 1<<17)
			again := strings.Clone(s)
			x, e := Parse(s)
			y, e32 := Parse32(s)
			if refused := e == api.ErrNumberText; refused == form.MatchString(s) || refused != (e32 == api.ErrNumberText) {
				t.Errorf("P5.11: %s: %v, %d and %v, %d", short(s), x, e, y, e32)
			}
			if x2, e2 := Parse(again); math.Float64bits(x2) != math.Float64bits(x) || e2 != e {
				t.Errorf("P5.11: %s: %v, and then %v", short(s), x, x2)
			}
		}
	}
}
