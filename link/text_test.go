package link

import (
	"encoding/base32"
	"encoding/hex"
	"math/big"
	"slices"
	"strings"
	"testing"

	"trellis/api"
)

const fiftyEight = "123456789ABCDEFGHJKLMNPQRSTUVWXYZabcdefghijkmnopqrstuvwxyz"

var thirtyTwo = base32.NewEncoding("abcdefghijklmnopqrstuvwxyz234567").WithPadding(base32.NoPadding)

// in58 tells a row of bytes in base 58, by numbers of any size.
func in58(b string) string {
	var out []byte
	for n, digit := new(big.Int).SetBytes([]byte(b)), new(big.Int); n.Sign() > 0; {
		n.QuoRem(n, big.NewInt(58), digit)
		out = append(out, fiftyEight[digit.Int64()])
	}
	for i := 0; i < len(b) && b[i] == 0; i++ {
		out = append(out, '1')
	}
	slices.Reverse(out)
	return string(out)
}

// of58 tells the row of bytes that a text is in base 58.
func of58(s string) (string, bool) {
	ones := len(s) - len(strings.TrimLeft(s, "1"))
	n := new(big.Int)
	for i := range len(s) {
		digit := strings.IndexByte(fiftyEight, s[i])
		if digit < 0 {
			return "", false
		}
		n.Add(n.Mul(n, big.NewInt(58)), big.NewInt(int64(digit)))
	}
	return strings.Repeat("\x00", ones) + string(n.Bytes()), true
}

// of32 tells the row of bytes that a text is in base 32: that which has just this text.
func of32(s string) (string, bool) {
	b, err := thirtyTwo.DecodeString(s)
	return string(b), err == nil && thirtyTwo.EncodeToString(b) == s
}

// of16 tells the row of bytes that a text is in base 16.
func of16(s string) (string, bool) {
	b, err := hex.DecodeString(s)
	return string(b), err == nil && hex.EncodeToString(b) == s
}

// texts tells the text of a row of bytes in each of the bases, its letter ahead.
func texts(b string) map[int]string {
	return map[int]string{api.Base16: "f" + hex.EncodeToString([]byte(b)), api.Base32: "b" + thirtyTwo.EncodeToString([]byte(b)), api.Base58: "z" + in58(b)}
}

// meant tells what P4.9 asks of ParseText, by its points in their order.
func meant(s string) (api.Link, api.Errno) {
	if len(s) > 153 {
		return api.Link{}, api.ErrLinkText
	}
	if s == "" || !strings.Contains("Qfbz", s[:1]) {
		return api.Link{}, api.ErrLinkBase
	}
	of := map[byte]func(string) (string, bool){'Q': of58, 'f': of16, 'b': of32, 'z': of58}[s[0]]
	b, ok := of(strings.TrimLeft(s[:1], "fbz") + s[1:])
	if !ok {
		return api.Link{}, api.ErrLinkText
	}
	l, n, e := wanted(b)
	switch {
	case e != api.OK:
		return api.Link{}, e
	case n < len(b):
		return api.Link{}, api.ErrLinkLeft
	case l.Version == 1 && s[0] == 'Q', l.Version == 0 && s[0] != 'Q':
		return api.Link{}, api.ErrLinkVersion
	}
	return l, api.OK
}

// checkParse holds ParseText against meant; a text that it takes is its link's Text or one of its TextIn.
func checkParse(t *testing.T, s string) {
	t.Helper()
	l, e := ParseText(s)
	if wl, we := meant(s); l != wl || e != we {
		t.Fatalf("ParseText(%q) = %+v, %d; want %+v, %d", s, l, e, wl, we)
	}
	if e != api.OK {
		return
	}
	own, _ := Text(l)
	found := own == s
	for base := range 5 {
		other, _ := TextIn(l, base)
		found = found || other == s
	}
	if !found {
		t.Fatalf("ParseText(%q) = %+v, of which it is no text", s, l)
	}
}

// checkTexts holds Text and TextIn of a link against P4.8, and ParseText of what they tell against the link.
func checkTexts(t *testing.T, l api.Link, base int) {
	t.Helper()
	own, we, other, wf := "", api.ErrLinkNone, "", api.ErrLinkNone
	if may(l) {
		all := texts(laid(l))
		own, we, other, wf = all[api.Base32], api.OK, all[base], api.OK
		if l.Version == 0 {
			own, other = in58(laid(l)), ""
		}
		if other == "" {
			wf = api.ErrLinkBase
		}
	}
	s, e := Text(l)
	in, f := TextIn(l, base)
	if s != own || e != we || in != other || f != wf {
		t.Fatalf("%+v: Text %q, %d, TextIn(%d) %q, %d; want %q, %d, %q, %d", l, s, e, base, in, f, own, we, other, wf)
	}
	for _, text := range []string{own, other} {
		if text == "" {
			continue
		}
		if back, e := ParseText(text); back != l || e != api.OK || len(text) > 153 {
			t.Fatalf("ParseText(%q) = %+v, %d; want %+v", text, back, e, l)
		}
	}
}

// TestTextKnown: P4.8 and P4.9, the chapter's examples there and back.
func TestTextKnown(t *testing.T) {
	s := api.Link{Version: 1, Codec: api.CodecRaw, Hash: api.HashSha, Digest: sha("")}
	o := api.Link{Codec: api.CodecOld, Hash: api.HashSha, Digest: sha("")}
	ab := api.Link{Version: 1, Codec: api.CodecTree, Digest: "ab"}
	for _, c := range []struct {
		l    api.Link
		base int
		text string
	}{
		{s, api.BaseNone, "bafkreihdwdcefgh4dqkjv67uzcmw7ojee6xedzdetojuzjevtenxquvyku"},
		{s, api.Base32, "bafkreihdwdcefgh4dqkjv67uzcmw7ojee6xedzdetojuzjevtenxquvyku"},
		{s, api.Base58, "zb2rhmy65F3REf8SZp7De11gxtECBGgUKaLdiDj7MCGCHxbDW"},
		{s, api.Base16, "f01551220e3b0c44298fc1c149afbf4c8996fb92427ae41e4649b934ca495991b7852b855"},
		{o, api.BaseNone, "QmdfTbBqBPQ7VNxZEYEj14VmRuZBkqFbiwReogJgS1zR1n"},
		{ab, api.BaseNone, "bafyqaatbmi"},
		{ab, api.Base32, "bafyqaatbmi"},
		{ab, api.Base16, "f017100026162"},
		{ab, api.Base58, "zidcA62V"},
	} {
		text, e := Text(c.l)
		if c.base != api.BaseNone {
			text, e = TextIn(c.l, c.base)
		}
		if text != c.text || e != api.OK {
			t.Errorf("%+v in base %d: %q, %d; want %q", c.l, c.base, text, e, c.text)
		}
		if l, e := ParseText(c.text); l != c.l || e != api.OK {
			t.Errorf("ParseText(%q) = %+v, %d", c.text, l, e)
		}
	}
}

// TestTexts: P4.8 and P4.10, links of all kinds in all bases and in others: the texts, or which error comes first; each text is its link's alone.
func TestTexts(t *testing.T) {
	longest, seen := 0, map[string]bool{}
	for _, l := range every() {
		for _, base := range []int{api.BaseNone, api.Base16, api.Base32, api.Base58, 4, 16, 32, 58, 99, -1, 1 << 32, 1<<32 + 1, -1 << 63, 1<<63 - 1} {
			checkTexts(t, l, base)
			if s, e := TextIn(l, base); e == api.OK {
				longest = max(longest, len(s))
				if seen[s] {
					t.Errorf("%q is the text of two links", s)
				}
				seen[s] = true
			}
		}
		if s, e := Text(l); e == api.OK && l.Version == 0 && s[0] != 'Q' {
			t.Errorf("Text(%+v) = %q", l, s)
		}
	}
	if longest != 153 || len(seen) != len(codecs)*10*3 {
		t.Errorf("%d texts, the longest of %d bytes", len(seen), longest)
	}
}

// TestOldText: P4.8, whatever the digest of version 0, its text begins with Q and is of 46 digits.
func TestOldText(t *testing.T) {
	for _, d := range []string{strings.Repeat("\x00", 32), strings.Repeat("\xff", 32), some(32), sha("x")} {
		l := api.Link{Codec: api.CodecOld, Hash: api.HashSha, Digest: d}
		s, e := Text(l)
		if e != api.OK || len(s) != 46 || s[0] != 'Q' || s != in58("\x12\x20"+d) {
			t.Errorf("Text(%+v) = %q, %d", l, s, e)
		}
		checkParse(t, s)
	}
}

// TestTextRefuses: P4.8, which error comes first.
func TestTextRefuses(t *testing.T) {
	o := api.Link{Codec: api.CodecOld, Hash: api.HashSha, Digest: sha("")}
	for _, base := range []int{api.BaseNone, api.Base16, api.Base32, api.Base58, 58} {
		if s, e := TextIn(o, base); s != "" || e != api.ErrLinkBase {
			t.Errorf("TextIn of version 0 in base %d: %q, %d", base, s, e)
		}
		for _, none := range []api.Link{{}, {Version: 2}, {Version: 1, Hash: 19}, {Version: 1, Digest: some(65)}} {
			if s, e := TextIn(none, base); s != "" || e != api.ErrLinkNone {
				t.Errorf("TextIn(%+v, %d) = %q, %d", none, base, s, e)
			}
			if s, e := Text(none); s != "" || e != api.ErrLinkNone {
				t.Errorf("Text(%+v) = %q, %d", none, s, e)
			}
		}
	}
}

// TestParseTextRefuses: P4.9, what is refused, and which error comes first.
func TestParseTextRefuses(t *testing.T) {
	now, old := "\x01\x55\x12\x20"+sha(""), "\x12\x20"+sha("")
	last := "f01ffffffffffffffff7f0040" + strings.Repeat("7a", 64)
	for _, c := range []struct {
		s string
		e api.Errno
	}{
		{strings.Repeat("x", 154), api.ErrLinkText}, {strings.Repeat("f", 154), api.ErrLinkText}, {last + "0", api.ErrLinkText}, {last + "00", api.ErrLinkText}, {strings.Repeat("x", 153), api.ErrLinkBase}, {"f" + strings.Repeat("0", 152), api.ErrLinkVersion}, {"f" + strings.Repeat("x", 152), api.ErrLinkText}, {strings.Repeat("x", 4000), api.ErrLinkText},
		{"", api.ErrLinkBase}, {"a", api.ErrLinkBase}, {"F01", api.ErrLinkBase}, {"B", api.ErrLinkBase}, {"Z", api.ErrLinkBase}, {"q", api.ErrLinkBase}, {" f00", api.ErrLinkBase}, {"1", api.ErrLinkBase}, {"\x00", api.ErrLinkBase}, {"\xff", api.ErrLinkBase}, {texts(now)[api.Base32][1:], api.ErrLinkBase},
		{"f0", api.ErrLinkText}, {"f000", api.ErrLinkText}, {"fG", api.ErrLinkText}, {"f0G", api.ErrLinkText}, {"f0A", api.ErrLinkText}, {"f0g", api.ErrLinkText}, {"f 0", api.ErrLinkText}, {"f0155000", api.ErrLinkText}, {"f01550000\n", api.ErrLinkText},
		{"b1", api.ErrLinkText}, {"ba1", api.ErrLinkText}, {"ba0", api.ErrLinkText}, {"ba8", api.ErrLinkText}, {"baA", api.ErrLinkText}, {"ba", api.ErrLinkText}, {"baaa", api.ErrLinkText}, {"baaaaaa", api.ErrLinkText}, {"bab", api.ErrLinkText}, {"bad", api.ErrLinkText}, {"bae", api.ErrLinkForm}, {"bafyqaatbmj", api.ErrLinkText}, {"bafyqaatbmi=", api.ErrLinkText}, {"bafyqaatbmia", api.ErrLinkText},
		{"zO", api.ErrLinkText}, {"z0", api.ErrLinkText}, {"zI", api.ErrLinkText}, {"zl", api.ErrLinkText}, {"Q0", api.ErrLinkText}, {"Q ", api.ErrLinkText}, {"Q\xff", api.ErrLinkText}, {"z_", api.ErrLinkText}, {in58(now), api.ErrLinkText},
		{"f", api.ErrLinkForm}, {"b", api.ErrLinkForm}, {"z", api.ErrLinkForm}, {"f01", api.ErrLinkForm}, {"f0155", api.ErrLinkForm}, {"z2", api.ErrLinkForm}, {"f8100", api.ErrLinkForm}, {"f12", api.ErrLinkForm},
		{"Q", api.ErrLinkVersion}, {"f00", api.ErrLinkVersion}, {"baa", api.ErrLinkVersion}, {"z1", api.ErrLinkVersion}, {"z1111", api.ErrLinkVersion}, {"z1" + in58(now), api.ErrLinkVersion}, {"f02", api.ErrLinkVersion},
		{"f01551300", api.ErrLinkDigest}, {"f0155121f", api.ErrLinkDigest}, {"f121f", api.ErrLinkDigest},
		{texts(now + "\x00")[api.Base16], api.ErrLinkLeft}, {texts(now + "\x00")[api.Base32], api.ErrLinkLeft}, {texts(now + "\x00")[api.Base58], api.ErrLinkLeft}, {texts(old + "\x00")[api.Base16], api.ErrLinkLeft},
		{texts(old)[api.Base16], api.ErrLinkVersion}, {texts(old)[api.Base32], api.ErrLinkVersion}, {texts(old)[api.Base58], api.ErrLinkVersion},
	} {
		if l, e := ParseText(c.s); l != (api.Link{}) || e != c.e {
			t.Errorf("ParseText(%q) = %+v, %d; want %d", c.s, l, e, c.e)
		}
		checkParse(t, c.s)
	}
	if l, e := ParseText(last); e != api.OK || l != (api.Link{Version: 1, Codec: 1<<63 - 1, Digest: strings.Repeat("z", 64)}) || len(last) != 153 {
		t.Errorf("the longest text: %+v, %d", l, e)
	}
}

// TestVersionWithQ: P4.9, links of version 1 whose row in base 58 begins with Q, and such with a byte left behind them.
func TestVersionWithQ(t *testing.T) {
	found, left := 0, 0
	for n := range 65 {
		for codec := range uint64(256) {
			row := "\x01" + seven(codec) + "\x00" + seven(uint64(n)) + some(n)
			if s := in58(row); s[0] == 'Q' {
				found++
				if l, e := ParseText(s); l != (api.Link{}) || e != api.ErrLinkVersion {
					t.Fatalf("ParseText(%q) = %+v, %d", s, l, e)
				}
				if l, e := ParseText("z" + s); e != api.OK || l != (api.Link{Version: 1, Codec: codec, Digest: some(n)}) {
					t.Fatalf("ParseText(%q) = %+v, %d", "z"+s, l, e)
				}
			}
			if s := in58(row + "\x00"); s[0] == 'Q' {
				left++
				if l, e := ParseText(s); l != (api.Link{}) || e != api.ErrLinkLeft {
					t.Fatalf("ParseText(%q) = %+v, %d", s, l, e)
				}
			}
		}
	}
	if found == 0 || left == 0 {
		t.Errorf("%d links of version 1 begin with Q, %d with a byte left", found, left)
	}
}

// TestBases: P4.8 and P4.9, rows of bytes in the bases, links or not: such that begin with 0, of every length, of none.
func TestBases(t *testing.T) {
	var rows []string
	for n := range 80 {
		for _, zeros := range []int{0, 1, 2, 5} {
			rows = append(rows, strings.Repeat("\x00", zeros)+some(n), strings.Repeat("\x00", zeros)+strings.Repeat("\xff", n), strings.Repeat("\x00", zeros+n))
		}
	}
	for first := range 256 {
		rows = append(rows, string([]byte{byte(first)}), string([]byte{0, byte(first)}), string([]byte{byte(first), 0}))
	}
	for _, row := range rows {
		for number, want := range texts(row) {
			in, ok := baseOf(number)
			if s := in.letter + in.text([]byte(row)); !ok || s != want {
				t.Fatalf("%x in base %d: %q; want %q", row, number, s, want)
			}
			if b, ok := in.row(want[1:]); !ok || string(b) != row {
				t.Fatalf("%q in base %d: %x, %v", want, number, b, ok)
			}
		}
	}
}

// TestShortTexts: P4.9, every text of up to three bytes behind a letter, as far as its bytes tell anything apart.
func TestShortTexts(t *testing.T) {
	const bytes = "\x00 019:=@AGINOQZ`abefglmoyz~234567\x7f\x80\xff"
	for _, first := range "Qfbzxa" {
		for _, a := range []byte(bytes) {
			one := string(first) + string([]byte{a})
			checkParse(t, one)
			for _, b := range []byte(bytes) {
				for _, c := range []byte(bytes) {
					checkParse(t, one+string([]byte{b}))
					checkParse(t, one+string([]byte{b, c}))
				}
			}
		}
	}
	for first := range 256 {
		for second := range 256 {
			checkParse(t, string([]byte{byte(first), byte(second)}))
			checkParse(t, "f0155"+string([]byte{byte(first), byte(second)})+"00")
			checkParse(t, "bafyqaatbm"+string([]byte{byte(first), byte(second)}))
		}
	}
}

// TestOneText: P4.10, texts of a link in which a byte is another one, or is missing, or is one more.
func TestOneText(t *testing.T) {
	for _, l := range []api.Link{{Version: 1}, {Version: 1, Codec: api.CodecTree, Digest: "ab"}, {Version: 1, Codec: 128, Hash: api.HashSha, Digest: sha("")}, {Codec: api.CodecOld, Hash: api.HashSha, Digest: sha("")}} {
		all := texts(laid(l))
		all[api.BaseNone] = in58(laid(l))
		for _, s := range all {
			checkParse(t, s)
			for i := range s {
				checkParse(t, s[:i])
				checkParse(t, s[i:])
				checkParse(t, s[:i]+s[i+1:])
				for _, c := range []byte("\x00 01AaBbfIloOQyz27\xff") {
					checkParse(t, s[:i]+string([]byte{c})+s[i+1:])
					checkParse(t, s[:i]+string([]byte{c})+s[i:])
					checkParse(t, s+string([]byte{c}))
				}
			}
		}
	}
}

// FuzzParseText: P4.11, R3: whatever is handed in, ParseText ends and tells what the chapter says.
func FuzzParseText(f *testing.F) {
	for _, s := range []string{"", "Q", "f", "b", "z", "z1", "bafyqaatbmi", "f017100026162", "zidcA62V", "QmdfTbBqBPQ7VNxZEYEj14VmRuZBkqFbiwReogJgS1zR1n", strings.Repeat("z", 153), strings.Repeat("z", 154)} {
		f.Add(s)
	}
	f.Fuzz(checkParse)
}
