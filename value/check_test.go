package value

import (
	"strconv"
	"strings"
	"testing"

	"trellis/api"
	"trellis/sample"
)

// TestCheckRows: P6.1, what the chapter names: each row of the table, and which one comes first.
func TestCheckRows(t *testing.T) {
	sha := strings.Repeat("d", 32)
	for i, c := range []struct {
		v api.Value
		e api.Errno
	}{
		{sample.Map("b aa a", sample.Whole(1), sample.Whole(2), sample.Whole(3)), api.OK}, {sample.List(), api.OK}, {sample.Map(""), api.OK},
		{api.Value{Kind: api.KindMap, Keys: []string{""}, Items: []api.Value{sample.Null()}}, api.OK},
		{api.Value{}, api.ErrValueKind}, {api.Value{Kind: 10}, api.ErrValueKind}, {api.Value{Kind: -1}, api.ErrValueKind}, {api.Value{Kind: 1 << 40}, api.ErrValueKind},
		{api.Value{Kind: api.KindNull, Flag: true}, api.ErrValueKind}, {api.Value{Kind: api.KindText, Neg: true}, api.ErrValueKind},
		{sample.Float(0x7ff0000000000000), api.ErrValueFloat}, {sample.Float(0xfff0000000000000), api.ErrValueFloat}, {sample.Float(0x7ff0000000000001), api.ErrValueFloat}, {sample.Float(0xffffffffffffffff), api.ErrValueFloat},
		{sample.Float(0x7fefffffffffffff), api.OK}, {sample.Float(1 << 63), api.OK},
		{sample.Text("\xff"), api.ErrValueText}, {sample.Text("a\xc3"), api.ErrValueText}, {sample.Text("\xed\xa0\x80"), api.ErrValueText}, {sample.Text("\xed\xbf\xbf"), api.ErrValueText},
		{sample.Text("\xc0\x80"), api.ErrValueText}, {sample.Text("\xf4\x90\x80\x80"), api.ErrValueText}, {sample.Text("\xed\x9f\xbf\xee\x80\x80\xf4\x8f\xbf\xbf"), api.OK},
		{api.Value{Kind: api.KindBytes, Bytes: []byte("\xff")}, api.OK},
		{sample.Map("\xff", sample.Null()), api.ErrValueText}, {sample.Map("a \xff", sample.Null(), sample.Null()), api.ErrValueText},
		{sample.Map("\xff \xff", sample.Null(), sample.Null()), api.ErrValueText}, {sample.Map("\xff"), api.ErrValueText},
		{sample.Map("a a", sample.Null(), sample.Null()), api.ErrValueKeys}, {sample.Map("a b a", sample.Null(), sample.Null(), sample.Null()), api.ErrValueKeys},
		{sample.Map("a"), api.ErrValueKeys}, {sample.Map("", sample.Null()), api.ErrValueKeys}, {sample.Map("a b", sample.Null()), api.ErrValueKeys}, {sample.Map("a", sample.Null(), sample.Null()), api.ErrValueKeys},
		{api.Value{Kind: api.KindLink}, api.ErrValueLink}, {api.Value{Kind: api.KindLink, Link: api.Link{Version: 2}}, api.ErrValueLink},
		{api.Value{Kind: api.KindLink, Link: api.Link{Version: 1, Hash: api.HashSha, Digest: sha}}, api.OK},
		{api.Value{Kind: api.KindLink, Link: api.Link{Version: 1, Hash: api.HashSha, Digest: sha[1:]}}, api.ErrValueLink},
		{api.Value{Kind: api.KindLink, Link: api.Link{Version: 1, Codec: 1 << 63}}, api.ErrValueLink},
		{api.Value{Kind: api.KindLink, Link: api.Link{Version: 1, Digest: strings.Repeat("d", 65)}}, api.ErrValueLink},
		{api.Value{Kind: api.KindLink, Link: api.Link{Codec: api.CodecTree, Hash: api.HashSha, Digest: sha}}, api.ErrValueLink},
		// Of one value, the row that stands first in the table.
		{api.Value{Kind: api.KindFloat, Bits: 0x7ff0000000000000, Flag: true}, api.ErrValueKind},
		{api.Value{Kind: api.KindText, Text: "\xff", N: 1}, api.ErrValueKind},
		{api.Value{Kind: api.KindLink, Text: "\xff"}, api.ErrValueKind},
		{api.Value{Kind: api.KindMap, Keys: []string{"a"}, Flag: true}, api.ErrValueKind},
		// Of two values, the one that stands first.
		{sample.List(api.Value{Kind: 99}, sample.Float(0x7ff8000000000000)), api.ErrValueKind},
		{sample.List(sample.Float(0x7ff8000000000000), api.Value{Kind: 99}), api.ErrValueFloat},
		{sample.List(sample.List(sample.Null(), sample.List(sample.Text("\xff"))), sample.Float(0x7ff8000000000000)), api.ErrValueText},
		{sample.Map("x x", sample.Text("\xff"), sample.Null()), api.ErrValueKeys},
		{sample.Map("b a", sample.Text("\xff"), sample.Float(0x7ff8000000000000)), api.ErrValueText},
		{sample.Map("b a", sample.Float(0x7ff8000000000000), sample.Text("\xff")), api.ErrValueFloat},
		{api.Value{Kind: api.KindNull, Items: []api.Value{sample.Float(0x7ff8000000000000)}}, api.ErrValueKind},
		{api.Value{Kind: 10, Items: []api.Value{sample.Float(0x7ff8000000000000)}}, api.ErrValueKind},
	} {
		if e := Check(c.v); e != c.e {
			t.Errorf("P6.1: row %d: %d, not %d", i, e, c.e)
		}
		if e := judged(c.v); e != c.e {
			t.Errorf("row %d by the second reading: %d, not %d", i, e, c.e)
		}
	}
}

// TestCheckFields: P6.1: a field that the kind does not use is not zero; empty lists are.
func TestCheckFields(t *testing.T) {
	fill := map[string]func(*api.Value){
		"Flag":  func(v *api.Value) { v.Flag = true },
		"Neg":   func(v *api.Value) { v.Neg = true },
		"N":     func(v *api.Value) { v.N = 1 << 63 },
		"Bits":  func(v *api.Value) { v.Bits = 1 << 63 },
		"Text":  func(v *api.Value) { v.Text = "\x00" },
		"Bytes": func(v *api.Value) { v.Bytes = []byte{0} },
		"Keys":  func(v *api.Value) { v.Keys = []string{""} },
		"Items": func(v *api.Value) { v.Items = []api.Value{sample.Null()} },
		"L1":    func(v *api.Value) { v.Link.Version = 1 },
		"L2":    func(v *api.Value) { v.Link.Codec = 1 },
		"L3":    func(v *api.Value) { v.Link.Hash = 1 },
		"L4":    func(v *api.Value) { v.Link.Digest = "\x00" },
	}
	for _, v := range append(sample.Leaves(), sample.List(), sample.Map("")) {
		v.Bytes, v.Keys, v.Items = append([]byte{}, v.Bytes...), append([]string{}, v.Keys...), append([]api.Value{}, v.Items...)
		if e := Check(v); e != api.OK {
			t.Errorf("P6.1: %s with empty lists: %d", written(v), e)
		}
		for name, do := range fill {
			other := v
			do(&other)
			field := name
			if name[0] == 'L' {
				field = "Link"
			}
			if e := Check(other); !uses(v.Kind, field) && e != api.ErrValueKind || e != judged(other) {
				t.Errorf("P6.1: %s with %s: %d, not %d", written(v), name, e, judged(other))
			}
		}
	}
}

// TestCheckDeep: P6.1: 1024 lists and maps in one another may be, 1025 may not; what stands further up comes first.
func TestCheckDeep(t *testing.T) {
	for _, how := range []string{"l", "m", "lm", "mll"} {
		for _, c := range []struct {
			v api.Value
			n int
			e api.Errno
		}{
			{sample.List(), 1023, api.OK}, {sample.Map(""), 1023, api.OK}, {sample.Null(), 1024, api.OK},
			{sample.List(), 1024, api.ErrValueDeep}, {sample.Map(""), 1024, api.ErrValueDeep}, {sample.Null(), 1025, api.ErrValueDeep}, {sample.Null(), 1 << 16, api.ErrValueDeep},
			// The depth is asked ahead of the rest, but of lists and maps alone.
			{sample.Map("a a", sample.Null(), sample.Null()), 1024, api.ErrValueDeep}, {api.Value{Kind: api.KindList, Flag: true}, 1024, api.ErrValueDeep},
			{sample.Map("a a", sample.Null(), sample.Null()), 1023, api.ErrValueKeys}, {api.Value{Kind: api.KindList, Flag: true}, 1023, api.ErrValueKind},
			{api.Value{Kind: api.KindText, Text: "\xff"}, 1024, api.ErrValueText}, {api.Value{Kind: 10, Items: []api.Value{sample.List()}}, 1024, api.ErrValueKind},
			// The first of two.
			{sample.List(sample.List(), sample.Float(0x7ff8000000000000)), 1023, api.ErrValueDeep}, {sample.List(sample.Float(0x7ff8000000000000), sample.List()), 1023, api.ErrValueFloat},
		} {
			v := sample.Within(c.v, c.n, how)
			if e := Check(v); e != c.e {
				t.Errorf("P6.1: %d of %q about %d: %d, not %d", c.n, how, c.v.Kind, e, c.e)
			}
			v.Flag = true
			if e := Check(v); e != api.ErrValueKind {
				t.Errorf("P6.1: %d of %q, the first one with Flag: %d", c.n, how, e)
			}
		}
	}
	ring := sample.List(sample.Null())
	ring.Items[0] = ring
	ring.Items[0].Items = ring.Items
	if e := Check(ring); e != api.ErrValueDeep {
		t.Errorf("P6.1, R3: a list in itself: %d", e)
	}
}

// TestCheckMany: P6.1, R3: trees and what is none, by the second reading; maps of many keys.
func TestCheckMany(t *testing.T) {
	d := sample.Dice(1)
	met := map[api.Errno]int{}
	for range 8000 {
		v := d.Tree(4)
		if e := Check(v); e != api.OK {
			t.Fatalf("P6.1: %s: %d", written(v), e)
		}
		for range 3 {
			v = d.Touched(v)
			e := judged(v)
			met[e]++
			if Check(v) != e {
				t.Fatalf("P6.1: %+v: %d, not %d", v, Check(v), e)
			}
		}
	}
	for e := api.OK; e <= api.ErrValueKeys; e++ {
		if (e == api.OK || e > api.ErrValueDeep) && met[e] < 100 {
			t.Errorf("%d has come %d times alone", e, met[e])
		}
	}
	wide := api.Value{Kind: api.KindMap}
	for i := range 1 << 17 {
		wide.Keys = append(wide.Keys, strconv.Itoa(i*7919%(1<<17)))
		wide.Items = append(wide.Items, sample.Null())
	}
	if e := Check(wide); e != api.OK {
		t.Errorf("P6.1: many keys: %d", e)
	}
	wide.Keys[1<<16] = wide.Keys[5]
	if e := Check(wide); e != api.ErrValueKeys {
		t.Errorf("P6.1: many keys, one twice: %d", e)
	}
}
