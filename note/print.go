package note

import (
	"math"
	"strconv"
	"strings"

	"trellis/api"
	"trellis/link"
	"trellis/number"
)

const (
	digits16 = "0123456789abcdef"
	lowest   = "-18446744073709551616" // its amount is the one that 64 bits do not hold
)

// write writes a tree whose maps' entries stand in keys' order.
func write(b *strings.Builder, v api.Value) {
	switch v.Kind {
	case api.KindNull:
		b.WriteString("null")
	case api.KindBool:
		b.WriteString(strconv.FormatBool(v.Flag))
	case api.KindInt:
		b.WriteString(wholeText(v.Neg, v.N))
	case api.KindFloat:
		b.WriteString(number.Print(math.Float64frombits(v.Bits)))
	case api.KindText:
		writeText(b, v.Text)
	case api.KindBytes:
		writeBytes(b, v.Bytes)
	case api.KindLink:
		text, _ := link.Text(v.Link) // a tree's links have texts
		b.WriteString("&" + text)
	case api.KindList:
		writeList(b, v.Items)
	case api.KindMap:
		writeMap(b, v.Keys, v.Items)
	}
}

// wholeText tells a whole number's text.
func wholeText(neg bool, n uint64) string {
	switch {
	case !neg:
		return strconv.FormatUint(n, 10)
	case n == math.MaxUint64:
		return lowest
	}
	return "-" + strconv.FormatUint(n+1, 10)
}

func writeText(b *strings.Builder, s string) {
	b.WriteByte('"')
	for _, c := range s {
		switch {
		case c == '\n':
			b.WriteString(`\n`)
		case c == '\r':
			b.WriteString(`\r`)
		case c == '\t':
			b.WriteString(`\t`)
		case c == '"' || c == '\\':
			b.WriteByte('\\')
			b.WriteRune(c)
		case c < ' ':
			b.WriteString(`\u00`)
			writeByte(b, byte(c))
		default:
			b.WriteRune(c)
		}
	}
	b.WriteByte('"')
}

func writeBytes(b *strings.Builder, list []byte) {
	b.WriteByte('#')
	for _, one := range list {
		writeByte(b, one)
	}
}

// writeByte writes a byte by two digits of base 16.
func writeByte(b *strings.Builder, one byte) {
	b.WriteByte(digits16[one>>4])
	b.WriteByte(digits16[one&15])
}

func writeList(b *strings.Builder, items []api.Value) {
	b.WriteByte('[')
	for i, item := range items {
		if i > 0 {
			b.WriteByte(',')
		}
		write(b, item)
	}
	b.WriteByte(']')
}

func writeMap(b *strings.Builder, keys []string, items []api.Value) {
	b.WriteByte('{')
	for i, key := range keys {
		if i > 0 {
			b.WriteByte(',')
		}
		writeText(b, key)
		b.WriteByte(':')
		write(b, items[i])
	}
	b.WriteByte('}')
}
