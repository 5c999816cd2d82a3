package lay

import (
	"encoding/binary"
	"math"
	"sort"

	"trellis/api"
)

// What stands in this file is a plain second reading of DOC.md's tables 'The form' and 'Links'.

// headed tells the shortest head of a major and an argument.
func headed(major byte, n uint64) []byte {
	first := major << 5
	switch {
	case n < 24:
		return []byte{first | byte(n)}
	case n <= math.MaxUint8:
		return []byte{first | 24, byte(n)}
	case n <= math.MaxUint16:
		return binary.BigEndian.AppendUint16([]byte{first | 25}, uint16(n))
	case n <= math.MaxUint32:
		return binary.BigEndian.AppendUint32([]byte{first | 26}, uint32(n))
	}
	return binary.BigEndian.AppendUint64([]byte{first | 27}, n)
}

// bytesOf tells the bytes of a link that may be.
func bytesOf(l api.Link) []byte {
	if l.Version == 0 {
		return append([]byte{18, 32}, l.Digest...)
	}
	var b []byte
	for _, n := range []uint64{1, l.Codec, l.Hash, uint64(len(l.Digest))} {
		b = binary.AppendUvarint(b, n)
	}
	return append(b, l.Digest...)
}

// formOf tells the form of a tree.
func formOf(v api.Value) []byte {
	switch v.Kind {
	case api.KindNull:
		return []byte{0xf6}
	case api.KindBool:
		if v.Flag {
			return []byte{0xf5}
		}
		return []byte{0xf4}
	case api.KindInt:
		if v.Neg {
			return headed(1, v.N)
		}
		return headed(0, v.N)
	case api.KindFloat:
		return binary.BigEndian.AppendUint64([]byte{0xfb}, v.Bits)
	case api.KindBytes:
		return append(headed(2, uint64(len(v.Bytes))), v.Bytes...)
	case api.KindText:
		return append(headed(3, uint64(len(v.Text))), v.Text...)
	case api.KindLink:
		b := append([]byte{0}, bytesOf(v.Link)...)
		return append(append([]byte{0xd8, 42}, headed(2, uint64(len(b)))...), b...)
	case api.KindList:
		b := headed(4, uint64(len(v.Items)))
		for _, item := range v.Items {
			b = append(b, formOf(item)...)
		}
		return b
	}
	b := headed(5, uint64(len(v.Items)))
	places := map[string]int{}
	var keys []string
	for i, key := range v.Keys {
		places[key] = i
		keys = append(keys, key)
	}
	sort.Slice(keys, func(i, j int) bool {
		if len(keys[i]) != len(keys[j]) {
			return len(keys[i]) < len(keys[j])
		}
		return keys[i] < keys[j]
	})
	for _, key := range keys {
		b = append(b, headed(3, uint64(len(key)))...)
		b = append(b, key...)
		b = append(b, formOf(v.Items[places[key]])...)
	}
	return b
}
