package value

import (
	"math"
	"slices"
	"unicode/utf8"

	"trellis/api"
	"trellis/link"
	"trellis/number"
)

// Check tells whether a value is a tree.
func Check(v api.Value) api.Errno { return checked(v, 0) }

// checked tells the first error in a value that stands in so many lists and maps.
func checked(v api.Value, about int) api.Errno {
	if e := alone(v, about); e != api.OK {
		return e
	}
	for _, item := range v.Items {
		if e := checked(item, about+1); e != api.OK {
			return e
		}
	}
	return api.OK
}

// alone tells the error of a value by itself, whatever its items are.
func alone(v api.Value, about int) api.Errno {
	// A kind's own fields are asked behind tidy, where those of other kinds are known to be zero.
	switch {
	case nests(v) && about >= api.MaxDepth:
		return api.ErrValueDeep
	case !tidy(v):
		return api.ErrValueKind
	case !number.Finite(math.Float64frombits(v.Bits)):
		return api.ErrValueFloat
	case bad(v.Text) || slices.ContainsFunc(v.Keys, bad):
		return api.ErrValueText
	case v.Kind == api.KindLink && link.Check(v.Link) != api.OK:
		return api.ErrValueLink
	case v.Kind == api.KindMap && (len(v.Keys) != len(v.Items) || twice(v)):
		return api.ErrValueKeys
	}
	return api.OK
}

// tidy tells whether a value's kind is one, and the fields that it does not use are zero.
func tidy(v api.Value) bool {
	switch v.Kind {
	case api.KindNull:
	case api.KindBool:
		v.Flag = false
	case api.KindInt:
		v.Neg, v.N = false, 0
	case api.KindFloat:
		v.Bits = 0
	case api.KindText:
		v.Text = ""
	case api.KindBytes:
		v.Bytes = nil
	case api.KindLink:
		v.Link = api.Link{}
	case api.KindList:
		v.Items = nil
	case api.KindMap:
		v.Keys, v.Items = nil, nil
	default:
		return false
	}
	return !v.Flag && !v.Neg && v.N == 0 && v.Bits == 0 && v.Text == "" && v.Link == (api.Link{}) &&
		len(v.Bytes) == 0 && len(v.Keys) == 0 && len(v.Items) == 0
}

// bad tells whether a text is no good UTF-8.
func bad(text string) bool { return !utf8.ValidString(text) }

// twice tells whether a key of a map stands twice.
func twice(v api.Value) bool {
	places := order(v)
	for i := range places {
		if i > 0 && v.Keys[places[i-1]] == v.Keys[places[i]] {
			return true
		}
	}
	return false
}
