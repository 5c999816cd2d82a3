package desk

import (
	"strconv"
	"strings"
	"unicode/utf8"

	"trellis/api"
	"trellis/note"
)

// told tells lines, and that they were not refused.
func told(lines ...string) ([]string, api.Errno) { return lines, api.OK }

// lineOf puts the parts of a line together.
func lineOf(parts ...string) string { return strings.Join(parts, " ") }

// counted tells the number that a call has told.
func counted(n int, e api.Errno) ([]string, api.Errno) {
	if e != api.OK {
		return nil, e
	}
	return told(strconv.Itoa(n))
}

// valued tells the value that a call has told, or that there is none.
func valued(v api.Value, is bool, e api.Errno) ([]string, api.Errno) {
	if e != api.OK {
		return nil, e
	}
	return told(orNone(v, is))
}

// orNone tells a tree's text, if there is a tree.
func orNone(v api.Value, is bool) string {
	if !is {
		return "none"
	}
	return treeOf(v)
}

// treeOf tells the text of what a call has told as a tree.
func treeOf(v api.Value) string {
	s, _ := note.Print(v)
	return s
}

func textOf(s string) string { return treeOf(api.Value{Kind: api.KindText, Text: s}) }

func linkOf(l api.Link) string { return treeOf(api.Value{Kind: api.KindLink, Link: l}) }

func hexOf(b []byte) string { return treeOf(api.Value{Kind: api.KindBytes, Bytes: b}) }

// keyText tells a key, as a text, if it may be one.
func keyText(key []byte) string {
	if utf8.Valid(key) {
		return textOf(string(key))
	}
	return hexOf(key)
}

func faultOf(f api.Fault) string {
	return lineOf("fault", strconv.Itoa(int(f.Code)), strconv.Itoa(f.At))
}
