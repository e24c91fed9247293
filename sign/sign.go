// Package sign is layer 1: values as bytes that keep their order. See shared/doc/01-sign.md.
package sign

import (
	"cmp"
	"strings"

	"gauger/api"
)

// signBit is the highest bit of a number: turned, it puts those below 0 ahead of the others, byte by byte.
const signBit uint64 = 1 << 63

// Good tells whether a value can be: a number without a text, or a text of at most MaxText bytes without a number.
func Good(v api.Value) bool {
	switch v.Kind {
	case api.Int:
		return v.S == ""
	case api.Text:
		return v.N == 0 && len(v.S) <= api.MaxText
	}
	return false
}

// Code is a value's bytes; ErrArg, if the value can't be.
func Code(v api.Value) (string, api.Errno) {
	if !Good(v) {
		return "", api.ErrArg
	}
	code := codeOf(v)
	return string(code[:]), api.OK
}

// Read is the value of a code; ErrForm, if the bytes are no value's.
func Read(s string) (api.Value, api.Errno) {
	if len(s) != api.CodeSize {
		return api.Value{}, api.ErrForm
	}
	switch s[0] {
	case api.Int:
		return api.Value{Kind: api.Int, N: readNumber(s[1:])}, api.OK
	case api.Text:
		return readText(s[1:])
	}
	return api.Value{}, api.ErrForm
}

// Compare is -1 if a stands ahead of b, 1 if b stands ahead of a, and 0 if they are the same, or one can't be.
func Compare(a, b api.Value) int {
	if !Good(a) || !Good(b) {
		return 0
	}
	// Of what can be, numbers have no text and texts no number, and Int is below Text.
	return cmp.Or(cmp.Compare(a.Kind, b.Kind), cmp.Compare(a.N, b.N), strings.Compare(a.S, b.S))
}

// Row is the codes of at most MaxCols values, one behind the other; ErrArg, if there are more, or one can't be.
func Row(list ...api.Value) (string, api.Errno) {
	if len(list) > api.MaxCols {
		return "", api.ErrArg
	}
	row := make([]byte, 0, len(list)*api.CodeSize)
	for _, v := range list {
		if !Good(v) {
			return "", api.ErrArg
		}
		code := codeOf(v)
		row = append(row, code[:]...)
	}
	return string(row), api.OK
}

// ReadRow is the values of a row's bytes; ErrForm, if the bytes are no row's. No bytes are the row of no values.
func ReadRow(s string) ([]api.Value, api.Errno) {
	if len(s)%api.CodeSize != 0 || len(s) > api.MaxCols*api.CodeSize {
		return nil, api.ErrForm
	}
	var list []api.Value
	for at := 0; at < len(s); at += api.CodeSize {
		v, e := Read(s[at : at+api.CodeSize])
		if e != api.OK {
			return nil, e
		}
		list = append(list, v)
	}
	return list, api.OK
}

// codeOf is the code of a value that can be.
func codeOf(v api.Value) [api.CodeSize]byte {
	var code [api.CodeSize]byte
	code[0] = byte(v.Kind)
	if v.Kind == api.Text {
		// How long the text is stands last: it tells a text from one that goes on with bytes 0.
		copy(code[1:], v.S)
		code[api.CodeSize-1] = byte(len(v.S))
		return code
	}
	bits := uint64(v.N) ^ signBit
	for i := api.CodeSize - 1; i > 0; i-- {
		code[i] = byte(bits)
		bits >>= 8
	}
	return code
}

// readNumber is the number of the eight bytes behind a number's Kind, which may be any.
func readNumber(s string) int {
	var bits uint64
	for i := range len(s) {
		bits = bits<<8 | uint64(s[i])
	}
	return int(bits ^ signBit)
}

// readText is the text of the eight bytes behind a text's Kind; ErrForm, if they tell too great a length, or hold more than it.
func readText(s string) (api.Value, api.Errno) {
	room, size := s[:api.MaxText], int(s[api.MaxText])
	if size > api.MaxText || strings.Trim(room[size:], "\x00") != "" {
		return api.Value{}, api.ErrForm
	}
	// A copy, so that a value doesn't hold on to all the bytes that it was read from.
	return api.Value{Kind: api.Text, S: strings.Clone(room[:size])}, api.OK
}
