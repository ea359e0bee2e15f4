// Package tok is layer 1: see shared/doc/01-tok.md.
package tok

import (
	"strings"

	"conduit/api"
)

const (
	quote  = '"'
	escape = '\\'
	blanks = " \t"
	marks  = "!#$%&'*+-.^_`|~"
)

// Token: is s a token?
func Token(s string) bool {
	for i := range len(s) {
		if !tokenByte(s[i]) {
			return false
		}
	}
	return s != ""
}

// Trim: s without blanks at its ends.
func Trim(s string) string {
	return strings.Clone(trimmed(s))
}

// Fold: s in small letters.
func Fold(s string) string {
	b := []byte(s)
	for i, c := range b {
		if 'A' <= c && c <= 'Z' {
			b[i] = c - 'A' + 'a'
		}
	}
	return string(b)
}

// List: the elements of a list.
func List(s string) []string {
	var list []string
	for _, piece := range pieces(s, ',') {
		if piece != "" {
			list = append(list, strings.Clone(piece))
		}
	}
	return list
}

// Quote: s in quotes.
func Quote(s string) (string, api.Errno) {
	b := []byte{quote}
	for i := range len(s) {
		c := s[i]
		switch {
		case c == quote, c == escape:
			b = append(b, escape)
			fallthrough
		case textByte(c):
			b = append(b, c)
		default:
			return "", api.ErrQuote
		}
	}
	return string(append(b, quote)), api.OK
}

// Unquote: what stands in quotes.
func Unquote(s string) (string, api.Errno) {
	last := len(s) - 1
	if last < 1 || s[0] != quote || s[last] != quote {
		return "", api.ErrQuote
	}
	var b []byte
	for i := 1; i < last; i++ {
		if s[i] == quote {
			return "", api.ErrQuote
		}
		if s[i] == escape {
			i++
		}
		// The closing quote can't be the second half of a pair: then nothing would close the text.
		if i == last || !textByte(s[i]) {
			return "", api.ErrQuote
		}
		b = append(b, s[i])
	}
	return string(b), api.OK
}

// Params: a value and its parameters.
func Params(s string) (string, []api.Param, api.Errno) {
	all := pieces(s, ';')
	var list []api.Param
	for _, piece := range all[1:] {
		if piece == "" {
			continue
		}
		p, e := param(piece)
		if e != api.OK {
			return "", nil, e
		}
		list = append(list, p)
	}
	return strings.Clone(all[0]), list, api.OK
}

// param: the parameter that a piece is.
func param(piece string) (api.Param, api.Errno) {
	name, value, found := strings.Cut(piece, "=")
	if !found || !Token(name) {
		return api.Param{}, api.ErrParam
	}
	if Token(value) {
		return api.Param{Name: Fold(name), Value: strings.Clone(value)}, api.OK
	}
	text, e := Unquote(value)
	if e != api.OK {
		return api.Param{}, api.ErrParam
	}
	return api.Param{Name: Fold(name), Value: text}, api.OK
}

// pieces: s cut at each c outside of a quoted stretch, trimmed; one piece at least. They lie within s: what is answered of them is copied.
func pieces(s string, c byte) []string {
	var list []string
	start, quoted := 0, false
	for i := 0; i < len(s); i++ {
		switch {
		case s[i] == quote:
			quoted = !quoted
		case quoted && s[i] == escape:
			i++
		case !quoted && s[i] == c:
			list = append(list, trimmed(s[start:i]))
			start = i + 1
		}
	}
	return append(list, trimmed(s[start:]))
}

func trimmed(s string) string {
	return strings.Trim(s, blanks)
}

func tokenByte(c byte) bool {
	switch {
	case 'A' <= c && c <= 'Z', 'a' <= c && c <= 'z', '0' <= c && c <= '9':
		return true
	}
	return strings.IndexByte(marks, c) >= 0
}

func textByte(c byte) bool {
	return c == '\t' || c >= ' ' && c != 127
}
