package lex_test

import (
	"math/big"
	"regexp"
	"strings"

	"dredger/api"
)

// The model cuts a text by patterns, in this order.
var (
	modelSpace  = regexp.MustCompile(`^(?:[ \t\r]|#[^\n]*)`)
	modelName   = regexp.MustCompile(`^[a-z_][a-z0-9_$]*`)
	modelHex    = regexp.MustCompile(`^-?0x([0-9a-f]+)`)
	modelNumber = regexp.MustCompile(`^-?([0-9]+)`)
	modelText   = regexp.MustCompile(`^"([ !#-~]*)"`)
	modelMark   = regexp.MustCompile(`^[][(){},:=]`)
	modelBehind = regexp.MustCompile(`^[a-z0-9_$]`)
)

// modelScan is Scan, as the chapter says it.
func modelScan(s string) ([]api.Token, error) {
	if len(s) > 4000 {
		return nil, api.Fault{At: 0, Why: api.ErrFull}
	}
	var tokens []api.Token
	for at := 0; at < len(s); {
		rest := s[at:]
		if space := modelSpace.FindString(rest); space != "" {
			at += len(space)
			continue
		}
		token, size, why := modelToken(rest)
		if why != api.OK {
			return nil, api.Fault{At: at, Why: why}
		}
		if token.Kind == api.TokNumber && modelBehind.MatchString(rest[size:]) {
			return nil, api.Fault{At: at + size, Why: api.ErrChar}
		}
		token.At = at
		tokens = append(tokens, token)
		at += size
	}
	return tokens, nil
}

// modelToken is the token that a text begins with, and how many bytes it has.
func modelToken(rest string) (api.Token, int, api.Errno) {
	plain := func(kind int, text string) (api.Token, int, api.Errno) {
		return api.Token{Kind: kind, Text: text}, len(text), api.OK
	}
	if name := modelName.FindString(rest); name != "" {
		return plain(api.TokName, name)
	}
	for base, pattern := range map[int]*regexp.Regexp{16: modelHex, 10: modelNumber} {
		if base == 10 && modelHex.MatchString(rest) {
			continue
		}
		if found := pattern.FindStringSubmatch(rest); found != nil {
			n, _ := new(big.Int).SetString(found[1], base)
			if n.Cmp(big.NewInt(2147483648)) > 0 {
				return api.Token{}, 0, api.ErrBig
			}
			number := int(n.Int64())
			if strings.HasPrefix(rest, "-") {
				number = -number
			}
			return api.Token{Kind: api.TokNumber, Text: found[0], Number: number}, len(found[0]), api.OK
		}
	}
	if found := modelText.FindStringSubmatch(rest); found != nil {
		return api.Token{Kind: api.TokText, Text: found[1]}, len(found[0]), api.OK
	}
	if strings.HasPrefix(rest, `"`) {
		return api.Token{}, 0, api.ErrQuote
	}
	if mark := modelMark.FindString(rest); mark != "" {
		return plain(api.TokMark, mark)
	}
	if strings.HasPrefix(rest, "\n") {
		return plain(api.TokLine, "\n")
	}
	return api.Token{}, 0, api.ErrChar
}

// modelPrint is Print: lines of words.
func modelPrint(l []api.Token) string {
	lines := [][]string{nil}
	for _, t := range l {
		last := len(lines) - 1
		word := ""
		switch t.Kind {
		case api.TokLine:
			lines = append(lines, nil)
			continue
		case api.TokNumber:
			word = big.NewInt(int64(t.Number)).String()
		case api.TokText:
			word = strings.Join([]string{"", t.Text, ""}, `"`)
		case api.TokName, api.TokMark:
			word = t.Text
		}
		lines[last] = append(lines[last], word)
	}
	var texts []string
	for _, words := range lines {
		texts = append(texts, strings.Join(words, " "))
	}
	return strings.Join(texts, "\n")
}
