package parse

import "dredger/api"

// words are what declarations begin with, by their kinds.
var words = [...]string{
	api.DeclResource: "resource",
	api.DeclFlags:    "flags",
	api.DeclConst:    "const",
	api.DeclStruct:   "struct",
	api.DeclUnion:    "union",
	api.DeclCall:     "call",
}

// kindOf is the kind of a declaration that begins with a word, or 0.
func kindOf(word string) int {
	for kind, w := range words {
		if w == word {
			return kind
		}
	}
	return 0
}

// wordOf is what a declaration of a kind begins with; nothing, if the kind is none.
func wordOf(kind int) string {
	if kind < 0 || kind >= len(words) {
		return ""
	}
	return words[kind]
}
