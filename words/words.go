// Package words: which words are names. Packages parse (20) and print (21) ask it, so that both have the same key words.
package words

import "cadastre/api"

// IsName tells whether s is a name: a word in small letters, of at most MaxName bytes, that is no key word.
func IsName(s string) bool {
	if s == "" || len(s) > api.MaxName || isDigit(s[0]) || isKey(s) {
		return false
	}
	for i := range len(s) {
		if !isLetter(s[i]) && !isDigit(s[i]) {
			return false
		}
	}
	return true
}

func isLetter(c byte) bool { return c == '_' || c >= 'a' && c <= 'z' }

func isDigit(c byte) bool { return c >= '0' && c <= '9' }

func isKey(s string) bool {
	switch s {
	case "any", "and", "begin", "blob", "by", "commit", "count", "create", "delete", "desc",
		"drop", "from", "index", "insert", "integer", "into", "is", "length", "max", "min",
		"not", "null", "on", "or", "order", "rollback", "rtree", "select", "set", "sum",
		"table", "text", "typeof", "unique", "update", "using", "values", "virtual", "where":
		return true
	}
	return false
}
