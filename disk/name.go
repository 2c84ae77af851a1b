package disk

import (
	"slices"
	"strings"

	"glacier/api"
)

// Name tells whether a text is a file's name.
func Name(s string) bool {
	if len(s) < 1 || len(s) > api.MaxName {
		return false
	}
	for i := range len(s) {
		if !ofName(s[i]) {
			return false
		}
	}
	return true
}

// ofName tells whether a name may have the byte c.
func ofName(c byte) bool {
	return 'a' <= c && c <= 'z' || '0' <= c && c <= '9' || c == '-' || c == '.'
}

// begins tells whether a name begins with one of the prefixes.
func begins(name string, prefixes []string) bool {
	return slices.ContainsFunc(prefixes, func(p string) bool { return strings.HasPrefix(name, p) })
}
