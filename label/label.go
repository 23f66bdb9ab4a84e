// Package label is layer 1: see shared/doc/01-label.md.
package label

import (
	"strings"

	"scutage/api"
)

// slash stands between the parts of a key's text; no label has one, so that a text falls into its parts in one way only.
const slash = "/"

// Right tells whether it is a label.
func Right(s string) bool {
	if s == "" || len(s) > api.MaxName {
		return false
	}
	if s[0] == '-' || s[len(s)-1] == '-' {
		return false
	}
	for _, r := range s {
		if !allowed(r) {
			return false
		}
	}
	return true
}

// allowed tells whether a label may have it. What is no rune comes as U+FFFD, and so is none of these.
func allowed(r rune) bool {
	return 'a' <= r && r <= 'z' || '0' <= r && r <= '9' || r == '-'
}

// Key tells whether a key may be.
func Key(k api.Key) bool {
	return Right(k.Space) && Right(k.Kind) && Right(k.Name)
}

// Text is a key's; "", if it may not be.
func Text(k api.Key) string {
	if !Key(k) {
		return ""
	}
	return joined(k)
}

// joined is the text that a key has, or would have, if it may not be.
func joined(k api.Key) string {
	return k.Space + slash + k.Kind + slash + k.Name
}

// Parse is the key whose text it is; ErrForm, if it is none's.
func Parse(s string) (api.Key, api.Errno) {
	space, rest, _ := strings.Cut(s, slash)
	kind, name, _ := strings.Cut(rest, slash)
	k := api.Key{Kind: kind, Space: space, Name: name}
	// A slash too few leaves an empty part, one too many a part with a slash: neither is a label.
	if !Key(k) {
		return api.Key{}, api.ErrForm
	}
	return k, api.OK
}

// Less tells whether the first one's text is ahead. Part by part would be another order: `-` is ahead of `/`, and `/` of the rest.
func Less(a, b api.Key) bool {
	return joined(a) < joined(b)
}
