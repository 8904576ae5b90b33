package index

import (
	"slices"

	"cadastre/api"
)

// between tells a short key above a, and not above b, which is to be above a.
func between(a, b []api.Value) []api.Value {
	i := 0
	for i < len(a) && i < len(b) && a[i] == b[i] {
		i++
	}
	switch i {
	case len(b):
		return b
	case len(a):
		// Null is the least value.
		return slices.Concat(a, []api.Value{{}})
	}
	v := b[i]
	if v.Kind == a[i].Kind {
		v.Str = v.Str[:unlike(a[i].Str, v.Str)]
	} else {
		// An empty text is the least of the texts, an empty blob of the blobs.
		v.Str = ""
	}
	return slices.Concat(b[:i], []api.Value{v})
}

// unlike tells how many bytes of b it takes to tell it from a.
func unlike(a, b string) int {
	n := 0
	for n < len(a) && n < len(b) && a[n] == b[n] {
		n++
	}
	return min(n+1, len(b))
}
