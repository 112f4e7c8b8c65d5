package run

import (
	"moidore/api"
	"moidore/sum"
)

func blobs() table {
	return table{
		api.OpCat:       two(cat),
		api.OpCut:       three(cut),
		api.OpLong:      one(func(a string) int64 { return int64(len(a)) }),
		api.OpSum:       one(hash),
		api.OpBytesLess: two(func(a, b string) bool { return a < b }),
		api.OpBytesSame: two(func(a, b string) bool { return a == b }),
	}
}

func cat(a, b string) string {
	must(len(a)+len(b) <= api.MaxBlob)
	return a + b
}

// cut is many bytes of a, from a place on.
func cut(a string, from, many int64) string {
	// Both may be too great to be added.
	must(from >= 0, many >= 0, many <= int64(len(a))-from)
	return a[from : from+many]
}

func hash(a string) string {
	h := sum.Of([]byte(a))
	return string(h[:])
}
