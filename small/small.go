// Package small enumerates small strings, with which the tests of other packages compare functions with their definitions.
package small

// Each calls f with all strings of at most n of the pieces.
func Each(pieces []string, n int, f func(s string)) {
	f("")
	if n == 0 {
		return
	}
	Each(pieces, n-1, func(s string) {
		for _, p := range pieces {
			f(s + p)
		}
	})
}
