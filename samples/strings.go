package samples

import "strings"

// Strings returns all strings of n bytes, each of them one of some different bytes, in the order of these.
func Strings(bytes string, n int) []string {
	list := []string{""}
	for range n {
		var longer []string
		for _, w := range list {
			for i := range len(bytes) {
				longer = append(longer, w+bytes[i:i+1])
			}
		}
		list = longer
	}
	return list
}

// StringsUpTo returns all strings of at most n bytes, each of them one of some different bytes, the shorter ones first.
func StringsUpTo(bytes string, n int) []string {
	var list []string
	for length := range n + 1 {
		list = append(list, Strings(bytes, length)...)
	}
	return list
}

// String returns a string of n bytes, each of them one of some bytes.
func String(r Source, bytes string, n int) string {
	var w strings.Builder
	for range n {
		w.WriteByte(bytes[r.Intn(len(bytes))])
	}
	return w.String()
}
