// Package label is layer 1, sets of secrets: see shared/doc/01-label.md.
package label

import (
	"math/bits"
	"strconv"

	"firebreak/api"
)

// secrets is how many there are: 0 to 63, one for each bit of a label.
const secrets = 64

// Flows tells whether a flows to b.
func Flows(a, b uint64) bool { return a&^b == 0 }

// Join is what is in one of both, Meet what is in both.
func Join(a, b uint64) uint64 { return a | b }

func Meet(a, b uint64) uint64 { return a & b }

// Count tells how many secrets are in it, Has whether one is.
func Count(a uint64) int { return bits.OnesCount64(a) }

func Has(a uint64, n int) bool { return n >= 0 && n < secrets && a&only(n) != 0 }

// Print tells it as text.
func Print(a uint64) string {
	text := []byte{'{'}
	for n := range secrets {
		if !Has(a, n) {
			continue
		}
		if len(text) > 1 {
			text = append(text, ',')
		}
		text = strconv.AppendInt(text, int64(n), 10)
	}
	return string(append(text, '}'))
}

// Parse reads such a text, or tells the error and how many bytes might yet have been a label's.
func Parse(text string) (uint64, api.Errno, int) {
	if common(text, "{}") == 2 {
		return closed(text, 0, 2)
	}
	if common(text, "{") == 0 {
		return broken(text, 0)
	}
	// Secrets rise, so each one that might stand at the place at is still ahead in the loop.
	a, at, far := uint64(0), 1, 1
read:
	for n := range secrets {
		word := strconv.Itoa(n)
		end := at + common(text[at:], word)
		// A secret that fits in part tells how far the text might yet be a label's.
		far = max(far, end)
		if end < at+len(word) || end == len(text) {
			continue read
		}
		switch text[end] {
		case '}':
			return closed(text, a|only(n), end+1)
		case ',':
			if n == secrets-1 {
				break read // no secret could follow
			}
			a, at, far = a|only(n), end+1, end+1
			continue read
		}
	}
	return broken(text, far)
}

// only is the label of one secret, which must be 0 to 63.
func only(n int) uint64 { return 1 << n }

// common tells how many bytes a and b have in common at their beginning.
func common(a, b string) int {
	n := 0
	for n < len(a) && n < len(b) && a[n] == b[n] {
		n++
	}
	return n
}

// closed answers for a text whose first end bytes are the text of a.
func closed(text string, a uint64, end int) (uint64, api.Errno, int) {
	if end < len(text) {
		return 0, api.ErrRest, end
	}
	return a, api.OK, 0
}

// broken answers for a text that begins as some label's for far bytes, but has none closed there.
func broken(text string, far int) (uint64, api.Errno, int) {
	if far == len(text) {
		return 0, api.ErrShort, far
	}
	return 0, api.ErrForm, far
}
