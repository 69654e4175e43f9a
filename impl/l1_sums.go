// Package impl: trees of files.
package impl

import "strings"

// Limits of sums.
const (
	MaxWidth = 8
	MaxTexts = 3000
)

// What the sum of 64 bits begins as, and what it is multiplied by.
const (
	sumStart  uint64 = 14695981039346656037
	sumFactor uint64 = 1099511628211
)

// sumKey is an array, so that it can be the key of a map; a sum of less than
// MaxWidth bytes lies at its end, and 0 in front of it.
type sumKey [MaxWidth]byte

// Sum is the sum of a text.
func Sum(text string, width int) string {
	if !isWidth(width) {
		return ""
	}
	key := keyOf(text, width)
	return string(key[MaxWidth-width:])
}

// Clash looks for two different texts with one sum.
func Clash(texts []string, width int) (string, string, bool) {
	if !isWidth(width) || len(texts) > MaxTexts {
		return "", "", false
	}
	// The first text of each sum is enough: up to the least j all other texts
	// with its sum are equal to it, else there were a lesser j.
	first := map[sumKey]int{}
	for j, text := range texts {
		key := keyOf(text, width)
		i, seen := first[key]
		if !seen {
			first[key] = j
		} else if texts[i] != text {
			return strings.Clone(texts[i]), strings.Clone(text), true
		}
	}
	return "", "", false
}

func isWidth(width int) bool {
	return 1 <= width && width <= MaxWidth
}

func keyOf(text string, width int) sumKey {
	sum := wholeSum(text)
	var key sumKey
	for i := range width {
		key[MaxWidth-1-i] = byte(sum >> (8 * i))
	}
	return key
}

func wholeSum(text string) uint64 {
	sum := sumStart
	for i := range len(text) {
		sum = (sum ^ uint64(text[i])) * sumFactor
	}
	return sum
}
