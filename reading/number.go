package reading

import "strings"

const maxFigures = 6

// number reads a word as a number; false, if it is none.
func number(word string) (int, bool) {
	digits, minus := strings.CutPrefix(word, "-")
	n, ok := figures(digits)
	if minus {
		n = -n
	}
	return n, ok
}

// figures reads a word that is made of figures alone; false, if it is not.
func figures(word string) (int, bool) {
	if word == "" || len(word) > maxFigures {
		return 0, false
	}
	n := 0
	for i := range len(word) {
		if word[i] < '0' || word[i] > '9' {
			return 0, false
		}
		n = 10*n + int(word[i]-'0')
	}
	return n, true
}
