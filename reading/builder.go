package reading

import (
	"strings"

	"phalanx/api"
)

// builder makes clauses out of words.
type builder struct {
	vars, wanted int
	ended        [][]int
	open         []int
}

// takeAll takes the words of all lines that are left; with an error it tells the place of the word.
func (b *builder) takeAll(rows *lines) (api.Errno, int) {
	count := 0
	for line, ok := rows.next(); ok; line, ok = rows.next() {
		for word := range strings.FieldsFuncSeq(line, parts) {
			count++
			if e := b.take(word); e != api.OK {
				return e, count
			}
		}
	}
	if e := b.lacks(); e != api.OK {
		return e, count + 1
	}
	return api.OK, 0
}

func parts(r rune) bool { return r == ' ' || r == '\t' }

func (b *builder) take(word string) api.Errno {
	n, ok := number(word)
	switch {
	case !ok:
		return api.ErrWord
	case max(n, -n) > b.vars:
		return api.ErrLiteral
	case len(b.ended) == b.wanted:
		return api.ErrClauses
	case n == 0:
		b.end()
	case len(b.open) == api.MaxLength:
		return api.ErrLong
	default:
		b.open = append(b.open, n)
	}
	return api.OK
}

func (b *builder) end() {
	b.ended = append(b.ended, b.open)
	// Not b.open[:0]: the next clause must have room of its own.
	b.open = nil
}

// lacks tells what is still missing when there are no more words.
func (b *builder) lacks() api.Errno {
	if len(b.open) > 0 {
		return api.ErrWord
	}
	if len(b.ended) < b.wanted {
		return api.ErrClauses
	}
	return api.OK
}
