// Package reading: formulas out of texts.
package reading

import (
	"strings"

	"phalanx/api"
)

// Formula reads a text; with an error the place is that of the head's line, or of a word.
func Formula(text string) (api.Formula, api.Errno, int) {
	rows := lines{rest: text}
	line, ok := rows.next()
	if !ok {
		return api.Formula{}, api.ErrHead, rows.count + 1
	}
	vars, clauses, e := head(line)
	if e != api.OK {
		return api.Formula{}, e, rows.count
	}
	made := builder{vars: vars, wanted: clauses}
	if e, at := made.takeAll(&rows); e != api.OK {
		return api.Formula{}, e, at
	}
	return api.Formula{Vars: vars, Clauses: made.ended}, api.OK, 0
}

// lines goes through a text line by line; count is how many lines it has gone through.
type lines struct {
	rest  string
	count int
}

// next tells the next line that says something; false, if there is none.
func (l *lines) next() (string, bool) {
	for l.rest != "" {
		var line string
		line, l.rest, _ = strings.Cut(l.rest, "\n")
		l.count++
		if !strings.HasPrefix(line, "c") {
			return line, true
		}
	}
	return "", false
}

// head reads the head's line: how many variables and clauses there are.
func head(line string) (vars, clauses int, e api.Errno) {
	// What is too much stays in the last part, which is not figures alone then.
	parts := strings.SplitN(line, " ", 4)
	if len(parts) != 4 || parts[0] != "p" || parts[1] != "cnf" {
		return 0, 0, api.ErrHead
	}
	vars, varsOK := figures(parts[2])
	clauses, clausesOK := figures(parts[3])
	switch {
	case !varsOK || !clausesOK:
		return 0, 0, api.ErrHead
	case vars > api.MaxVars:
		return 0, 0, api.ErrVars
	case clauses > api.MaxClauses:
		return 0, 0, api.ErrClauses
	}
	return vars, clauses, api.OK
}
