package phalanx

import (
	"reflect"
	"regexp"
	"strconv"
	"strings"
	"testing"

	"phalanx/api"
)

var (
	headForm   = regexp.MustCompile(`^p cnf ([0-9]{1,6}) ([0-9]{1,6})$`)
	numberForm = regexp.MustCompile(`^-?[0-9]{1,6}$`)
)

// plainParse is P3 once more, written as the document tells it and not as the program does it.
func plainParse(text string) (api.Formula, api.Errno, int) {
	all := strings.Split(text, "\n")
	if all[len(all)-1] == "" {
		all = all[:len(all)-1]
	}
	at := 0
	for at < len(all) && strings.HasPrefix(all[at], "c") {
		at++
	}
	if at == len(all) {
		return api.Formula{}, api.ErrHead, at + 1
	}
	match := headForm.FindStringSubmatch(all[at])
	if match == nil {
		return api.Formula{}, api.ErrHead, at + 1
	}
	vars, _ := strconv.Atoi(match[1])
	wanted, _ := strconv.Atoi(match[2])
	if vars > 20 {
		return api.Formula{}, api.ErrVars, at + 1
	}
	if wanted > 200 {
		return api.Formula{}, api.ErrClauses, at + 1
	}
	said := ""
	for _, line := range all[at+1:] {
		if !strings.HasPrefix(line, "c") {
			said += line + " "
		}
	}
	var words []string
	for _, word := range strings.Split(strings.ReplaceAll(said, "\t", " "), " ") {
		if word != "" {
			words = append(words, word)
		}
	}
	return plainClauses(vars, wanted, words)
}

func plainClauses(vars, wanted int, words []string) (api.Formula, api.Errno, int) {
	f := api.Formula{Vars: vars}
	var clause []int
	for i, word := range words {
		n, _ := strconv.Atoi(word)
		e := api.OK
		if !numberForm.MatchString(word) {
			e = api.ErrWord
		} else if n > vars || -n > vars {
			e = api.ErrLiteral
		} else if len(f.Clauses) >= wanted {
			e = api.ErrClauses
		} else if n != 0 && len(clause) >= 20 {
			e = api.ErrLong
		}
		if e != api.OK {
			return api.Formula{}, e, i + 1
		}
		if n != 0 {
			clause = append(clause, n)
		} else {
			f.Clauses = append(f.Clauses, clause)
			clause = nil
		}
	}
	if clause != nil {
		return api.Formula{}, api.ErrWord, len(words) + 1
	}
	if len(f.Clauses) < wanted {
		return api.Formula{}, api.ErrClauses, len(words) + 1
	}
	return f, api.OK, 0
}

func TestP3Examples(t *testing.T) {
	f, e, at := Parse("c one\np cnf 2 2\n1 -2 0 2\n0\n")
	if want := (api.Formula{Vars: 2, Clauses: [][]int{{1, -2}, {2}}}); !reflect.DeepEqual(f, want) || e != api.OK || at != 0 {
		t.Errorf("P3: example 1: %v, %d, %d", f, e, at)
	}
	for _, c := range []struct {
		text string
		e    api.Errno
		at   int
	}{{"p cnf 2 1\n1 3 0", api.ErrLiteral, 2}, {"", api.ErrHead, 1}, {"p  cnf 1 0", api.ErrHead, 1}} {
		if f, e, at := Parse(c.text); e != c.e || at != c.at || f.Vars != 0 || len(f.Clauses) != 0 {
			t.Errorf("P3: Parse(%q) = %v, %d, %d, want %d, %d", c.text, f, e, at, c.e, c.at)
		}
	}
}

func TestP3Edges(t *testing.T) {
	full := strings.Repeat("-20 ", 20)
	for _, c := range []struct {
		text string
		e    api.Errno
		at   int
	}{
		{"p cnf 20 200\n" + strings.Repeat(full+"0\n", 200), api.OK, 0},
		{"p cnf 20 200\n" + strings.Repeat(full+"0\n", 199), api.ErrClauses, 199*21 + 1},
		{"p cnf 20 200\n" + strings.Repeat("0 ", 201), api.ErrClauses, 201},
		{"p cnf 000020 000200\n" + strings.Repeat("0 ", 200), api.OK, 0},
		{"p cnf 0000020 0\n", api.ErrHead, 1},
		{"p cnf 21 201\n", api.ErrVars, 1},
		{"c\np cnf 20 201\n" + strings.Repeat("0 ", 201), api.ErrClauses, 2},
		{"p cnf 1: 0", api.ErrHead, 1},
		{"p cnf 1 /0", api.ErrHead, 1},
		{"p cnf 1 0 0", api.ErrHead, 1},
		{"p cnf 1 0  ", api.ErrHead, 1},
		{"p cnf 21 x", api.ErrHead, 1},
		{"c\n\np cnf 1 0\n", api.ErrHead, 2},
		{"c\n c\np cnf 1 0\n", api.ErrHead, 2},
		{"p cnf 1 0\x00", api.ErrHead, 1},
		{"p cnf 1 ٣", api.ErrHead, 1},
		{"p cnf 1 1\n c 0\n", api.ErrWord, 1},
		{"p cnf 1 1\n1\u00a00\n", api.ErrWord, 1},
		{"p cnf 1 1\n1\v0\n", api.ErrWord, 1},
		{"p cnf 1 1\n1\r\n0\n", api.ErrWord, 1},
		{"p cnf 1 1\n1c 0\n", api.ErrWord, 1},
		{"p cnf 1 1\n1 0\nc", api.OK, 0},
		{"p cnf 1 1\n\n\n\t \n1\n\n0", api.OK, 0},
		{"p cnf 1 1\n999999 0", api.ErrLiteral, 1},
		{"p cnf 1 1\n-999999 0", api.ErrLiteral, 1},
		{"p cnf 1 1\n1000000 0", api.ErrWord, 1},
		{"p cnf 1 1\n-1000000 0", api.ErrWord, 1},
		{"p cnf 1 1\n1-1 0", api.ErrWord, 1},
		{"p cnf 20 1\n1: 0", api.ErrWord, 1},
		{"p cnf 20 1\n/1 0", api.ErrWord, 1},
		{"p cnf 20 1\n" + full + "0", api.OK, 0},
		{"p cnf 20 1\n" + full + "1 0", api.ErrLong, 21},
		{"p cnf 20 1\n" + full, api.ErrWord, 21},
		{"p cnf 20 1\n" + full + "21", api.ErrLiteral, 21},
		{"p cnf 20 1\n" + full + "x", api.ErrWord, 21},
		{"p cnf 20 1\n0 x", api.ErrWord, 2},
		{"p cnf 20 1\n0 21", api.ErrLiteral, 2},
		{"p cnf 20 1\n0 20", api.ErrClauses, 2},
		{"p cnf 20 1\n0 0", api.ErrClauses, 2},
		{"p cnf 0 1\n-000000", api.OK, 0},
		{"p cnf 0 1\n1 0", api.ErrLiteral, 1},
	} {
		f, e, at := Parse(c.text)
		if e != c.e || at != c.at || e != api.OK && (f.Vars != 0 || len(f.Clauses) != 0) {
			t.Errorf("P3: Parse(%.40q) = %v, %d, %d, want %d, %d", c.text, f, e, at, c.e, c.at)
		}
	}
}

// everyText hands on the texts of up to so many pieces.
func everyText(begin string, pieces []string, most int, hand func(string)) {
	hand(begin)
	if most == 0 {
		return
	}
	for _, piece := range pieces {
		everyText(begin+piece, pieces, most-1, hand)
	}
}

func compareParse(t *testing.T, text string) {
	f, e, at := Parse(text)
	wantF, wantE, wantAt := plainParse(text)
	if e != wantE || at != wantAt || !sameFormula(f, wantF) {
		t.Fatalf("P3: Parse(%q) = %v, %d, %d, want %v, %d, %d", text, f, e, at, wantF, wantE, wantAt)
	}
}

func sameFormula(f, g api.Formula) bool {
	if f.Vars != g.Vars || len(f.Clauses) != len(g.Clauses) {
		return false
	}
	return sameLists(f.Clauses, g.Clauses)
}

func TestP3EveryShortText(t *testing.T) {
	hand := func(text string) { compareParse(t, text) }
	everyText("", []string{"p ", "cnf ", "1", " ", "21", "\n", "c", "-0"}, 6, hand)
	for _, head := range []string{"p cnf 1 0\n", "p cnf 1 1\n", "c\np cnf 2 2\n"} {
		everyText(head, []string{"0", "1", "2", "-", " ", "\t", "\n", "c", "\r"}, 5, hand)
	}
}

func FuzzParse(f *testing.F) {
	f.Add("c one\np cnf 2 2\n1 -2 0 2\n0\n")
	f.Add("p cnf 20 200\n\xff\t-000 c\nc\n")
	f.Fuzz(compareParse)
}
