package lexer_test

import (
	"math/big"
	"regexp"
	"slices"
	"strings"

	"marquetry/api"
	"marquetry/runes"
)

// oracle_test.go tells tokens by patterns and by the chapter's own lists: it shares nothing with the package.

const (
	listOfWords = "val type datatype structure signature functor open include struct end sig where sharing fn let in if then else case fold of to int bool unit true false mu"
	listOfSigns = "( ) { } , : :> = => -> * + - < | #1 #2"
	letter      = `[A-Za-z_\x{80}-\x{FFFC}\x{FFFE}-\x{10FFFF}]`
	more        = `(?:` + letter + `|[0-9'])`
)

var (
	words        = strings.Fields(listOfWords)
	signs        = strings.Fields(listOfSigns)
	stretch      = regexp.MustCompile(`^` + letter + more + `*(?:\.` + more + `*)*`)
	wholeName    = regexp.MustCompile(`^` + letter + more + `*(?:\.` + letter + more + `*)*$`)
	numeral      = regexp.MustCompile(`^~?[0-9]+`)
	someMore     = regexp.MustCompile(`^` + more)
	severalBlank = regexp.MustCompile(`^[ \t\n]+`)
)

// wanted is what Lex should answer.
type wanted struct {
	l  []api.Token
	at int
	e  api.Errno
}

func oracle(s string) wanted {
	if at, e := runes.Check(s); e != api.OK {
		return wanted{nil, at, e}
	}
	var l []api.Token
	for at := 0; at < len(s); {
		if n := len(severalBlank.FindString(s[at:])); n > 0 {
			at += n
			continue
		}
		if strings.HasPrefix(s[at:], "(*") {
			n, ended := commentAt(s[at:])
			if !ended {
				return wanted{nil, at, api.ErrLex}
			}
			at += n
			continue
		}
		t, n := tokenAt(s[at:])
		if n == 0 {
			return wanted{nil, at, api.ErrLex}
		}
		t.At = at
		l = append(l, t)
		at += n
	}
	return wanted{l, 0, api.OK}
}

// commentAt goes over a comment and, by itself, over those within.
func commentAt(s string) (int, bool) {
	n := 2
	for n < len(s) {
		switch {
		case strings.HasPrefix(s[n:], "(*"):
			inner, ended := commentAt(s[n:])
			if !ended {
				return 0, false
			}
			n += inner
		case strings.HasPrefix(s[n:], "*)"):
			return n + 2, true
		default:
			n++
		}
	}
	return 0, false
}

func tokenAt(s string) (api.Token, int) {
	if x := stretch.FindString(s); x != "" {
		if slices.Contains(words, x) {
			return api.Token{Kind: 3, Text: x}, len(x)
		}
		if rightName(x) {
			return api.Token{Kind: 1, Text: x}, len(x)
		}
		return api.Token{}, 0
	}
	if x := numeral.FindString(s); x != "" {
		if v := valueOf(x); !someMore.MatchString(s[len(x):]) && v.CmpAbs(big.NewInt(1073741824)) <= 0 {
			return api.Token{Kind: 2, Text: strings.Replace(v.String(), "-", "~", 1), N: int(v.Int64())}, len(x)
		}
		return api.Token{}, 0
	}
	longest := ""
	for _, x := range signs {
		if strings.HasPrefix(s, x) && len(x) > len(longest) {
			longest = x
		}
	}
	return api.Token{Kind: 3, Text: longest}, len(longest)
}

func rightName(s string) bool {
	right := wholeName.MatchString(s) && len(s) <= 128
	for _, x := range strings.Split(s, ".") {
		right = right && len(x) <= 32 && !slices.Contains(words, x)
	}
	return right
}

func valueOf(s string) *big.Int {
	v, _ := new(big.Int).SetString(strings.Replace(s, "~", "-", 1), 10)
	return v
}

// eachRow hands on each row of up to n pieces, one behind the other.
func eachRow(n int, pieces []string, f func(s string)) {
	var grow func(s string, left int)
	grow = func(s string, left int) {
		f(s)
		if left == 0 {
			return
		}
		for _, x := range pieces {
			grow(s+x, left-1)
		}
	}
	grow("", n)
}
