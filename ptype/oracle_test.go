package ptype_test

import (
	"regexp"
	"slices"
	"strconv"
	"strings"

	"marquetry/api"
)

// oracle_test.go follows the chapter's grammar as a table, rows of symbols being what may still come; it cuts rows into trees at the signs that lie outside, and writes trees by trying all signs. It shares nothing with the package.

// grammar tells what each rule may be: TYPE is product, or product -> type, and so on; what two choices begin with is written once.
func grammar() map[string][]string {
	return map[string][]string{
		"TYPE":    {"PRODUCT ARROW"},
		"ARROW":   {"", "-> TYPE"},
		"PRODUCT": {"ATOM STAR"},
		"STAR":    {"", "* PRODUCT"},
		"ATOM":    {"int", "bool", "unit", "LONG", "( TYPE )", "mu NAME { CONS }"},
		"CONS":    {"NAME of TYPE BAR"},
		"BAR":     {"", "| CONS"},
	}
}

// behind tells what may still come behind a token, where the row of symbols might come; none, if the token can't be there.
func behind(rules map[string][]string, symbols string, t api.Token) []string {
	if symbols == "" {
		return nil
	}
	first, rest, _ := strings.Cut(symbols, " ")
	if choices, isRule := rules[first]; isRule {
		var l []string
		for _, choice := range choices {
			l = append(l, behind(rules, strings.TrimSpace(choice+" "+rest), t)...)
		}
		return l
	}
	if !bears(t, first) {
		return nil
	}
	return []string{rest}
}

func bears(t api.Token, symbol string) bool {
	switch symbol {
	case "NAME":
		return t.Kind == 1 && namesIn(t.Text) == 1
	case "LONG":
		return t.Kind == 1 && namesIn(t.Text) > 0
	}
	return t.Kind == 3 && t.Text == symbol
}

var (
	words     = strings.Fields(keys)[17:]
	nameSigns = regexp.MustCompile(`^[A-Za-z_\x{80}-\x{FFFC}\x{FFFE}-\x{10FFFF}][A-Za-z_\x{80}-\x{FFFC}\x{FFFE}-\x{10FFFF}0-9']*$`)
)

// namesIn tells how many names a TkName of that text has; none, if no TkName has it.
func namesIn(s string) int {
	l := strings.Split(s, ".")
	for _, x := range l {
		if len(s) > 128 || len(x) > 32 || !nameSigns.MatchString(x) || slices.Contains(words, x) {
			return 0
		}
	}
	return len(l)
}

// mayEnd tells whether nothing has to come any more.
func mayEnd(rules map[string][]string, symbols string) bool {
	for _, x := range strings.Fields(symbols) {
		if !slices.Contains(rules[x], "") {
			return false
		}
	}
	return true
}

// answer is what a call tells of tokens: the trees as texts.
type answer struct {
	trees []string
	next  int
	e     api.Errno
}

// oracle tells what TYPE or CONS begins with a token.
func oracle(rule string, l []api.Token, i int) answer {
	if i < 0 || i > len(l) {
		return answer{nil, 0, api.ErrArg}
	}
	rules := grammar()
	symbols, at := rule, i
	open := [][]string{{}}
	for ; at < len(l); at++ {
		more := behind(rules, symbols, l[at])
		if len(more) == 0 {
			break
		}
		if len(more) > 1 {
			panic("the grammar leaves a choice")
		}
		if strings.HasPrefix(symbols, "CONS") { // a constructor's name is next
			ahead := &open[len(open)-1]
			if slices.Contains(*ahead, l[at].Text) {
				return answer{nil, at, api.ErrTwice}
			}
			*ahead = append(*ahead, l[at].Text)
		}
		if l[at].Kind == 3 && l[at].Text == "{" {
			open = append(open, nil)
		}
		if l[at].Kind == 3 && l[at].Text == "}" {
			open = open[:len(open)-1]
		}
		symbols = more[0]
	}
	if !mayEnd(rules, symbols) {
		return answer{nil, at, api.ErrParse}
	}
	if rule == "CONS" {
		return answer{consTexts(l[i:at]), at, api.OK}
	}
	return answer{[]string{typeText(l[i:at])}, at, api.OK}
}

// outside tells the first place of a sign that lies in no other signs, or -1.
func outside(l []api.Token, sign string) int {
	deep := 0
	for i, t := range l {
		if t.Kind != 3 {
			continue
		}
		switch t.Text {
		case "(", "{":
			deep++
		case ")", "}":
			deep--
		case sign:
			if deep == 0 {
				return i
			}
		}
	}
	return -1
}

// typeText writes the tree of tokens that are a type.
func typeText(l []api.Token) string {
	if i := outside(l, "->"); i >= 0 {
		return nodeText(api.TArrow, "", typeText(l[:i]), typeText(l[i+1:]))
	}
	if i := outside(l, "*"); i >= 0 {
		return nodeText(api.TPair, "", typeText(l[:i]), typeText(l[i+1:]))
	}
	last := len(l) - 1
	if l[0].Kind == 1 {
		return nodeText(api.TName, l[0].Text)
	}
	switch l[0].Text {
	case "(":
		return typeText(l[1:last])
	case "mu":
		return nodeText(api.TMu, l[1].Text, consTexts(l[3:last])...)
	}
	return nodeText(map[string]int{"int": 1, "bool": 2, "unit": 3}[l[0].Text], "")
}

// consTexts writes the trees of tokens that are constructors.
func consTexts(l []api.Token) []string {
	var texts []string
	for i := 0; i >= 0; l = l[i+1:] {
		i = outside(l, "|")
		con := l
		if i >= 0 {
			con = l[:i]
		}
		texts = append(texts, nodeText(api.TCon, con[0].Text, typeText(con[2:])))
		if i < 0 {
			break
		}
	}
	return texts
}

// nodeText writes a node of a type: its kind and name, and its kids, which are written.
func nodeText(kind int, name string, kids ...string) string {
	return strconv.Itoa(kind) + strconv.Quote(name) + "[" + strings.Join(kids, ",") + "]"
}

// text writes a tree, with all that a type has no use for.
func text(n *api.Node) string {
	if n == nil {
		return "nil"
	}
	s := nodeText(n.Kind, n.Name, texts(n.Kids)...)
	if n.N != 0 || n.Mark != "" {
		s += strconv.Itoa(n.N) + strconv.Quote(n.Mark)
	}
	return s
}

func texts(l []*api.Node) []string {
	var s []string
	for _, n := range l {
		s = append(s, text(n))
	}
	return s
}

// writings tells all ways to write a type with signs around some of its parts, or itself.
func writings(n *api.Node) []string {
	var ways []string
	switch n.Kind {
	case api.TInt, api.TBool, api.TUnit:
		ways = []string{[]string{"int", "bool", "unit"}[n.Kind-1]}
	case api.TName:
		ways = []string{n.Name}
	case api.TArrow:
		ways = joined(writings(n.Kids[0]), []string{" -> "}, writings(n.Kids[1]))
	case api.TPair:
		ways = joined(writings(n.Kids[0]), []string{" * "}, writings(n.Kids[1]))
	case api.TMu:
		ways = []string{"mu " + n.Name + " { "}
		for i, con := range n.Kids {
			head := con.Name + " of "
			if i > 0 {
				head = " | " + head
			}
			ways = joined(ways, []string{head}, writings(con.Kids[0]))
		}
		ways = joined(ways, []string{" }"})
	}
	return append(ways, joined([]string{"( "}, ways, []string{" )"})...)
}

// joined tells all rows of one text of each list.
func joined(lists ...[]string) []string {
	rows := []string{""}
	for _, l := range lists {
		var longer []string
		for _, row := range rows {
			for _, x := range l {
				longer = append(longer, row+x)
			}
		}
		rows = longer
	}
	return rows
}

// shortest tells of all ways to write a type the shortest one that is this type by the grammar, and how many are as short.
func shortest(n *api.Node) (best string, many int) {
	ways := writings(n)
	slices.SortFunc(ways, func(a, b string) int { return len(a) - len(b) })
	for _, s := range ways {
		if many > 0 && len(s) > len(best) {
			break
		}
		if l := tokensOf(s); oracle("TYPE", l, 0).same(answer{[]string{text(n)}, len(l), api.OK}) {
			best = s
			many++
		}
	}
	return best, many
}

// tokensOf cuts a text at its blanks: the signs and words that types have are keys, numbers are numbers, all else are names.
func tokensOf(s string) []api.Token {
	var l []api.Token
	for i, x := range strings.Fields(s) {
		t := api.Token{Kind: api.TkName, Text: x, At: 7 * i}
		if slices.Contains(strings.Fields(keys), x) {
			t.Kind = api.TkKey
		}
		if n, err := strconv.Atoi(x); err == nil {
			t.Kind, t.N = api.TkInt, n
		}
		l = append(l, t)
	}
	return l
}

const keys = "( ) { } , : :> = => -> * + - < | #1 #2 val type datatype structure signature functor open include struct end sig where sharing fn let in if then else case fold of to int bool unit true false mu"
