package pexpr_test

import (
	"regexp"
	"slices"
	"strconv"
	"strings"

	"marquetry/api"
	"marquetry/ptype"
)

// oracle_test.go follows the chapter's grammar as a table, makes trees by cutting rows at the signs that bind loosest, and tries all ways to put signs: it shares nothing with the package.

// grammar tells what each rule may be; what two choices begin with is written once.
func grammar() map[string][]string {
	return map[string][]string{
		"EXPR":     {"fn ( NAME : TYPE ) => EXPR", "let NAME = EXPR in EXPR end", "if EXPR then EXPR else EXPR", "case EXPR of ARMS end", "fold EXPR to TYPE of ARMS end", "SUM COMPARED"},
		"ARMS":     {"NAME NAME => EXPR MOREARMS"},
		"MOREARMS": {"", "| ARMS"},
		"COMPARED": {"", "= SUM", "< SUM"},
		"SUM":      {"TERM SUMMED"},
		"SUMMED":   {"", "+ TERM SUMMED", "- TERM SUMMED"},
		"TERM":     {"APP TIMES"},
		"TIMES":    {"", "* APP TIMES"},
		"APP":      {"ATOM APPLIED"},
		"APPLIED":  {"", "ATOM APPLIED"},
		"ATOM":     {"NUMBER", "true", "false", "( CLOSED", "#1 ATOM", "#2 ATOM", "LONG"},
		"CLOSED":   {")", "EXPR PAIRED"},
		"PAIRED":   {")", ", EXPR )"},
		"TYPE":     {"PRODUCT ARROW"},
		"ARROW":    {"", "-> TYPE"},
		"PRODUCT":  {"TATOM STAR"},
		"STAR":     {"", "* PRODUCT"},
		"TATOM":    {"int", "bool", "unit", "LONG", "( TYPE )", "mu NAME { CONS }"},
		"CONS":     {"NAME of TYPE BAR"},
		"BAR":      {"", "| CONS"},
	}
}

// behind tells what may still come behind a token, where the row of symbols might come; none, if the token can't be there.
func behind(table map[string][]string, symbols string, t api.Token) []string {
	if symbols == "" {
		return nil
	}
	first, rest, _ := strings.Cut(symbols, " ")
	if choices, isRule := table[first]; isRule {
		var l []string
		for _, choice := range choices {
			l = append(l, behind(table, strings.TrimSpace(choice+" "+rest), t)...)
		}
		return l
	}
	if !bears(t, first) {
		return nil
	}
	return []string{rest}
}

func bears(t api.Token, symbol string) bool {
	switch symbol {
	case "NAME":
		return t.Kind == 1 && namesIn(t.Text) == 1
	case "LONG":
		return t.Kind == 1 && namesIn(t.Text) > 0
	case "NUMBER":
		return t.Kind == 2 && -1073741824 <= t.N && t.N <= 1073741824
	}
	return t.Kind == 3 && t.Text == symbol
}

var (
	words     = strings.Fields(keys)[17:]
	nameSigns = regexp.MustCompile(`^[A-Za-z_\x{80}-\x{FFFC}\x{FFFE}-\x{10FFFF}][A-Za-z_\x{80}-\x{FFFC}\x{FFFE}-\x{10FFFF}0-9']*$`)
)

// namesIn tells how many names a TkName of that text has; none, if no TkName has it.
func namesIn(s string) int {
	l := strings.Split(s, ".")
	for _, x := range l {
		if len(s) > 128 || len(x) > 32 || !nameSigns.MatchString(x) || slices.Contains(words, x) {
			return 0
		}
	}
	return len(l)
}

// mayEnd tells whether nothing has to come any more.
func mayEnd(table map[string][]string, symbols string) bool {
	for _, x := range strings.Fields(symbols) {
		if !slices.Contains(table[x], "") {
			return false
		}
	}
	return true
}

// answer is what a call tells of tokens: the tree as text.
type answer struct {
	tree string
	next int
	e    api.Errno
}

// oracle tells what expression begins with a token.
func oracle(l []api.Token, i int) answer {
	if i < 0 || i > len(l) {
		return answer{"nil", 0, api.ErrArg}
	}
	table := grammar()
	symbols, at := "EXPR", i
	open := [][]string{{}}
	for ; at < len(l); at++ {
		more := behind(table, symbols, l[at])
		if len(more) == 0 {
			break
		}
		if len(more) > 1 {
			panic("the grammar leaves a choice")
		}
		if strings.HasPrefix(symbols, "CONS") { // a constructor's name is next
			ahead := &open[len(open)-1]
			if slices.Contains(*ahead, l[at].Text) {
				return answer{"nil", at, api.ErrTwice}
			}
			*ahead = append(*ahead, l[at].Text)
		}
		if isKey(l[at], "{") {
			open = append(open, nil)
		}
		if isKey(l[at], "}") {
			open = open[:len(open)-1]
		}
		symbols = more[0]
	}
	if !mayEnd(table, symbols) {
		return answer{"nil", at, api.ErrParse}
	}
	return answer{exprText(l[i:at]), at, api.OK}
}

func isKey(t api.Token, texts ...string) bool {
	return t.Kind == 3 && slices.Contains(texts, t.Text)
}

// outside tells the places of signs that lie in nothing that begins and ends: an if ends with its else.
func outside(l []api.Token, signs ...string) []int {
	var places []int
	deep := 0
	for i, t := range l {
		if deep == 0 && isKey(t, signs...) {
			places = append(places, i)
			continue
		}
		if isKey(t, "(", "{", "let", "case", "fold", "if") {
			deep++
		}
		if isKey(t, ")", "}", "end", "else") {
			deep--
		}
	}
	return places
}

// cut parts a row at the first of signs that lies in nothing.
func cut(l []api.Token, signs ...string) (ahead, past []api.Token) {
	i := outside(l, signs...)[0]
	return l[:i], l[i+1:]
}

// exprText writes the tree of tokens that are an expression.
func exprText(l []api.Token) string {
	last := len(l) - 1
	switch {
	case isKey(l[0], "fn"):
		head, body := cut(l, "=>")
		return nodeText(api.ELam, 0, head[2].Text, "", typeText(head[4:len(head)-1]), exprText(body))
	case isKey(l[0], "let"):
		bound, body := cut(l[3:last], "in")
		return nodeText(api.ELet, 0, l[1].Text, "", exprText(bound), exprText(body))
	case isKey(l[0], "if"):
		asked, rest := cut(l[1:], "then")
		then, other := cut(rest, "else")
		return nodeText(api.EIf, 0, "", "", exprText(asked), exprText(then), exprText(other))
	case isKey(l[0], "case"):
		asked, arms := cut(l[1:last], "of")
		return nodeText(api.ECase, 0, "", "", append([]string{exprText(asked)}, armTexts(arms)...)...)
	case isKey(l[0], "fold"):
		asked, rest := cut(l[1:last], "to")
		made, arms := cut(rest, "of")
		return nodeText(api.EFold, 0, "", "", append([]string{exprText(asked), typeText(made)}, armTexts(arms)...)...)
	}
	return operationText(l)
}

func armTexts(l []api.Token) []string {
	var texts []string
	for len(l) > 0 {
		arm := l
		if bars := outside(l, "|"); len(bars) > 0 {
			arm, l = l[:bars[0]], l[bars[0]+1:]
		} else {
			l = nil
		}
		texts = append(texts, nodeText(api.EArm, 0, arm[0].Text, arm[1].Text, exprText(arm[3:])))
	}
	return texts
}

func operationText(l []api.Token) string {
	kinds := map[string]int{"+": 1, "-": 2, "*": 3, "=": 4, "<": 5}
	split := func(i int) string {
		return nodeText(api.EOp, kinds[l[i].Text], "", "", exprText(l[:i]), exprText(l[i+1:]))
	}
	if places := outside(l, "=", "<"); len(places) > 0 {
		return split(places[0])
	}
	if places := outside(l, "+", "-"); len(places) > 0 {
		return split(places[len(places)-1])
	}
	if places := outside(l, "*"); len(places) > 0 {
		return split(places[len(places)-1])
	}
	last := 0
	for i := 0; i < len(l); i = atomEnd(l, i) {
		last = i
	}
	if last > 0 {
		return nodeText(api.EApp, 0, "", "", exprText(l[:last]), exprText(l[last:]))
	}
	return atomText(l)
}

// atomEnd tells the place behind the atom that begins at another one.
func atomEnd(l []api.Token, i int) int {
	for isKey(l[i], "#1", "#2") {
		i++
	}
	if isKey(l[i], "(") {
		return i + 1 + outside(l[i+1:], ")")[0] + 1
	}
	return i + 1
}

func atomText(l []api.Token) string {
	last := len(l) - 1
	switch {
	case l[0].Kind == 1:
		return nodeText(api.EVar, 0, l[0].Text, "")
	case l[0].Kind == 2:
		return nodeText(api.EInt, l[0].N, "", "")
	case isKey(l[0], "true"):
		return nodeText(api.EBool, 1, "", "")
	case isKey(l[0], "false"):
		return nodeText(api.EBool, 0, "", "")
	case isKey(l[0], "#1"):
		return nodeText(api.EFst, 0, "", "", exprText(l[1:]))
	case isKey(l[0], "#2"):
		return nodeText(api.ESnd, 0, "", "", exprText(l[1:]))
	case last == 1:
		return nodeText(api.EUnit, 0, "", "")
	}
	inner := l[1:last]
	if len(outside(inner, ",")) == 0 {
		return exprText(inner)
	}
	left, right := cut(inner, ",")
	return nodeText(api.EPair, 0, "", "", exprText(left), exprText(right))
}

// typeText writes the tree of tokens that are a type: of types layer 6 tells.
func typeText(l []api.Token) string {
	n, next, e := ptype.Type(l, 0)
	if e != api.OK || next != len(l) {
		panic("no type")
	}
	return text(n)
}

// nodeText writes a node: its kind, number and texts, and its kids, which are written.
func nodeText(kind, number int, name, mark string, kids ...string) string {
	return strconv.Itoa(kind) + "#" + strconv.Itoa(number) + strconv.Quote(name) + strconv.Quote(mark) + "[" + strings.Join(kids, ",") + "]"
}

func text(n *api.Node) string {
	if n == nil {
		return "nil"
	}
	var kids []string
	for _, kid := range n.Kids {
		kids = append(kids, text(kid))
	}
	return nodeText(n.Kind, n.N, n.Name, n.Mark, kids...)
}

// writings tells all ways to write an expression with signs around some of its parts, or itself.
func writings(n *api.Node) []string {
	ways := parts(n)
	return append(ways, joined("( ", ways, " )")...)
}

// parts tells the ways to write an expression with no signs around itself.
func parts(n *api.Node) []string {
	kid := func(i int) []string { return writings(n.Kids[i]) }
	switch n.Kind {
	case api.EInt:
		return []string{strings.Replace(strconv.Itoa(n.N), "-", "~", 1)}
	case api.EBool:
		return []string{[]string{"false", "true"}[n.N]}
	case api.EUnit:
		return []string{"( )"}
	case api.EVar:
		return []string{n.Name}
	case api.ELam:
		return joined("fn ( "+n.Name+" : ", typed(n.Kids[0]), " ) => ", kid(1))
	case api.EApp:
		return joined(kid(0), " ", kid(1))
	case api.EPair:
		return joined("( ", kid(0), " , ", kid(1), " )")
	case api.EFst:
		return joined("#1 ", kid(0))
	case api.ESnd:
		return joined("#2 ", kid(0))
	case api.ELet:
		return joined("let "+n.Name+" = ", kid(0), " in ", kid(1), " end")
	case api.EIf:
		return joined("if ", kid(0), " then ", kid(1), " else ", kid(2))
	case api.EOp:
		return joined(kid(0), " "+string("+-*=<"[n.N-1])+" ", kid(1))
	case api.ECase:
		return joined("case ", kid(0), " of ", arms(n.Kids[1:]), " end")
	}
	return joined("fold ", kid(0), " to ", typed(n.Kids[1]), " of ", arms(n.Kids[2:]), " end")
}

func arms(l []*api.Node) []string {
	ways := []string{""}
	for i, arm := range l {
		bar := ""
		if i > 0 {
			bar = " | "
		}
		ways = joined(ways, bar+arm.Name+" "+arm.Mark+" => ", writings(arm.Kids[0]))
	}
	return ways
}

// typed tells the way that layer 6 writes a type.
func typed(n *api.Node) []string {
	s, e := ptype.Write(n)
	if e != api.OK {
		panic("no type")
	}
	return []string{s}
}

// joined tells all rows of one text of each list; a text is a list of itself.
func joined(lists ...any) []string {
	rows := []string{""}
	for _, l := range lists {
		texts, isList := l.([]string)
		if !isList {
			texts = []string{l.(string)}
		}
		var longer []string
		for _, row := range rows {
			for _, x := range texts {
				longer = append(longer, row+x)
			}
		}
		rows = longer
	}
	return rows
}

// shortest tells of all ways to write an expression the shortest one that is this expression by the grammar, and how many are as short.
func shortest(n *api.Node) (best string, many int) {
	ways := writings(n)
	slices.SortFunc(ways, func(a, b string) int { return len(a) - len(b) })
	for _, s := range ways {
		if many > 0 && len(s) > len(best) {
			break
		}
		if l := tokensOf(s); oracle(l, 0) == (answer{text(n), len(l), api.OK}) {
			best = s
			many++
		}
	}
	return best, many
}

// tokensOf cuts a text at its blanks: the signs and words of the language are keys, numbers are numbers, all else are names.
func tokensOf(s string) []api.Token {
	var l []api.Token
	for i, x := range strings.Fields(s) {
		t := api.Token{Kind: api.TkName, Text: x, At: 7 * i}
		if slices.Contains(strings.Fields(keys), x) {
			t.Kind = api.TkKey
		}
		if n, err := strconv.Atoi(strings.Replace(x, "~", "-", 1)); err == nil {
			t.Kind, t.N = api.TkInt, n
		}
		l = append(l, t)
	}
	return l
}

const keys = "( ) { } , : :> = => -> * + - < | #1 #2 val type datatype structure signature functor open include struct end sig where sharing fn let in if then else case fold of to int bool unit true false mu"
