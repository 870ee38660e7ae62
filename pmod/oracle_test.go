package pmod_test

import (
	"regexp"
	"slices"
	"strconv"
	"strings"

	"marquetry/api"
	"marquetry/pexpr"
	"marquetry/ptype"
)

// oracle_test.go follows the chapter's grammar as a table, in all ways that it leaves at once, and makes trees by cutting rows at the words and signs that lie outside: it shares nothing with the package.

// grammar tells what each rule may be. DECLS are those that may stand within a structure, TOPS those at the top.
func grammar() map[string][]string {
	return map[string][]string{
		"MOD":    {"PRIM SEALS"},
		"SEALS":  {"", ": SIG SEALS", ":> SIG SEALS"},
		"PRIM":   {"struct DECLS end", "NAME ( MOD )", "( MOD )", "LONG"},
		"SIG":    {"BODY WHERES"},
		"WHERES": {"", "where type LONG = TYPE WHERES"},
		"BODY":   {"sig SPECS end", "NAME"},
		"SPECS":  {"", "SPEC SPECS"},
		"SPEC":   {"val NAME : TYPE", "type NAME", "type NAME = TYPE", "datatype NAME = CONS", "structure NAME : SIG", "include SIG", "sharing type LONG = LONG"},
		"DECLS":  {"", "DECL DECLS"},
		"DECL":   {"val NAME = EXPR", "val NAME : TYPE = EXPR", "type NAME = TYPE", "datatype NAME = CONS", "structure NAME = MOD", "open LONG", "include LONG"},
		"TOPS":   {"", "TOP TOPS"},
		"TOP":    {"DECL", "signature NAME = SIG", "functor NAME ( NAME : SIG ) = MOD"},

		"EXPR":     {"fn ( NAME : TYPE ) => EXPR", "let NAME = EXPR in EXPR end", "if EXPR then EXPR else EXPR", "case EXPR of ARMS end", "fold EXPR to TYPE of ARMS end", "SUM COMPARED"},
		"ARMS":     {"NAME NAME => EXPR MOREARMS"},
		"MOREARMS": {"", "| ARMS"},
		"COMPARED": {"", "= SUM", "< SUM"},
		"SUM":      {"TERM SUMMED"},
		"SUMMED":   {"", "+ TERM SUMMED", "- TERM SUMMED"},
		"TERM":     {"APP TIMES"},
		"TIMES":    {"", "* APP TIMES"},
		"APP":      {"ATOM APPLIED"},
		"APPLIED":  {"", "ATOM APPLIED"},
		"ATOM":     {"NUMBER", "true", "false", "( CLOSED", "#1 ATOM", "#2 ATOM", "LONG"},
		"CLOSED":   {")", "EXPR PAIRED"},
		"PAIRED":   {")", ", EXPR )"},

		"TYPE":    {"PRODUCT ARROW"},
		"ARROW":   {"", "-> TYPE"},
		"PRODUCT": {"TATOM STAR"},
		"STAR":    {"", "* PRODUCT"},
		"TATOM":   {"int", "bool", "unit", "LONG", "( TYPE )", "mu NAME { CONS }"},
		"CONS":    {"NAME of TYPE BAR"},
		"BAR":     {"", "| CONS"},
	}
}

// behind adds to what may come next all that may still come behind a token, where the row of symbols might come.
func behind(table map[string][]string, symbols string, t api.Token, next []string) []string {
	if symbols == "" {
		return next
	}
	first, rest, _ := strings.Cut(symbols, " ")
	choices, isRule := table[first]
	for _, choice := range choices {
		if choice == "" || rest == "" {
			next = behind(table, choice+rest, t, next)
		} else {
			next = behind(table, choice+" "+rest, t, next)
		}
	}
	if !isRule && bears(t, first) && !slices.Contains(next, rest) {
		return append(next, rest)
	}
	return next
}

// behindAll tells what may still come behind a token, where any of some rows of symbols might come.
func behindAll(table map[string][]string, rows []string, t api.Token) []string {
	var next []string
	for _, symbols := range rows {
		next = behind(table, symbols, t, next)
	}
	return next
}

func bears(t api.Token, symbol string) bool {
	switch symbol {
	case "NAME":
		return t.Kind == 1 && namesIn(t.Text) == 1
	case "LONG":
		return t.Kind == 1 && namesIn(t.Text) > 0
	case "NUMBER":
		return t.Kind == 2 && -1073741824 <= t.N && t.N <= 1073741824
	}
	return t.Kind == 3 && t.Text == symbol
}

const keys = "( ) { } , : :> = => -> * + - < | #1 #2 val type datatype structure signature functor open include struct end sig where sharing fn let in if then else case fold of to int bool unit true false mu"

var (
	words     = strings.Fields(keys)[17:]
	nameSigns = regexp.MustCompile(`^[A-Za-z_\x{80}-\x{FFFC}\x{FFFE}-\x{10FFFF}][A-Za-z_\x{80}-\x{FFFC}\x{FFFE}-\x{10FFFF}0-9']*$`)
)

// namesIn tells how many names a TkName of that text has; none, if no TkName has it.
func namesIn(s string) int {
	l := strings.Split(s, ".")
	for _, x := range l {
		if len(s) > 128 || len(x) > 32 || !nameSigns.MatchString(x) || slices.Contains(words, x) {
			return 0
		}
	}
	return len(l)
}

// mayEnd tells whether nothing has to come any more.
func mayEnd(table map[string][]string, symbols string) bool {
	for _, x := range strings.Fields(symbols) {
		if !slices.Contains(table[x], "") {
			return false
		}
	}
	return true
}

// answer is what a call tells of tokens: the trees as text.
type answer struct {
	trees string
	next  int
	e     api.Errno
}

// oracle tells what begins with a token by a rule: MOD, SIG, DECLS or TOPS.
func oracle(rule string, l []api.Token, i int) answer {
	if i < 0 || i > len(l) {
		return answer{"", 0, api.ErrArg}
	}
	table := grammar()
	rows, at := []string{rule}, i
	var open [][]string // constructors ahead, of each list that has not ended
	for ; at < len(l); at++ {
		next := behindAll(table, rows, l[at])
		if len(next) == 0 {
			break
		}
		if strings.HasPrefix(rows[0], "CONS") { // a constructor's name is next
			ahead := &open[len(open)-1]
			if slices.Contains(*ahead, l[at].Text) {
				return answer{"", at, api.ErrTwice}
			}
			*ahead = append(*ahead, l[at].Text)
		}
		switch {
		case isKey(l[at], "datatype"):
			open = [][]string{{}}
		case isKey(l[at], "{"):
			open = append(open, nil)
		case isKey(l[at], "}"):
			open = open[:len(open)-1]
		}
		rows = next
	}
	if !slices.ContainsFunc(rows, func(symbols string) bool { return mayEnd(table, symbols) }) {
		return answer{"", at, api.ErrParse}
	}
	return answer{treesOf(rule, l[i:at]), at, api.OK}
}

func treesOf(rule string, l []api.Token) string {
	switch rule {
	case "MOD":
		return modText(l)
	case "SIG":
		return sigText(l)
	}
	return strings.Join(declTexts(l), " ")
}

func isKey(t api.Token, texts ...string) bool {
	return t.Kind == 3 && slices.Contains(texts, t.Text)
}

// outside tells the places of words and signs that lie in nothing that begins and ends.
func outside(l []api.Token, texts ...string) []int {
	var places []int
	deep := 0
	for i, t := range l {
		if deep == 0 && isKey(t, texts...) {
			places = append(places, i)
		}
		if isKey(t, "(", "{", "let", "case", "fold", "if", "struct", "sig") {
			deep++
		}
		if isKey(t, ")", "}", "end", "else") {
			deep--
		}
	}
	return places
}

// pieces cuts a row ahead of each word that begins a declaration or specification: behind where and sharing none does.
func pieces(l []api.Token) [][]api.Token {
	places := slices.DeleteFunc(outside(l, "val", "type", "datatype", "structure", "signature", "functor", "open", "include", "sharing"), func(i int) bool { return i > 0 && isKey(l[i-1], "where", "sharing") })
	var rows [][]api.Token
	for n, i := range places {
		end := len(l)
		if n+1 < len(places) {
			end = places[n+1]
		}
		rows = append(rows, l[i:end])
	}
	return rows
}

// modText writes the tree of tokens that are a module.
func modText(l []api.Token) string {
	last := len(l) - 1
	seals := outside(l, ":", ":>")
	switch {
	case len(seals) > 0:
		i := seals[len(seals)-1]
		return nodeText(api.MSeal, map[string]int{":": 0, ":>": 1}[l[i].Text], "", "", modText(l[:i]), sigText(l[i+1:]))
	case isKey(l[0], "struct"):
		return nodeText(api.MStruct, 0, "", "", declTexts(l[1:last])...)
	case isKey(l[0], "("):
		return modText(l[1:last])
	case last > 0:
		return nodeText(api.MApp, 0, l[0].Text, "", modText(l[2:last]))
	}
	return nodeText(api.MPath, 0, l[0].Text, "")
}

// sigText writes the tree of tokens that are a signature.
func sigText(l []api.Token) string {
	if wheres := outside(l, "where"); len(wheres) > 0 {
		i := wheres[len(wheres)-1]
		return nodeText(api.SWhere, 0, l[i+2].Text, "", sigText(l[:i]), typeText(l[i+4:]))
	}
	if len(l) == 1 {
		return nodeText(api.SName, 0, l[0].Text, "")
	}
	var specs []string
	for _, x := range pieces(l[1 : len(l)-1]) {
		specs = append(specs, specText(x))
	}
	return nodeText(api.SBody, 0, "", "", specs...)
}

func specText(l []api.Token) string {
	switch l[0].Text {
	case "val":
		return nodeText(api.PVal, 0, l[1].Text, "", typeText(l[3:]))
	case "type":
		if len(l) == 2 {
			return nodeText(api.PType, 0, l[1].Text, "")
		}
		return nodeText(api.PType, 0, l[1].Text, "", typeText(l[3:]))
	case "datatype":
		return nodeText(api.PData, 0, l[1].Text, "", consTexts(l[3:])...)
	case "structure":
		return nodeText(api.PStruct, 0, l[1].Text, "", sigText(l[3:]))
	case "include":
		return nodeText(api.PInclude, 0, "", "", sigText(l[1:]))
	}
	return nodeText(api.PShare, 0, l[2].Text, l[4].Text)
}

func declTexts(l []api.Token) []string {
	var texts []string
	for _, x := range pieces(l) {
		texts = append(texts, declText(x))
	}
	return texts
}

func declText(l []api.Token) string {
	switch l[0].Text {
	case "val":
		i := outside(l, "=")[0]
		if isKey(l[2], ":") {
			return nodeText(api.DVal, 0, l[1].Text, "", typeText(l[3:i]), exprText(l[i+1:]))
		}
		return nodeText(api.DVal, 0, l[1].Text, "", exprText(l[i+1:]))
	case "type":
		return nodeText(api.DType, 0, l[1].Text, "", typeText(l[3:]))
	case "datatype":
		return nodeText(api.DData, 0, l[1].Text, "", consTexts(l[3:])...)
	case "structure":
		return nodeText(api.DStruct, 0, l[1].Text, "", modText(l[3:]))
	case "signature":
		return nodeText(api.DSig, 0, l[1].Text, "", sigText(l[3:]))
	case "functor":
		i := outside(l, "=")[0]
		return nodeText(api.DFunctor, 0, l[1].Text, l[3].Text, sigText(l[5:i-1]), modText(l[i+1:]))
	case "open":
		return nodeText(api.DOpen, 0, l[1].Text, "")
	}
	return nodeText(api.DInclude, 0, l[1].Text, "")
}

// typeText, consTexts and exprText write what layers 6 and 7 tell.
func typeText(l []api.Token) string {
	n, next, e := ptype.Type(l, 0)
	if e != api.OK || next != len(l) {
		panic("no type")
	}
	return text(n)
}

func consTexts(l []api.Token) []string {
	cons, next, e := ptype.Cons(l, 0)
	if e != api.OK || next != len(l) {
		panic("no constructors")
	}
	return textsOf(cons)
}

func exprText(l []api.Token) string {
	n, next, e := pexpr.Expr(l, 0)
	if e != api.OK || next != len(l) {
		panic("no expression")
	}
	return text(n)
}

// nodeText writes a node: its kind, number and texts, and its kids, which are written.
func nodeText(kind, number int, name, mark string, kids ...string) string {
	return strconv.Itoa(kind) + "#" + strconv.Itoa(number) + strconv.Quote(name) + strconv.Quote(mark) + "[" + strings.Join(kids, ",") + "]"
}

// text writes a tree; no tree is an empty text.
func text(n *api.Node) string {
	if n == nil {
		return ""
	}
	return nodeText(n.Kind, n.N, n.Name, n.Mark, textsOf(n.Kids)...)
}

func textsOf(l []*api.Node) []string {
	var texts []string
	for _, n := range l {
		texts = append(texts, text(n))
	}
	return texts
}

// tokensOf cuts a text at its blanks: the signs and words of the language are keys, numbers are numbers, all else are names.
func tokensOf(s string) []api.Token {
	var l []api.Token
	for i, x := range strings.Fields(s) {
		t := api.Token{Kind: api.TkName, Text: x, At: 7 * i}
		if slices.Contains(strings.Fields(keys), x) {
			t.Kind = api.TkKey
		}
		if n, err := strconv.Atoi(strings.Replace(x, "~", "-", 1)); err == nil {
			t.Kind, t.N = api.TkInt, n
		}
		l = append(l, t)
	}
	return l
}
