package pexpr_test

import (
	"slices"
	"strings"
	"testing"

	"marquetry/api"
	"marquetry/lexer"
)

// times_test.go asks of rows of apps with * between them alone: what stands ahead of a * is a term, what stands behind it one app.

// apps are forms of which any may stand where an app is asked.
func apps() []sample {
	l := atoms()
	for _, x := range chains() {
		if x.want.Kind == api.EApp {
			l = append(l, x)
		} else {
			l = append(l, signed(x))
		}
	}
	for _, x := range loose() {
		l = append(l, signed(x))
	}
	return l
}

// product tells the row of parts, each two with * between them, and its tree: each part is multiplied with all of those ahead.
func product(parts ...sample) sample {
	row := parts[0]
	for _, x := range parts[1:] {
		row = sample{row.s + " * " + x.s, mul(row.want, x.want)}
	}
	return row
}

// products are rows of each app: alone, and among others at the beginning, in the midst and at the end.
func products() []sample {
	a, b := sample{"a", v("a")}, sample{"b 7", app(v("b"), num(7))}
	var l []sample
	for _, x := range apps() {
		l = append(l, product(x, x), product(x, x, x), product(x, a, b), product(a, x, b), product(b, a, x), product(x, a, x, b), product(a, x, x, x, b, x))
	}
	return l
}

func TestRowsOfTimesGoToTheLeft(t *testing.T) {
	for _, x := range products() {
		parses(t, x.s, 0, x.want, length(x.s))
		parses(t, "( ( "+x.s+" ) )", 0, x.want, length(x.s)+4)
		parses(t, "* "+x.s+" =>", 1, x.want, length(x.s)+1)
	}
	a := sample{"a", v("a")}
	for n := 2; n < 40; n++ {
		x := product(slices.Repeat([]sample{a}, n)...)
		parses(t, x.s, 0, x.want, 2*n-1)
		parses(t, x.s, 2, product(slices.Repeat([]sample{a}, n-1)...).want, 2*n-1)
		refuses(t, tokensOf(x.s+" *"), 0, 2*n, api.ErrParse)
		for _, wrong := range []string{"*", "+", "=", ")", "int", "fn ( x : int ) => x", "let x = a in a end", "if a then a else a"} {
			refuses(t, tokensOf(x.s+" * "+wrong+" * a"), 0, 2*n, api.ErrParse)
		}
	}
}

func TestRowsOfTimesBesideOtherOperations(t *testing.T) {
	c, d := v("c"), v("d")
	for _, row := range products() {
		x := row.want
		for _, y := range []sample{
			{"? + c", add(x, c)}, {"c + ?", add(c, x)}, {"? - c", sub(x, c)}, {"c - ?", sub(c, x)}, {"? - ? + ?", add(sub(x, x), x)}, {"c + ? - d", sub(add(c, x), d)}, {"c * d - ? + c * d", add(sub(mul(c, d), x), mul(c, d))},
			{"? = c", eq(x, c)}, {"c = ?", eq(c, x)}, {"? < ?", less(x, x)}, {"c + ? = ? - d", eq(add(c, x), sub(x, d))},
			{"( ? ) * c", mul(x, c)}, {"c * ( ? )", mul(c, x)}, {"c * ( ? ) * d", mul(mul(c, x), d)}, {"( ? ) * ( ? )", mul(x, x)}, {"c * d * ( ? )", mul(mul(c, d), x)}, {"c * ( d * ( ? ) )", mul(c, mul(d, x))}, {"( c + ? ) * d * c", mul(mul(add(c, x), d), c)}, {"( c = ? ) * d * ( ? - c )", mul(mul(eq(c, x), d), sub(x, c))},
			{"c ( ? )", app(c, x)}, {"( ? ) c", app(x, c)}, {"c ( ? ) * d * ( ? ) c", mul(mul(app(c, x), d), app(x, c))}, {"#1 ( ? )", fst(x)}, {"( ? , ? )", pair(x, x)},
		} {
			s := strings.ReplaceAll(y.s, "?", row.s)
			parses(t, s, 0, y.want, length(s))
		}
	}
}

func TestRowsOfTimesInATextGoToTheLeft(t *testing.T) {
	fold := tree(api.EFold, tree(api.EUnit), tname("M"), arm("A", "x", v("e")), arm("B", "t", num(4)))
	for s, want := range map[string]*api.Node{"a*b*c": mul(mul(v("a"), v("b")), v("c")), "4*(fold()to M of A x=>e|B t=>4 end)*4": mul(mul(num(4), fold), num(4)), "a*(*b*)b*#1 c*f x y": mul(mul(mul(v("a"), v("b")), fst(v("c"))), app(app(v("f"), v("x")), v("y")))} {
		l, _, e := lexer.Lex(s)
		if got := asked(l, 0); e != api.OK || got != (answer{text(want), len(l), api.OK}) {
			t.Errorf("%q: %s, not %s", s, got.shown(), text(want))
		}
	}
}

// Types go the other way, within an expression too.
func TestRowsOfPairTypesStillGoToTheRight(t *testing.T) {
	i, u := tree(api.TInt), tname("u")
	right := tree(api.TPair, i, tree(api.TPair, u, i))
	left := tree(api.TPair, tree(api.TPair, i, u), i)
	parses(t, "fn ( x : int * u * int ) => x * y * z", 0, lam("x", right, mul(mul(v("x"), v("y")), v("z"))), 16)
	writes(t, lam("x", right, mul(v("x"), mul(v("y"), v("z")))), "fn ( x : int * u * int ) => x * ( y * z )")
	writes(t, lam("x", left, mul(mul(v("x"), v("y")), v("z"))), "fn ( x : ( int * u ) * int ) => x * y * z")
}

// In a product's first place a product has no signs, in its second place it has; what binds looser has signs in both, what binds tighter in none.
func TestSignsInProducts(t *testing.T) {
	x, y, z, i := v("x"), v("y"), v("z"), tree(api.TInt)
	for _, form := range []struct {
		s             string
		n             *api.Node
		first, second bool
	}{
		{"x * y", mul(x, y), false, true}, {"x * y * z", mul(mul(x, y), z), false, true}, {"x * ( y * z )", mul(x, mul(y, z)), false, true}, {"x * y * ( z * x )", mul(mul(x, y), mul(z, x)), false, true}, {"( x + y ) * z", mul(add(x, y), z), false, true},
		{"x + y", add(x, y), true, true}, {"x - y", sub(x, y), true, true}, {"x = y", eq(x, y), true, true}, {"x < y", less(x, y), true, true}, {"x + y * z", add(x, mul(y, z)), true, true}, {"x * y * z - x", sub(mul(mul(x, y), z), x), true, true},
		{"fn ( x : int ) => x", lam("x", i, x), true, true}, {"let x = y in z end", let("x", y, z), true, true}, {"if x then y else z", iff(x, y, z), true, true}, {"case x of A y => z end", tree(api.ECase, x, arm("A", "y", z)), true, true}, {"fold x to int of A y => z end", tree(api.EFold, x, i, arm("A", "y", z)), true, true},
		{"x y", app(x, y), false, false}, {"x y z", app(app(x, y), z), false, false}, {"#1 x", fst(x), false, false}, {"#2 x", snd(x), false, false}, {"( x , y )", pair(x, y), false, false}, {"x", x, false, false}, {"M.x", v("M.x"), false, false}, {"7", num(7), false, false}, {"~7", num(-7), false, false}, {"true", &api.Node{Kind: api.EBool, N: 1}, false, false}, {"( )", tree(api.EUnit), false, false},
	} {
		first, second := form.s, form.s
		if form.first {
			first = "( " + first + " )"
		}
		if form.second {
			second = "( " + second + " )"
		}
		a, b, n := v("a"), v("b"), form.n
		for s, of := range map[string]*api.Node{
			first + " * a": mul(n, a), "a * " + second: mul(a, n), first + " * " + second: mul(n, n), first + " * a * b": mul(mul(n, a), b), "a * " + second + " * b": mul(mul(a, n), b), "a * b * " + second: mul(mul(a, b), n), "a * ( " + first + " * b )": mul(a, mul(n, b)), "a * ( b * " + second + " )": mul(a, mul(b, n)),
			"a + " + first + " * b": add(a, mul(n, b)), "a * " + second + " - b": sub(mul(a, n), b), first + " * a = b * " + second: eq(mul(n, a), mul(b, n)), "f ( " + first + " * a ) * " + second: mul(app(v("f"), mul(n, a)), n), "#1 ( a * " + second + " )": fst(mul(a, n)),
		} {
			writes(t, of, s)
		}
	}
}

func TestLongProductsAreWritten(t *testing.T) {
	a := sample{"a", v("a")}
	for n := 2; n <= 59; n++ {
		row := product(slices.Repeat([]sample{a}, n)...)
		writes(t, row.want, row.s)
		writes(t, mul(v("b"), row.want), "b * ( "+row.s+" )")
		writes(t, chain(n, mul(v("b"), v("b")), 1, v("a")), strings.Repeat("b * ( ", n-1)+"b * a"+strings.Repeat(" )", n-1))
	}
}
