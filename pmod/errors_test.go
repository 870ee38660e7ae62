package pmod_test

import (
	"math"
	"slices"
	"strconv"
	"strings"
	"testing"

	"marquetry/api"
)

// errors_test.go asks of tokens that are none of the grammar's rows, and of the places where they go wrong.

// Of a row that has to go on up to its end, each beginning ends too early.
func TestListsThatEndWhereMoreHasToCome(t *testing.T) {
	for rule, rows := range map[string][]string{
		"MOD": {
			"struct val x : int * t = let y = 7 in ( y , 8 ) end type t = M.t -> int datatype u = A of int | B of u structure N = F ( M : S ) :> sig type t end open N include N end",
			"( F ( struct structure A = ( M ) end : S where type t = int where type X.u = t ) )", "( F ( M ) )", "( M )", "struct end", "( ( M :> S ) : T )",
		},
		"SIG": {"sig val x : int -> t type t type u = mu v { A of int } datatype d = A of unit | B of int * d structure X : sig end include S where type t = int sharing type t = X.u end"},
	} {
		for _, s := range rows {
			l := tokensOf(s)
			for n := range len(l) {
				refuses(t, rule, l[:n], 0, n, api.ErrParse)
			}
			agrees(t, l)
		}
	}
	for rule, rows := range map[string][]string{
		"MOD":   {"", "(", "( M", "( M :", "( M : S", "F (", "F ( M", "F ( M :> S", "M :", "M :>", "M : S :", "M : S :> sig", "M : S where", "M : S where type", "M : S where type t", "M : S where type t =", "M : S where type t = int ->", "M : S where type t = int where", "struct", "struct open M", "struct val x = 7", "struct structure A = M", "struct structure A = M : S"},
		"SIG":   {"", "sig", "sig type", "sig type t", "sig type t =", "sig type t = int", "sig type t = int *", "sig val", "sig val x", "sig val x :", "sig val x : int", "sig datatype", "sig datatype t", "sig datatype t =", "sig datatype t = A", "sig datatype t = A of", "sig datatype t = A of int", "sig datatype t = A of int |", "sig structure", "sig structure X", "sig structure X :", "sig structure X : S", "sig structure X : S where", "sig include", "sig include S", "sig include sig end", "sig sharing", "sig sharing type", "sig sharing type t", "sig sharing type t =", "sig sharing type t = u", "S where", "S where type", "S where type t", "S where type t =", "S where type t = (", "S where type t = int where", "S where type t = int where type", "sig end where"},
		"DECLS": {"val", "val x", "val x :", "val x : int", "val x : int ->", "val x : int =", "val x =", "val x = a +", "val x = (", "val x = let", "val x = fn ( x : int ) =>", "val x = if a then b", "type", "type t", "type t =", "type t = int *", "type t = (", "datatype", "datatype t", "datatype t =", "datatype t = A", "datatype t = A of", "datatype t = A of int |", "datatype t = A of int | B", "datatype t = A of mu", "structure", "structure A", "structure A =", "structure A = (", "structure A = F (", "structure A = F ( M", "structure A = M :", "structure A = M :>", "structure A = M : S where", "structure A = struct", "structure A = struct open M", "open", "include", "open M open", "val x = 7 val", "open M include"},
		"TOPS":  {"signature", "signature S", "signature S =", "signature S = sig", "signature S = sig type t", "signature S = T where", "signature S = T where type t =", "functor", "functor F", "functor F (", "functor F ( X", "functor F ( X :", "functor F ( X : S", "functor F ( X : S where", "functor F ( X : S where type t = int", "functor F ( X : S )", "functor F ( X : S ) =", "functor F ( X : S ) = G (", "functor F ( X : S ) = M :", "functor F ( X : S ) = struct", "signature S = T signature", "open M functor"},
	} {
		for _, s := range rows {
			l := tokensOf(s)
			refuses(t, rule, l, 0, len(l), api.ErrParse)
			refuses(t, rule, append(tokensOf("x x"), l...), 2, len(l)+2, api.ErrParse)
		}
	}
}

// wrong are rows, and the places of the first tokens with which none goes on.
type wrong map[string]int

// refusedBehind asks for the place of each wrong row, with rows ahead of it that have to go on with it.
func refusedBehind(t *testing.T, rule string, rows wrong, ahead ...string) {
	t.Helper()
	for s, at := range rows {
		for _, x := range ahead {
			far := length(x)
			refuses(t, rule, tokensOf(x+" "+s), 0, at+far, api.ErrParse)
			refuses(t, rule, tokensOf(x + " " + s)[:at+far], 0, at+far, api.ErrParse) // up to there all goes on
			refuses(t, rule, tokensOf("= S "+x+" "+s), 2, at+far+2, api.ErrParse)
		}
	}
}

func wrongModules() wrong {
	return wrong{
		"": 0, "val": 0, "end": 0, "sig end": 0, ")": 0, ": S": 0, ":> S": 0, "=": 0, "7": 0, "int": 0, "where": 0, "functor": 0, "signature": 0, "type": 0, "open M": 0, "fn ( x : int ) => M": 0, "true": 0, "#1 M": 0, "{": 0, "->": 0, "|": 0, ",": 0, "mu": 0,
		"(": 1, "( )": 1, "( val": 1, "( end": 1, "( sig end )": 1, "( : S )": 1, "( M": 2, "( M N )": 2, "( M , N )": 2, "( M = N )": 2, "( M }": 2, "( M * N )": 2, "( M :": 3, "( M : )": 3, "( M : S": 4, "( M :> S : T": 6, "( M ( N )": 5, "( M ( N ) ( N ) )": 5, "( M.N ( M ) )": 2, "( ( M )": 4, "( ( M": 3, "( struct end": 3, "( struct end end": 3, "( M ;": 2, "( M end": 2, "( M where type t = int )": 2,
		"F (": 2, "F ( )": 2, "F ( 7 )": 2, "F ( sig end )": 2, "F ( int )": 2, "F ( val": 2, "F ( end": 2, "F ( M": 3, "F ( M N )": 3, "F ( M , N )": 3, "F ( M : int )": 4, "F ( M : )": 4, "F ( M : S": 5, "F ( M.N ( M ) )": 3, "F ( G ( )": 4, "F ( G ( M )": 6, "F ( ( M )": 5, "F ( struct )": 3, "F ( M ]": 3, "F ( M where": 3, "F ( M }": 3,
		"M :": 2, "M : )": 2, "M : :> S": 2, "M : S.T": 2, "M : 7": 2, "M : struct end": 2, "M : ( S )": 2, "M : type": 2, "M : where type t = int": 2, "M : end": 2, "M : unit": 2, "M :> {": 2, "M : S :": 4, "M :> S :> ": 4, "M :> S : int": 4, "M : S : : T": 4, "M : S.T :> S": 2, "M : sig": 3, "M : sig end :": 5, "F ( M ) :>": 5, "struct end : S.T": 3, "( M ) : ( S )": 4,
		"struct": 1, "struct )": 1, "struct 7": 1, "struct M end": 1, "struct sharing": 1, "struct struct end end": 1, "struct sig end end": 1, "struct signature S = T end": 1, "struct functor F ( X : S ) = X end": 1, "struct where": 1, "struct of": 1, "struct in": 1, "struct = end": 1, "struct int": 1, "struct fn": 1,
		"struct val x = 7": 5, "struct val x = 7 )": 5, "struct val x = 7 signature S = T end": 5, "struct val x = 7 = 7 = 7 end": 7, "struct val x = 7 : int end": 5, "struct open M": 3, "struct open M )": 3, "struct open M N end": 3, "struct open M functor F": 3, "struct open M , N end": 3, "struct include M 7": 3, "struct type t = int = int end": 5, "struct type t = int struct": 5, "struct type t = int int end": 5, "struct datatype t = A of int of": 7, "struct datatype t = A of int } end": 7, "struct structure A = M N end": 5, "struct structure A = M.N ( M ) end": 5, "struct structure A = M where type t = int end": 5, "struct structure A = struct end struct end": 6, "struct structure A = struct open M": 7, "struct structure A = struct open M end": 8, "struct structure A = M : S ( N )": 7,
	}
}

func TestTheFirstTokenWithWhichNoModuleGoesOn(t *testing.T) {
	refusedBehind(t, "MOD", wrongModules(), "", "(", "( (", "F (", "F ( G (", "struct structure A =", "struct open M structure A =", "F ( struct structure A = M structure A =")
	refusedBehind(t, "DECLS", wrongModules(), "structure A =", "open M structure A = M : S structure B =", "structure A = struct structure A =")
	refusedBehind(t, "TOPS", wrongModules(), "structure A =", "functor F ( X : S ) =", "signature S = T functor F ( X : sig end ) =", "open M functor F ( X : S where type t = int ) = (")
}

func wrongSignatures() wrong {
	l := wrong{
		"": 0, "struct end": 0, "S.T": 0, "( S )": 0, "val": 0, "type": 0, "7": 0, ":": 0, ":> S": 0, "=": 0, "where type t = int": 0, "int": 0, "end": 0, ")": 0, "{": 0, "true": 0, "mu": 0, "fn": 0, "sharing": 0, "S.T where type t = int": 0,
		"sig": 1, "sig )": 1, "sig S end": 1, "sig open M end": 1, "sig signature S = T end": 1, "sig functor F": 1, "sig struct": 1, "sig sig end end": 1, "sig where": 1, "sig x : int end": 1, "sig 7": 1, "sig = end": 1, "sig : end": 1, "sig let": 1, "sig of": 1,
		"S where": 2, "S where t = int": 2, "S where val": 2, "S where datatype": 2, "S where end": 2, "S where )": 2, "S where where": 2, "S where 7": 2, "S where type": 3, "S where type int = t": 3, "S where type 7": 3, "S where type = int": 3, "S where type ( t )": 3, "S where type type": 3, "S where type t": 4, "S where type t : int": 4, "S where type t int": 4, "S where type t => int": 4, "S where type t u = int": 4, "S where type t where": 4,
		"S where type t =": 5, "S where type t = 7": 5, "S where type t = )": 5, "S where type t = = int": 5, "S where type t = end": 5, "S where type t = true": 5, "S where type t = sig end": 5, "S where type t = int ->": 7, "S where type t = int -> )": 7, "S where type t = int * where": 7, "S where type t = ( int where": 7, "S where type t = mu t { }": 8, "S where type t = int where": 7, "S where type t = int where t": 7, "S where type t = int where type": 8, "S where type t = int where type u = 7": 10, "sig end where": 3, "sig end where type t": 5,
	}
	for s, at := range wrongSpecifications() {
		l["sig "+s] = at + 1
	}
	return l
}

// wrongSpecifications are those that stand in a signature: its end is missing, if all else is right.
func wrongSpecifications() wrong {
	return wrong{
		"val": 1, "val 7": 1, "val x.y : int": 1, "val : int": 1, "val int : int": 1, "val ( x )": 1, "val end": 1, "val val": 1, "val x": 2, "val x = 7": 2, "val x int": 2, "val x :> int": 2, "val x y : int": 2, "val x end": 2, "val x :": 3, "val x : 7": 3, "val x : = 7": 3, "val x : end": 3, "val x : val": 3, "val x : true": 3, "val x : int": 4, "val x : int = 7 end": 4, "val x : int int": 4, "val x : int )": 4, "val x : t.u x": 4, "val x : int : int": 4, "val x : int , y : int": 4, "val x : int *": 5, "val x : int -> end": 5, "val x : ( int end": 5,
		"type": 1, "type t.u": 1, "type int": 1, "type = int": 1, "type end": 1, "type 7": 1, "type type": 1, "type ( t )": 1, "type t": 2, "type t :": 2, "type t int": 2, "type t u": 2, "type t )": 2, "type t => int": 2, "type t . u": 2, "type t where": 2, "type t =": 3, "type t = 7": 3, "type t = end": 3, "type t = type u": 3, "type t = = int": 3, "type t = A of int": 4, "type t = int": 4, "type t = int = int": 4, "type t = int , u": 4, "type t = int ->": 5, "type t = int * end": 5,
		"datatype": 1, "datatype t.u = A of int": 1, "datatype int = A of int": 1, "datatype = A of int": 1, "datatype end": 1, "datatype 7": 1, "datatype t": 2, "datatype t A of int": 2, "datatype t : A": 2, "datatype t end": 2, "datatype t => A": 2, "datatype t =": 3, "datatype t = end": 3, "datatype t = | A of int": 3, "datatype t = 7 of int": 3, "datatype t = A.B of int": 3, "datatype t = { A of int }": 3, "datatype t = ( A of int )": 3, "datatype t = int": 3, "datatype t = A": 4, "datatype t = A end": 4, "datatype t = A int": 4, "datatype t = A : int": 4, "datatype t = A | B": 4, "datatype t = A of": 5, "datatype t = A of end": 5, "datatype t = A of 7": 5, "datatype t = A of | B of int": 5, "datatype t = A of int": 6, "datatype t = A of int , B of int": 6, "datatype t = A of int B of int": 6, "datatype t = A of int |": 7, "datatype t = A of int | end": 7, "datatype t = A of int | | B of int": 7, "datatype t = A of int | B": 8, "datatype t = A of int | B.C of int": 7, "datatype t = A of int | B int": 8, "datatype t = A of int | B of": 9, "datatype t = A of mu t { A of int": 11,
		"structure": 1, "structure X.Y : S": 1, "structure : S": 1, "structure end": 1, "structure 7": 1, "structure int": 1, "structure structure": 1, "structure X": 2, "structure X = S": 2, "structure X = M": 2, "structure X :> S": 2, "structure X S": 2, "structure X end": 2, "structure X ( S )": 2, "structure X :": 3, "structure X : S.T": 3, "structure X : struct end": 3, "structure X : ( S )": 3, "structure X : 7": 3, "structure X : : S": 3, "structure X : end": 3, "structure X : int": 3, "structure X : S": 4, "structure X : S :> T": 4, "structure X : S : T": 4, "structure X : S = M": 4, "structure X : S T": 4, "structure X : S ( T )": 4, "structure X : S where": 5, "structure X : S where end": 5, "structure X : S where type t = end": 8, "structure X : sig": 4, "structure X : sig )": 4, "structure X : sig end": 5,
		"include": 1, "include M.N": 1, "include 7": 1, "include struct end": 1, "include end": 1, "include ( S )": 1, "include type t": 1, "include include": 1, "include : S": 1, "include S": 2, "include S : T": 2, "include S T": 2, "include S :> T": 2, "include S = T": 2, "include S where": 3, "include S where type": 4, "include S where type t.7": 4, "include sig": 2, "include sig include": 3, "include sig end": 3,
		"sharing": 1, "sharing t = u": 1, "sharing structure": 1, "sharing end": 1, "sharing sharing": 1, "sharing = u": 1, "sharing type": 2, "sharing type = u": 2, "sharing type 7": 2, "sharing type int = t": 2, "sharing type end": 2, "sharing type ( t ) = u": 2, "sharing type type t": 2, "sharing type t": 3, "sharing type t u": 3, "sharing type t : u": 3, "sharing type t , u": 3, "sharing type t end": 3, "sharing type t => u": 3, "sharing type t =": 4, "sharing type t = int": 4, "sharing type t = 7": 4, "sharing type t = ( u )": 4, "sharing type t = end": 4, "sharing type t = = u": 4, "sharing type t = type u": 4, "sharing type t = u": 5, "sharing type t = u = v": 5, "sharing type t = u -> v": 5, "sharing type t = u v": 5, "sharing type t = u where": 5,
	}
}

func TestTheFirstTokenWithWhichNoSignatureGoesOn(t *testing.T) {
	signatures := wrongSignatures()
	refusedBehind(t, "SIG", signatures, "", "sig include", "sig structure X :", "sig type t structure X : S include sig structure Y :", "sig val x : int type t datatype u = A of int include")
	refusedBehind(t, "MOD", signatures, "M :", "M :>", "M : S :>", "( M :> sig end :", "F ( M :", "struct structure A = M :", "F ( M ) : S where type t = int :")
	refusedBehind(t, "DECLS", signatures, "structure A = M :", "structure A = struct structure A = M : S :>")
	refusedBehind(t, "TOPS", signatures, "structure A = M :>", "signature S =", "signature S = T signature S =", "functor F ( X :", "open M functor F ( X : S ) = M functor F ( X :", "functor F ( X : S ) = M :", "functor F ( X : S ) = struct structure A = M :>")
}

// wrongDeclarations end within a declaration.
func wrongDeclarations() wrong {
	return wrong{
		"val": 1, "val 7": 1, "val x.y = 7": 1, "val = 7": 1, "val int = 7": 1, "val ( x )": 1, "val end": 1, "val val": 1, "val true = 7": 1, "val x": 2, "val x 7": 2, "val x y": 2, "val x => 7": 2, "val x end": 2, "val x :> int": 2, "val x ( y )": 2, "val x =": 3, "val x = =": 3, "val x = )": 3, "val x = end": 3, "val x = int": 3, "val x = val": 3, "val x = : int": 3, "val x = struct end": 3, "val x = a +": 5, "val x = a + end": 5, "val x = a = val": 5, "val x = ( a ; )": 5, "val x = let y = a in end": 8, "val x = let val y = a": 4, "val x = if a then b end": 7, "val x = case a of end": 6, "val x = #1": 4, "val x = fn x": 4, "val x = fn ( x.y : int )": 5, "val x = fold a to of": 6,
		"val x :": 3, "val x : 7": 3, "val x : = 7": 3, "val x : end": 3, "val x : true = 7": 3, "val x : int": 4, "val x : int 7": 4, "val x : int : int": 4, "val x : int => 7": 4, "val x : int end": 4, "val x : int val": 4, "val x : t.u v = 7": 4, "val x : int ->": 5, "val x : int -> = 7": 5, "val x : ( int = 7": 5, "val x : int =": 5, "val x : int = =": 5, "val x : int = int": 5, "val x : int = end": 5, "val x : mu t { A of int = 7": 9, "val x : int = a *": 7,
		"type": 1, "type t.u = int": 1, "type int = int": 1, "type = int": 1, "type end": 1, "type 7": 1, "type t": 2, "type t int": 2, "type t : int": 2, "type t end": 2, "type t type": 2, "type t u = int": 2, "type t =": 3, "type t = 7": 3, "type t = = int": 3, "type t = end": 3, "type t = ( )": 4, "type t = int ->": 5, "type t = int * end": 5, "type t = mu t A": 5,
		"datatype": 1, "datatype t.u = A of int": 1, "datatype int": 1, "datatype = A": 1, "datatype end": 1, "datatype t": 2, "datatype t A": 2, "datatype t : A": 2, "datatype t end": 2, "datatype t =": 3, "datatype t = | A of int": 3, "datatype t = A.B of int": 3, "datatype t = 7": 3, "datatype t = end": 3, "datatype t = { A of int }": 3, "datatype t = A": 4, "datatype t = A int": 4, "datatype t = A end": 4, "datatype t = A | B of int": 4, "datatype t = A of": 5, "datatype t = A of 7": 5, "datatype t = A of end": 5, "datatype t = A of int |": 7, "datatype t = A of int | end": 7, "datatype t = A of int | A.B": 7, "datatype t = A of int | B": 8, "datatype t = A of int | B of val": 9,
		"structure": 1, "structure X.Y = M": 1, "structure = M": 1, "structure end": 1, "structure 7": 1, "structure struct end": 1, "structure X": 2, "structure X : S": 2, "structure X : S = M": 2, "structure X :> S = M": 2, "structure X M": 2, "structure X end": 2, "structure X ( Y : S ) = M": 2,
		"open": 1, "open 7": 1, "open int": 1, "open end": 1, "open open": 1, "open ( M )": 1, "open struct end": 1, "open = M": 1, "open M open": 3, "include": 1, "include 7": 1, "include unit": 1, "include end": 1, "include sig end": 1, "include ( M )": 1, "include include M": 1, "open M include": 3, "include M open )": 3,
	}
}

// wrongTops end within a declaration that stands at the top.
func wrongTops() wrong {
	return wrong{
		"signature": 1, "signature S.T = S": 1, "signature = S": 1, "signature 7": 1, "signature int": 1, "signature sig": 1, "signature S": 2, "signature S : T": 2, "signature S T": 2, "signature S => T": 2, "signature S end": 2, "signature S ( X : T )": 2,
		"functor": 1, "functor F.G ( X : S )": 1, "functor = M": 1, "functor ( X : S ) = M": 1, "functor 7": 1, "functor functor": 1, "functor F": 2, "functor F = M": 2, "functor F X": 2, "functor F : S": 2, "functor F { X : S } = M": 2, "functor F (": 3, "functor F ( )": 3, "functor F ( 7 : S )": 3, "functor F ( X.Y : S )": 3, "functor F ( int : S )": 3, "functor F ( : S )": 3, "functor F ( ( X : S ) )": 3, "functor F ( structure X : S )": 3, "functor F ( X": 4, "functor F ( X )": 4, "functor F ( X = S )": 4, "functor F ( X :> S )": 4, "functor F ( X S )": 4, "functor F ( X , Y )": 4,
		"functor F ( X : S": 6, "functor F ( X : S = M": 6, "functor F ( X : S , Y : S )": 6, "functor F ( X : S : T )": 6, "functor F ( X : S } = M": 6, "functor F ( X : S T )": 6, "functor F ( X : S )": 7, "functor F ( X : S ) M": 7, "functor F ( X : S ) : S = M": 7, "functor F ( X : S ) => M": 7, "functor F ( X : S ) ( Y : S ) = M": 7, "functor F ( X : S ) where": 7, "functor F ( X : S ) end": 7,
	}
}

func TestTheFirstTokenWithWhichNoDeclarationGoesOn(t *testing.T) {
	refusedBehind(t, "DECLS", wrongDeclarations(), "", "open M", "val x = 7", "type t = int datatype t = A of int", "structure A = struct", "structure A = M : S structure A = F ( struct")
	refusedBehind(t, "MOD", wrongDeclarations(), "struct", "struct open M", "struct structure A = struct end", "F ( struct val x = 7")
	refusedBehind(t, "TOPS", wrongDeclarations(), "", "signature S = T", "functor F ( X : S ) = X", "functor F ( X : S ) = struct", "signature S = T structure A = struct include M")
	refusedBehind(t, "TOPS", wrongTops(), "", "open M", "val x = a = b", "signature S = T where type t = int", "functor F ( X : S ) = X : S", "structure A = M :> sig end")
}

// left are rows that are declarations up to a place, and go on with none there.
func left() wrong {
	return wrong{
		"val x = 7 )": 4, "val x = 7 = 7 = 7": 6, "val x = 7 : int": 4, "val x = 7 int": 4, "val x = a , b": 4, "val x = a b of": 5, "val x : int = 7 : int": 6, "val x = let x = a in b end c": 10, "val x = fn ( x : int ) => x then": 11, "type t = int = int": 4, "type t = int x": 4, "type t = int ( t )": 4, "type t = A of int": 4, "datatype t = A of int of": 6, "datatype t = A of int , B of int": 6, "datatype t = A of int )": 6, "structure A = M M": 4, "structure A = M where type t = int": 4, "structure A = M.N ( M )": 4, "structure A = F ( M ) ( N )": 7, "structure A = M = M": 4, "structure A = struct end struct end": 5, "structure A = M : S T": 6, "structure A = M : S = M": 6, "structure A = M : S ( N )": 6, "structure A = M :> S where type t = int x": 11, "open M N": 2, "open M = N": 2, "open M . N": 2, "open M ( N )": 2, "open M : S": 2, "include M N": 2, "include M where type t = int": 2, "include M , N": 2, "open M 7": 2, "open M sharing type t = u": 2,
	}
}

func TestTokensThatAreLeftBehindDeclarations(t *testing.T) {
	for s, at := range left() {
		for _, rule := range []string{"DECLS", "TOPS"} {
			for _, ahead := range []string{"", "open M", "val x = 7 type t = int"} {
				l := tokensOf(ahead + " " + s)
				far := length(ahead) + at
				if got := asked(rule, l, 0); got != (answer{strings.Join(declTexts(l[:far]), " "), far, api.OK}) {
					t.Errorf("%q: %s, not %d", shown(l), got.shown(), far)
				}
			}
			for _, ahead := range []string{"structure A = struct", "structure A = M structure A = struct open M", "structure A = F ( struct"} {
				refuses(t, rule, tokensOf(ahead+" "+s), 0, length(ahead)+at, api.ErrParse)
			}
		}
		for _, ahead := range []string{"struct", "F ( struct open M"} {
			refuses(t, "MOD", tokensOf(ahead+" "+s), 0, length(ahead)+at, api.ErrParse)
		}
	}
}

// P8.1: constructors.

// placesOfConstructors are rows with constructors behind them.
func placesOfConstructors() map[string][]string {
	return map[string][]string{
		"MOD":   {"struct datatype t =", "struct open M datatype t = A of int datatype t =", "F ( struct datatype t =", "M : sig datatype t =", "struct structure A = struct datatype A =", "M : S where type t = mu t {"},
		"SIG":   {"sig datatype t =", "sig val x : int datatype t = A of int | B of int datatype t =", "sig structure X : sig datatype t =", "sig include sig datatype t =", "S where type t = mu t {", "sig type t = mu t {", "sig val x : int -> mu t {"},
		"DECLS": {"datatype t =", "datatype t = A of int | B of int datatype t =", "structure A = struct datatype t =", "type t = mu t {", "val x : mu t {", "val x = fn ( x : mu t {", "val x = fold a to mu t {", "structure A = M :> sig datatype A ="},
		"TOPS":  {"datatype t =", "signature S = sig datatype t =", "functor F ( X : sig datatype t =", "functor F ( X : S ) = struct datatype t =", "functor F ( X : S where type t = mu t {", "signature S = sig datatype t = A of int end datatype A ="},
	}
}

func TestConstructorsThatStandTwice(t *testing.T) {
	rows := map[string]int{
		"A of int | A of int": 4, "A of int | B of int | A of int": 8, "B of int | A of int | C of int | A of int": 12, "A of int | A": 4, "A of int | A )": 4, "A of int | A int": 4, "A of mu t { B of int } | B of int | B": 14, "A of mu t { A of int | A of int } | B of int": 9, "B of mu t { A of int | B of t | A of": 13, "A of int * t -> u | A of 7": 8,
	}
	for rule, places := range placesOfConstructors() {
		for _, ahead := range places {
			for s, at := range rows {
				for _, behind := range []string{"", "end", "val x = 7", "} ) ) end"} {
					refuses(t, rule, tokensOf(ahead+" "+s+" "+behind), 0, length(ahead)+at, api.ErrTwice)
					refuses(t, rule, tokensOf("= S "+ahead+" "+s+" "+behind), 2, length(ahead)+at+2, api.ErrTwice)
				}
			}
		}
	}
}

func TestTheErrorThatComesFirstIsTold(t *testing.T) {
	for rule, places := range placesOfConstructors() {
		for _, ahead := range places {
			for s, at := range map[string]int{"A A | A of int | A of int": 1, "A of int | | A of int": 4, "A of -> | A of int": 2, "A of int | A.A of int | A of int": 4, "A of int | B of ( | A of int": 7} {
				refuses(t, rule, tokensOf(ahead+" "+s), 0, length(ahead)+at, api.ErrParse)
			}
		}
	}
	twice := "datatype t = A of int | A of int"
	for s, at := range map[string]int{"val = 7": 1, "val x = )": 3, "open 7": 1, "type t": 2, "structure A = M.N : 7": 5} {
		refuses(t, "DECLS", tokensOf(s+" "+twice), 0, at, api.ErrParse)
		refuses(t, "DECLS", tokensOf(twice+" "+s), 0, 7, api.ErrTwice)
	}
	parses(t, "DECLS", "open M ) "+twice, 0, 2, node(api.DOpen, "M"))
	parses(t, "DECLS", "open M signature S = sig "+twice, 0, 2, node(api.DOpen, "M"))
	refuses(t, "TOPS", tokensOf("open M signature S = sig "+twice), 0, 13, api.ErrTwice)
	refuses(t, "MOD", tokensOf("struct ) "+twice), 0, 1, api.ErrParse)
	parses(t, "MOD", "M.N ( struct "+twice, 0, 1, path("M.N"))
	refuses(t, "MOD", tokensOf("M ( struct "+twice), 0, 10, api.ErrTwice)
}

// P8.1: names and long names.

// put tells a row's tokens, with another one in the place of ?, and that place.
func put(row string, x api.Token) ([]api.Token, int) {
	l := tokensOf(row)
	i := slices.IndexFunc(l, func(t api.Token) bool { return t.Text == "?" })
	l[i] = x
	return l, i
}

// placesOfNames are rows with a name without a dot in the place of ?.
func placesOfNames() map[string][]string {
	return map[string][]string{
		"MOD":   {"M : ?", "M :> ? : S", "F ( M : ? )", "struct val ? = 7 end", "struct structure ? = M end"},
		"SIG":   {"?", "? where type t = int", "sig val ? : int end", "sig type ? end", "sig type ? = int end", "sig datatype ? = A of int end", "sig datatype t = ? of int end", "sig datatype t = A of int | ? of int end", "sig structure ? : S end", "sig structure X : ? end", "sig structure X : ? where type t = int end", "sig include ? end", "sig type t val ? : t end"},
		"DECLS": {"val ? = 7", "val ? : int = 7", "type ? = int", "datatype ? = A of int", "datatype t = ? of int", "datatype t = A of int | ? of int", "structure ? = M", "structure X = M : ?", "val x = let ? = a in b end", "val x = fn ( ? : int ) => a", "type t = mu ? { A of int }", "open M val ? = 7"},
		"TOPS":  {"signature ? = S", "signature S = ?", "functor ? ( X : S ) = M", "functor F ( ? : S ) = M", "functor F ( X : ? ) = M", "functor F ( X : S ) = M : ?", "structure ? = M"},
	}
}

// placesOfLongNames are rows with any name in the place of ?.
func placesOfLongNames() map[string][]string {
	return map[string][]string{
		"MOD":   {"?", "? : S", "( ? )", "F ( ? )", "F ( ? : S )", "struct open ? end", "struct structure A = ? end", "M : S where type ? = int"},
		"SIG":   {"S where type ? = int", "S where type t = ?", "S where type t = int where type ? = int", "sig sharing type ? = t end", "sig sharing type t = ? end", "sig val x : ? end", "sig type t = ? end", "sig datatype t = A of ? end"},
		"DECLS": {"open ?", "include ?", "structure A = ?", "structure A = F ( ? )", "val x = ?", "val x = ? 7", "val x : ? = 7", "type t = ?", "open M include ?"},
		"TOPS":  {"functor F ( X : S ) = ?", "signature S = T where type ? = int", "open ? open M"},
	}
}

func textsOfNoName() []string {
	l := []string{
		"", ".", "..", "a.", ".a", "a..b", "a.b.", ".a.b", "7", "7a", "'", "'a", "a.7", "a.'b", "~7", "a b", "a ", " a", "a. b", "a\n", "(", ")", "#1", "->", "=>", ":>", "a->b", "\x00", "a\x00", "\xff", "a\xff", "\xc3", "\ufffd", "a.\ufffd", "\xed\xa0\x80",
		strings.Repeat("a", 33), "a." + strings.Repeat("a", 33), strings.Repeat("a", 33) + ".a", strings.Repeat("\u00e9", 16) + "a", strings.Repeat("abcdefg.", 16), strings.Repeat("abcdefg.", 15) + "abcdefghi", strings.Repeat("a.", 64) + "a", strings.Repeat("a", 129),
	}
	for _, s := range words {
		l = append(l, s, "a."+s, s+".a")
	}
	return l
}

func textsOfNames() []string {
	return []string{"a", "_", "A9'", "int'", "sig1", "\u00e9", "x'''", strings.Repeat("a", 32), strings.Repeat("\u00e9", 16)}
}

func textsOfSeveral() []string {
	return []string{"a.b", "a.a", "a.b.c", "_._'", "sig'.ends", "\u00e9.\u0080.x1", strings.Repeat("a", 32) + ".b", strings.Repeat("abcdefg.", 15) + "abcdefgh", strings.Repeat("a.", 63) + "aa"}
}

// isRefused asks that nothing goes on with a token in the place of ?.
func isRefused(t *testing.T, rule, row string, x api.Token) {
	t.Helper()
	l, at := put(row, x)
	refuses(t, rule, l, 0, at, api.ErrParse)
	refuses(t, rule, l[:at+1], 0, at, api.ErrParse)
	refuses(t, rule, append(make([]api.Token, 3), l...), 3, at+3, api.ErrParse)
}

// isTaken asks that a name is told where it stands in the place of ?.
func isTaken(t *testing.T, rule, row, name string) {
	t.Helper()
	plain, _ := put(row, api.Token{Kind: api.TkName, Text: "anyone"})
	l, _ := put(row, api.Token{Kind: api.TkName, Text: name})
	want := oracle(rule, plain, 0)
	if got := asked(rule, l, 0); got.trees != strings.ReplaceAll(want.trees, strconv.Quote("anyone"), strconv.Quote(name)) || got.next != len(l) || got.e != api.OK {
		t.Errorf("%s of %q, with %q: %s", rule, row, name, got.shown())
	}
}

func TestNamesWhereTheyAreAsked(t *testing.T) {
	for rule, rows := range placesOfNames() {
		for _, row := range rows {
			for _, s := range textsOfNames() {
				isTaken(t, rule, row, s)
			}
			for _, s := range slices.Concat(textsOfNoName(), textsOfSeveral()) {
				isRefused(t, rule, row, api.Token{Kind: api.TkName, Text: s})
			}
		}
	}
}

func TestLongNamesWhereTheyAreAsked(t *testing.T) {
	for rule, rows := range placesOfLongNames() {
		for _, row := range rows {
			for _, s := range slices.Concat(textsOfNames(), textsOfSeveral()) {
				isTaken(t, rule, row, s)
			}
			for _, s := range textsOfNoName() {
				isRefused(t, rule, row, api.Token{Kind: api.TkName, Text: s})
			}
		}
	}
}

func TestFunctorsThatAreNoNames(t *testing.T) {
	for _, s := range textsOfNames() {
		isTaken(t, "MOD", "? ( M )", s)
		isTaken(t, "DECLS", "structure A = ? ( M )", s)
	}
	for _, s := range textsOfSeveral() {
		l, _ := put("? ( M )", api.Token{Kind: api.TkName, Text: s})
		if got := asked("MOD", l, 0); got != (answer{text(path(s)), 1, api.OK}) {
			t.Error(got.shown())
		}
		l, at := put("struct structure A = ? ( M ) end", api.Token{Kind: api.TkName, Text: s})
		refuses(t, "MOD", l, 0, at+1, api.ErrParse)
	}
	for _, s := range textsOfNoName() {
		isRefused(t, "MOD", "? ( M )", api.Token{Kind: api.TkName, Text: s})
		isRefused(t, "DECLS", "structure A = ? ( M )", api.Token{Kind: api.TkName, Text: s})
	}
}

func TestOtherTokensWhereANameIsAsked(t *testing.T) {
	others := []api.Token{{}, {Kind: api.TkInt, N: 7, Text: "a"}, {Kind: api.TkKey, Text: "a"}, {Kind: 0, Text: "a"}, {Kind: 4, Text: "a"}, {Kind: -1, Text: "a"}, {Kind: math.MaxInt, Text: "a"}, {Kind: 1<<32 + 1, Text: "a"}, {Kind: api.TkKey, Text: "int'"}}
	for _, places := range []map[string][]string{placesOfNames(), placesOfLongNames()} {
		for rule, rows := range places {
			for _, row := range rows {
				for _, x := range others {
					if x.Kind == api.TkInt && strings.HasPrefix(row, "val x = ?") { // a number is an expression
						continue
					}
					isRefused(t, rule, row, x)
				}
			}
		}
	}
}

// P8.1: tokens of other kinds.

func TestTokensOfAnotherKind(t *testing.T) {
	for _, s := range []string{
		"struct val x : int = 7 type t = u datatype d = A of int | B of d structure A = M open A include M.N end", "( F ( M : S ) :> T )", "M :> S where type t = int : sig end",
		"sig val x : int type t type u = t datatype d = A of int | B of d structure X : S include S where type t = int sharing type t = X.u end", "S where type t = ( int ) where type X.t = int * t",
		"val x = f y structure A = struct open M end type t = int", "signature S = T functor F ( X : S ) = M : sig type t end signature T = S",
	} {
		l := tokensOf(s)
		for i := range l {
			for _, kind := range []int{0, 1, 2, 3, 4, -1, 9, math.MinInt, math.MaxInt, 1<<32 + 1, 1<<32 + 3, -1 << 32} {
				other := slices.Clone(l)
				other[i].Kind = kind
				for _, rule := range everyRule() {
					agreesAt(t, rule, other, 0)
					agreesAt(t, rule, other, i)
					if kind < 1 || kind > 3 {
						if got := asked(rule, other, 0); got.next > i {
							t.Errorf("%s of %q, kind %d at %d: %s", rule, s, kind, i, got.shown())
						}
					}
				}
			}
		}
	}
	for _, x := range []api.Token{{Kind: api.TkKey}, {Kind: api.TkName, Text: "struct"}, {Kind: 0, Text: "struct"}, {Kind: api.TkInt, Text: "struct"}, {Kind: api.TkKey, Text: "STRUCT"}, {Kind: api.TkKey, Text: "struct "}, {Kind: api.TkKey, Text: "sig'"}, {Kind: api.TkKey, Text: "open M"}, {Kind: 1<<32 + 3, Text: "sig"}} {
		refuses(t, "MOD", []api.Token{x, {Kind: api.TkKey, Text: "end"}}, 0, 0, api.ErrParse)
		refuses(t, "SIG", []api.Token{x, {Kind: api.TkKey, Text: "end"}}, 0, 0, api.ErrParse)
		refuses(t, "MOD", []api.Token{{Kind: api.TkKey, Text: "struct"}, x}, 0, 1, api.ErrParse)
		refuses(t, "SIG", []api.Token{{Kind: api.TkKey, Text: "sig"}, x}, 0, 1, api.ErrParse)
	}
}

// Where a token says that it begins changes nothing.
func TestPlacesInTokensChangeNothing(t *testing.T) {
	l := tokensOf("signature S = sig type t end functor F ( X : S ) = struct structure A = G ( X : S where type t = int ) open A end")
	want := asked("TOPS", l, 0)
	for i := range l {
		l[i].At = math.MinInt + i
	}
	if got := asked("TOPS", l, 0); got != want || got.e != api.OK {
		t.Error(got.shown())
	}
}
