package names_test

import (
	"slices"
	"strconv"
	"strings"
	"testing"

	"marquetry/api"
	"marquetry/lexer"
	"marquetry/names"
)

// P3.1.

func TestCheckTakesNames(t *testing.T) {
	for _, s := range rightNames() {
		if !names.Check(s) || !isName(s) {
			t.Errorf("Check(%q)", s)
		}
	}
}

func TestCheckRefuses(t *testing.T) {
	for _, s := range slices.Concat(wrongNames(), wrongLongs(), rightLongs()) {
		if names.Check(s) || isName(s) {
			t.Errorf("Check(%.200q)", s)
		}
	}
}

func TestNoWordIsAName(t *testing.T) {
	if len(words) != 29 {
		t.Error(len(words))
	}
	for _, w := range words {
		for _, s := range []string{w, w + ".a", "a." + w, "a." + w + ".b", w + "." + w} {
			if names.Check(s) || names.Long(s) || names.Split(s) != nil {
				t.Errorf("%q", s)
			}
		}
		for _, s := range []string{w + "'", w + "1", "a." + w + "s", strings.ToUpper(w) + "." + w + w} {
			if !names.Long(s) {
				t.Errorf("%q", s)
			}
		}
	}
}

func TestLongTakesLongNames(t *testing.T) {
	for _, s := range slices.Concat(rightNames(), rightLongs()) {
		if !names.Long(s) {
			t.Errorf("Long(%q)", s)
		}
	}
	for _, s := range longest() {
		if len(s) != api.MaxLong {
			t.Errorf("%q has %d bytes", s, len(s))
		}
	}
}

func TestLongRefuses(t *testing.T) {
	for _, s := range slices.Concat(wrongNames(), wrongLongs()) {
		if names.Long(s) {
			t.Errorf("Long(%.200q)", s)
		}
	}
}

func TestSplitTellsNames(t *testing.T) {
	for s, want := range map[string][]string{"a": {"a"}, "a.b": {"a", "b"}, "a.b.c": {"a", "b", "c"}, "A.x'.\u4e16": {"A", "x'", "\u4e16"}, "a.a": {"a", "a"}} {
		if l := names.Split(s); !slices.Equal(l, want) {
			t.Errorf("Split(%q) = %q", s, l)
		}
	}
	if l := names.Split(strings.Repeat("a.", 63) + "aa"); len(l) != 64 || l[0] != "a" || l[63] != "aa" {
		t.Errorf("%q", l)
	}
}

func TestSplitOfWhatIsNoLongName(t *testing.T) {
	for _, s := range slices.Concat(wrongNames(), wrongLongs()) {
		if l := names.Split(s); len(l) != 0 {
			t.Errorf("Split(%.200q) = %q", s, l)
		}
	}
}

func TestSplitHandsOutNewLists(t *testing.T) {
	clear(names.Split("a.b"))
	if l := names.Split("a.b"); !slices.Equal(l, []string{"a", "b"}) {
		t.Errorf("%q", l)
	}
}

func TestJoinTellsLongNames(t *testing.T) {
	for want, l := range map[string][]string{"a": {"a"}, "a.b": {"a", "b"}, "x'.x'.\u00e9": {"x'", "x'", "\u00e9"}, strings.Repeat("a.", 63) + "aa": append(slices.Repeat([]string{"a"}, 63), "aa"), piece(32) + "." + piece(32): {piece(32), piece(32)}} {
		if s, e := names.Join(l); s != want || e != api.OK {
			t.Errorf("Join(%q) = %q, %d", l, s, int(e))
		}
	}
}

func refusesToJoin(t *testing.T, l []string) {
	t.Helper()
	if s, e := names.Join(l); s != "" || e != api.ErrArg {
		t.Errorf("Join(%.200q) = %.200q, %d", l, s, int(e))
	}
}

func TestJoinRefuses(t *testing.T) {
	refusesToJoin(t, nil)
	refusesToJoin(t, []string{})
	for _, x := range slices.Concat(wrongNames(), []string{"a.b", ".", "a.", ".a"}) {
		refusesToJoin(t, []string{x})
		refusesToJoin(t, []string{x, "a"})
		refusesToJoin(t, []string{"a", x})
		refusesToJoin(t, []string{"a", x, "b"})
		refusesToJoin(t, []string{x, x})
	}
	for _, x := range longest() {
		refusesToJoin(t, []string{x})
		refusesToJoin(t, append(strings.Split(x, "."), "a"))
		refusesToJoin(t, append([]string{"a"}, strings.Split(x, ".")...))
	}
	refusesToJoin(t, append(slices.Repeat([]string{"a"}, 63), "aaa"))
	refusesToJoin(t, slices.Repeat([]string{"a"}, 65))
	refusesToJoin(t, slices.Repeat([]string{piece(32)}, 4))
	refusesToJoin(t, slices.Repeat([]string{"a"}, 1<<16))
}

func TestJoinLeavesItsList(t *testing.T) {
	l := []string{"a", "b", "val", "c"}
	if s, e := names.Join(l[:2]); s != "a.b" || e != api.OK {
		t.Error(s, int(e))
	}
	refusesToJoin(t, l[:3])
	if !slices.Equal(l, []string{"a", "b", "val", "c"}) {
		t.Errorf("%q", l)
	}
}

// P3.2.

func TestHeadAndRest(t *testing.T) {
	for s, want := range map[string][2]string{"a": {"a", ""}, "a.b": {"a", "b"}, "a.b.c": {"a", "b.c"}, "x'1.a.b.c": {"x'1", "a.b.c"}, "\u00e9.\u4e16": {"\u00e9", "\u4e16"}, "a.a": {"a", "a"}, piece(32) + "." + piece(32): {piece(32), piece(32)}} {
		if names.Head(s) != want[0] || names.Rest(s) != want[1] {
			t.Errorf("%q: %q, %q", s, names.Head(s), names.Rest(s))
		}
	}
	for _, s := range longest() {
		head, rest, _ := strings.Cut(s, ".")
		if names.Head(s) != head || names.Rest(s) != rest {
			t.Errorf("%q: %q, %q", s, names.Head(s), names.Rest(s))
		}
	}
}

func TestHeadAndRestOfWhatIsNoLongName(t *testing.T) {
	for _, s := range slices.Concat(wrongNames(), wrongLongs()) {
		if names.Head(s) != "" || names.Rest(s) != "" {
			t.Errorf("%.200q: %.200q, %.200q", s, names.Head(s), names.Rest(s))
		}
	}
}

// P3.3.

func TestUnder(t *testing.T) {
	for _, x := range [][2]string{{"a", "a"}, {"a.b", "a"}, {"a.b", "a.b"}, {"a.b.c", "a"}, {"a.b.c", "a.b"}, {"a.a", "a"}, {"a.b.a.b", "a.b"}, {"a1.b", "a1"}, {"\u00e9.a", "\u00e9"}} {
		if !names.Under(x[0], x[1]) {
			t.Errorf("Under(%q, %q)", x[0], x[1])
		}
	}
	for _, s := range longest() {
		if !names.Under(s, s) || !names.Under(s, names.Head(s)) || !names.Under(s, s[:strings.LastIndex(s, ".")]) {
			t.Errorf("%q", s)
		}
	}
}

func TestNotUnder(t *testing.T) {
	for _, x := range [][2]string{{"a", "b"}, {"a", "a.b"}, {"ab", "a"}, {"a", "ab"}, {"a'", "a"}, {"a1", "a"}, {"a.bc", "a.b"}, {"a.b'", "a.b"}, {"ab.c", "a"}, {"ab.c", "a.c"}, {"b.a", "a"}, {"a.b", "b"}, {"a.b.c", "b.c"}, {"a.b", "A"}, {"a\u0301", "a"}, {"a\u0301.b", "a"}, {"a", "aa"}} {
		if names.Under(x[0], x[1]) {
			t.Errorf("Under(%q, %q)", x[0], x[1])
		}
	}
}

func TestUnderOfWhatIsNoLongName(t *testing.T) {
	for _, x := range slices.Concat(wrongNames(), wrongLongs()) {
		for _, p := range [][2]string{{x, x}, {x, "a"}, {"a", x}, {"a.b", x}, {x, ""}, {"", x}, {x, "a.b"}, {x + ".a", x}, {"a." + x, "a"}, {x, strings.TrimSuffix(x, "a")}} {
			if names.Under(p[0], p[1]) {
				t.Errorf("Under(%.200q, %.200q)", p[0], p[1])
			}
		}
	}
}

func moves(t *testing.T, s, from, to, want string, wanted api.Errno) {
	t.Helper()
	if got, e := names.Move(s, from, to); got != want || e != wanted {
		t.Errorf("Move(%.200q, %.200q, %.200q) = %.200q, %d", s, from, to, got, int(e))
	}
}

func TestMove(t *testing.T) {
	moves(t, "a.b.c", "a.b", "x", "x.c", api.OK)
	moves(t, "a", "a", "x", "x", api.OK)
	moves(t, "a", "a", "x.y", "x.y", api.OK)
	moves(t, "a.b", "a.b", "x", "x", api.OK)
	moves(t, "a.b", "a", "x.y.z", "x.y.z.b", api.OK)
	moves(t, "a.a.a", "a", "b", "b.a.a", api.OK)
	moves(t, "a.b.a.b", "a.b", "a", "a.a.b", api.OK)
	moves(t, "a.b", "a", "a", "a.b", api.OK)
	moves(t, "a.b", "a", "a.b", "a.b.b", api.OK)
	moves(t, "\u00e9.b", "\u00e9", "\u4e16.\U0001f600", "\u4e16.\U0001f600.b", api.OK)
}

func TestMoveRefuses(t *testing.T) {
	for _, x := range [][3]string{{"a", "b", "c"}, {"a.b", "b", "c"}, {"ab", "a", "c"}, {"a", "a.b", "c"}, {"a.bc", "a.b", "c"}, {"ab.c", "a", "x"}, {"a", "b", piece(33)}} {
		moves(t, x[0], x[1], x[2], "", api.ErrArg)
	}
	for _, x := range slices.Concat(wrongNames(), wrongLongs()) {
		moves(t, x, x, "a", "", api.ErrArg)
		moves(t, x, "a", "b", "", api.ErrArg)
		moves(t, "a", x, "b", "", api.ErrArg)
		moves(t, "a.b", x, "b", "", api.ErrArg)
		moves(t, "a", "a", x, "", api.ErrArg)
		moves(t, "a.b", "a", x, "", api.ErrArg)
		moves(t, "a.b", "c", x, "", api.ErrArg)
		moves(t, x, x, x, "", api.ErrArg)
	}
}

func TestMoveAtTheLimit(t *testing.T) {
	for _, s := range longest() {
		head, rest := names.Head(s), names.Rest(s)
		moves(t, s, head, piece(len(head)), piece(len(head))+"."+rest, api.OK)
		moves(t, s, s, "a", "a", api.OK)
		moves(t, "a", "a", s, s, api.OK)
		moves(t, s, s, s, s, api.OK)
		moves(t, "a.b", "a", s, "", api.ErrLong)
		moves(t, s, head, head+".a", "", api.ErrLong)
		moves(t, s, head, s, "", api.ErrLong)
	}
	s := strings.Repeat("a.", 63) + "aa"
	moves(t, s, "a", "b", "b"+s[1:], api.OK)
	moves(t, s, "a", "bb", "", api.ErrLong)
	moves(t, s, "a", "\u00e9", "", api.ErrLong)
	moves(t, s[:127], "a", "bb", "bb"+s[1:127], api.OK)
	moves(t, s[:127], "a", "bbb", "", api.ErrLong)
}

// A wrong argument is told ahead of what is too long.
func TestMoveTellsErrArgFirst(t *testing.T) {
	long := longest()[0]
	moves(t, "a.b", "b", long, "", api.ErrArg)
	moves(t, "a.b", "a", long+"a", "", api.ErrArg)
	moves(t, "a."+long, "a", long, "", api.ErrArg)
}

// P3.4.

func fresh(t *testing.T, base string, taken []string, want string, wanted api.Errno) {
	t.Helper()
	had := slices.Clone(taken)
	if s, e := names.Fresh(base, taken); s != want || e != wanted {
		t.Errorf("Fresh(%.200q, %.200q) = %.200q, %d", base, taken, s, int(e))
	}
	if !slices.Equal(taken, had) {
		t.Errorf("Fresh changed its list: %.200q", taken)
	}
}

// numbered are base, and base with each number up to n behind it.
func numbered(base string, n int) []string {
	l := []string{base}
	for i := 1; i <= n; i++ {
		l = append(l, base+strconv.Itoa(i))
	}
	return l
}

func TestFresh(t *testing.T) {
	fresh(t, "a", nil, "a", api.OK)
	fresh(t, "a", []string{}, "a", api.OK)
	fresh(t, "a", []string{"b", "a1", "a2"}, "a", api.OK)
	fresh(t, "a", []string{"a"}, "a1", api.OK)
	fresh(t, "a", []string{"a", "a1"}, "a2", api.OK)
	fresh(t, "M", []string{"M1", "M", "M2"}, "M3", api.OK)
	fresh(t, "a", []string{"a3", "a", "a1", "b", "a1", "a"}, "a2", api.OK)
	fresh(t, "a", []string{"a", "a", "a"}, "a1", api.OK)
	fresh(t, "a", []string{"a", "a0", "a01", "a001", "A1"}, "a1", api.OK)
	fresh(t, "a1", []string{"a1", "a2"}, "a11", api.OK)
	fresh(t, "x'", []string{"x'"}, "x'1", api.OK)
	fresh(t, "\u4e16", []string{"\u4e16", "\u4e161"}, "\u4e162", api.OK)
	fresh(t, "vals", []string{"val", "vals"}, "vals1", api.OK)
}

func TestFreshBehindManyTaken(t *testing.T) {
	for _, n := range []int{8, 9, 10, 11, 98, 99, 100, 2000, 1 << 16} {
		l := numbered("ab", n)
		fresh(t, "ab", l, "ab"+strconv.Itoa(n+1), api.OK)
		slices.Reverse(l)
		fresh(t, "ab", l, "ab"+strconv.Itoa(n+1), api.OK)
		fresh(t, "ab", slices.Delete(slices.Clone(l), 1, 2), "ab"+strconv.Itoa(n-1), api.OK)
		fresh(t, "ab", append(slices.Repeat([]string{"ab"}, n), l...), "ab"+strconv.Itoa(n+1), api.OK)
		fresh(t, "ab", l[:n], "ab", api.OK)
	}
}

func TestFreshOfTakenThatAreNoNames(t *testing.T) {
	l := []string{"", "val", "a.b", "a.1", "\xff", "a ", " a", piece(1 << 16)}
	fresh(t, "a", l, "a", api.OK)
	fresh(t, "a", append(l, "a", "a1"), "a2", api.OK)
}

func TestFreshAtTheLimitOfNames(t *testing.T) {
	for _, most := range []string{piece(32), strings.Repeat("\u00e9", 16), strings.Repeat("\U0001f600", 8), "a" + strings.Repeat("9", 31)} {
		fresh(t, most, nil, most, api.OK)
		fresh(t, most, []string{most + "1", "a"}, most, api.OK)
		fresh(t, most, []string{most}, "", api.ErrLong)
		fresh(t, most, numbered(most, 3), "", api.ErrLong)
	}
	fresh(t, piece(31), []string{piece(31)}, piece(31)+"1", api.OK)
	fresh(t, piece(31), numbered(piece(31), 8), piece(31)+"9", api.OK)
	fresh(t, piece(31), numbered(piece(31), 9), "", api.ErrLong)
	fresh(t, piece(31), numbered(piece(31), 20), "", api.ErrLong)
	fresh(t, piece(30), numbered(piece(30), 98), piece(30)+"99", api.OK)
	fresh(t, piece(30), numbered(piece(30), 99), "", api.ErrLong)
}

func TestFreshRefuses(t *testing.T) {
	for _, x := range slices.Concat(wrongNames(), wrongLongs(), rightLongs()) {
		fresh(t, x, nil, "", api.ErrArg)
		fresh(t, x, []string{x}, "", api.ErrArg)
		fresh(t, x, []string{"a"}, "", api.ErrArg)
	}
}

// What lies behind a list's length is not taken.
func TestFreshReadsNoFurther(t *testing.T) {
	l := []string{"a", "a1", "a2"}
	fresh(t, "a", l[:0], "a", api.OK)
	fresh(t, "a", l[:1], "a1", api.OK)
	fresh(t, "a", l[:2], "a2", api.OK)
}

// P3.5.

func TestWhatIsSplitIsJoined(t *testing.T) {
	for _, s := range slices.Concat(rightNames(), rightLongs()) {
		l := names.Split(s)
		if got, e := names.Join(l); got != s || e != api.OK {
			t.Errorf("%q: %q, %q, %d", s, l, got, int(e))
		}
		if again := names.Split(strings.Join(l, ".")); !slices.Equal(again, l) {
			t.Errorf("%q: %q", l, again)
		}
	}
}

func TestWhatIsMovedThereAndBack(t *testing.T) {
	for _, s := range slices.Concat(rightNames(), rightLongs()) {
		l := names.Split(s)
		for n := range l {
			from, _ := names.Join(l[:n+1])
			for _, to := range []string{"x", "a", "x.y", "a.b.c", from, s} {
				there, e := names.Move(s, from, to)
				if e == api.ErrLong {
					continue
				}
				if back, again := names.Move(there, to, from); e != api.OK || back != s || again != api.OK {
					t.Errorf("%q, %q, %q: %q, %q, %d, %d", s, from, to, there, back, int(e), int(again))
				}
			}
		}
	}
}

func TestAFreshNameIsNotTaken(t *testing.T) {
	for _, base := range rightNames() {
		var taken []string
		for range 40 {
			s, e := names.Fresh(base, taken)
			if e == api.ErrLong {
				break
			}
			if e != api.OK || slices.Contains(taken, s) || !isName(s) || !strings.HasPrefix(s, base) {
				t.Fatalf("Fresh(%q, %q) = %q, %d", base, taken, s, int(e))
			}
			taken = append(taken, s)
		}
		if want := numbered(base, len(taken)-1); !slices.Equal(taken, want) {
			t.Errorf("%q: %q", base, taken)
		}
	}
}

// All promises, held against the oracle.

func TestOracleOfParts(t *testing.T) {
	eachRow(5, []string{"a", "val", ".", "..", "1", "'", "\u00e9", "\xc3", " ", "_"}, func(s string) {
		l := namesOf(s)
		if names.Check(s) != isName(s) || names.Long(s) != (l != nil) || !slices.Equal(names.Split(s), l) {
			t.Fatalf("%q: %v, %v, %q", s, names.Check(s), names.Long(s), names.Split(s))
		}
		var head, rest string
		if l != nil {
			head, rest = l[0], strings.Join(l[1:], ".")
		}
		if names.Head(s) != head || names.Rest(s) != rest {
			t.Fatalf("%q: %q, %q", s, names.Head(s), names.Rest(s))
		}
	})
}

func TestOracleOfMoves(t *testing.T) {
	var all []string
	eachRow(4, []string{"a", "b", ".", "of"}, func(s string) { all = append(all, s) })
	for _, s := range all {
		for _, from := range all {
			if under := begins(namesOf(s), namesOf(from)); names.Under(s, from) != under {
				t.Fatalf("Under(%q, %q) is not %v", s, from, under)
			}
			for _, to := range []string{"x", "x.y", "a", "a.b", "", "of", "x.", longest()[0]} {
				want, e := moved(s, from, to)
				moves(t, s, from, to, want, e)
			}
		}
	}
}

// Each length up to the limits, and beyond them.
func TestOracleOfLengths(t *testing.T) {
	for n := range 40 {
		s := piece(n)
		if names.Check(s) != isName(s) {
			t.Errorf("%d bytes: %v", n, names.Check(s))
		}
	}
	for n := range 140 {
		s := strings.Repeat("a.", 70)[:n]
		if !strings.HasSuffix(s, "a") {
			s = strings.TrimSuffix(s, ".a.") + ".aa"
		}
		if l := namesOf(s); names.Long(s) != (l != nil) || !slices.Equal(names.Split(s), l) {
			t.Errorf("%d bytes: %v", n, names.Long(s))
		}
		for _, to := range []int{1, 2, 3, 31, 32, 33} {
			want, e := moved(s, "a", piece(to))
			moves(t, s, "a", piece(to), want, e)
		}
	}
}

// A fresh name's number is written as lexer.Number writes it.
func TestFreshNumbers(t *testing.T) {
	for n := 1; n < 1200; n += 7 {
		fresh(t, "a", numbered("a", n-1), "a"+lexer.Number(n), api.OK)
	}
}
