package runes_test

// oracle_test.go tells by the table of well-formed sequences, byte by byte, what the package should tell: it leans on nothing of the library that the package may lean on.

type span struct{ low, high byte }

// sequence is a row of Unicode's table of well-formed UTF-8: the first byte, and what may follow.
type sequence struct {
	lead  byte
	first span
	rest  []span
}

var goOn = span{0x80, 0xbf}

func sequences() []sequence {
	return []sequence{
		{0x00, span{0x00, 0x7f}, nil},
		{0xc0, span{0xc2, 0xdf}, []span{goOn}},
		{0xe0, span{0xe0, 0xe0}, []span{{0xa0, 0xbf}, goOn}},
		{0xe0, span{0xe1, 0xec}, []span{goOn, goOn}},
		{0xe0, span{0xed, 0xed}, []span{{0x80, 0x9f}, goOn}},
		{0xe0, span{0xee, 0xef}, []span{goOn, goOn}},
		{0xf0, span{0xf0, 0xf0}, []span{{0x90, 0xbf}, goOn, goOn}},
		{0xf0, span{0xf1, 0xf3}, []span{goOn, goOn, goOn}},
		{0xf0, span{0xf4, 0xf4}, []span{{0x80, 0x8f}, goOn, goOn}},
	}
}

func (x span) has(b byte) bool { return x.low <= b && b <= x.high }

// begins tells the rune that a text begins with, and its bytes; 0 bytes, if it begins with none.
func begins(s string) (rune, int) {
	for _, q := range sequences() {
		if len(s) <= len(q.rest) || !q.first.has(s[0]) {
			continue
		}
		r := rune(s[0] - q.lead)
		right := true
		for i, x := range q.rest {
			right = right && x.has(s[i+1])
			r = r<<6 | rune(s[i+1]&0x3f)
		}
		if right {
			return r, len(q.rest) + 1
		}
	}
	return 0, 0
}

// decoded tells a text's runes and where each begins; wrong: the first byte that begins none, or -1.
func decoded(s string) (l []rune, at []int, wrong int) {
	for i := 0; i < len(s); {
		r, n := begins(s[i:])
		if n == 0 {
			return l, at, i
		}
		l, at = append(l, r), append(at, i)
		i += n
	}
	return l, at, -1
}

// encoded writes runes as UTF-8.
func encoded(l []rune) string {
	var b []byte
	for _, r := range l {
		switch {
		case r < 0x80:
			b = append(b, byte(r))
		case r < 0x800:
			b = append(b, 0xc0|byte(r>>6), 0x80|byte(r&0x3f))
		case r < 0x10000:
			b = append(b, 0xe0|byte(r>>12), 0x80|byte(r>>6&0x3f), 0x80|byte(r&0x3f))
		default:
			b = append(b, 0xf0|byte(r>>18), 0x80|byte(r>>12&0x3f), 0x80|byte(r>>6&0x3f), 0x80|byte(r&0x3f))
		}
	}
	return string(b)
}

// edgeBytes are those at which the table's rows begin and end, and some within.
var edgeBytes = []byte{0x00, 0x09, 0x0a, 0x1f, 0x20, '\'', '0', 'A', '_', 'z', 0x7f, 0x80, 0x8f, 0x90, 0x9f, 0xa0, 0xbd, 0xbf, 0xc0, 0xc1, 0xc2, 0xdf, 0xe0, 0xe1, 0xec, 0xed, 0xee, 0xef, 0xf0, 0xf1, 0xf3, 0xf4, 0xf5, 0xff}

// eachEdge hands on each row of up to n edge bytes.
func eachEdge(n int, f func(s string)) {
	var grow func(b []byte)
	grow = func(b []byte) {
		f(string(b))
		if len(b) == n {
			return
		}
		for _, x := range edgeBytes {
			grow(append(b[:len(b):len(b)], x))
		}
	}
	grow(nil)
}

// wrongTexts are bytes that are no text, with the place of the first byte that begins no rune.
func wrongTexts() map[string]int {
	return map[string]int{
		"\x80": 0, "\xbf": 0, "a\x80": 1, "\u00e9\x80": 2, // goes on, where nothing began
		"\xc0\x80": 0, "\xc1\xbf": 0, "a\xe0\x80\x80": 1, "\xe0\x9f\xbf": 0, "\xf0\x80\x80\x80": 0, "\xf0\x8f\xbf\xbf": 0, // overlong
		"\xed\xa0\x80": 0, "\xed\xaf\xbf": 0, "x\xed\xb0\x80": 1, "\xed\xbf\xbf": 0, "\xed\xa0\xbd\xed\xb8\x80": 0, // halves of surrogates
		"\xf4\x90\x80\x80": 0, "\xf5\x80\x80\x80": 0, "\xf8\x88\x80\x80\x80": 0, "\xfe": 0, "\xff": 0, "ab\xff": 2, // beyond U+10FFFF
		"\xc3": 0, "\xe4\xb8": 0, "ab\xf0\x9f\x98": 2, "\u4e16\xe4": 3, "\xc3a": 0, "\xe4\xb8a": 0, "\xe4a\x96": 0, "\xf0\x9f\x98a": 0, // cut
	}
}
