package class_test

import (
	"fmt"
	"math"
	"math/rand"
	"regexp"
	"runtime"
	"slices"
	"sort"
	"strconv"
	"strings"
	"testing"
	"unicode/utf8"

	"gauger/api"
	"gauger/class"
)

// The text of the set without members, as the chapter gives it.
const emptyText = `[^\x{0}-\x{10FFFF}]`

// isPoint tells by the chapter whether a number is a code point.
func isPoint(c int) bool { return c >= 0 && c <= 1114111 && !(c >= 55296 && c <= 57343) }

// isIn tells whether a code point is in one of some ranges.
func isIn(l []class.Range, c int) bool {
	return isPoint(c) && slices.ContainsFunc(l, func(r class.Range) bool { return r.Lo <= c && c <= r.Hi })
}

// isRight tells by the chapter whether a set is right.
func isRight(l []class.Range) bool {
	for i, r := range l {
		if !isPoint(r.Lo) || !isPoint(r.Hi) || r.Lo > r.Hi || r.Lo < 55296 && r.Hi > 57343 || i > 0 && r.Lo <= l[i-1].Hi+1 {
			return false
		}
	}
	return true
}

// of returns ranges: Lo and Hi, in turn.
func of(l ...int) []class.Range {
	var out []class.Range
	for i := 0; i < len(l); i += 2 {
		out = append(out, class.Range{Lo: l[i], Hi: l[i+1]})
	}
	return out
}

// near returns numbers on both sides of all borders: what ranges have in common is the same everywhere between them.
func near(lists ...[]class.Range) []int {
	l := []int{-1, 0, 1, 55295, 55296, 57343, 57344, 1114110, 1114111, 1114112}
	for _, list := range lists {
		for _, r := range list {
			l = append(l, r.Lo-1, r.Lo, r.Lo+1, r.Hi-1, r.Hi, r.Hi+1)
		}
	}
	sort.Ints(l)
	return slices.Compact(l)
}

// checkSet holds a result against what its members must be; lists are the ranges on which these depend.
func checkSet(t *testing.T, got []class.Range, wanted func(c int) bool, lists ...[]class.Range) {
	t.Helper()
	if !isRight(got) {
		t.Fatalf("%v: %v is not right", lists, got)
	}
	for _, c := range near(append(lists, got)...) {
		if want := isPoint(c) && wanted(c); isIn(got, c) != want {
			t.Fatalf("%v: %v has %d: %t", lists, got, c, !want)
		}
	}
}

// borders are numbers near which something changes; many of them are close together.
var borders = []int{0, 1, 2, 3, 4, 5, 6, 7, 47, 48, 57, 58, 127, 128, 55000, 55294, 55295, 55296, 55297, 56000, 57342, 57343, 57344, 57345, 60000, 65533, 1114109, 1114110, 1114111}

// anyRanges returns up to n ranges from 0 to MaxPoint.
func anyRanges(r *rand.Rand, n int) []class.Range {
	var l []class.Range
	for range r.Intn(n + 1) {
		lo, hi := borders[r.Intn(len(borders))], borders[r.Intn(len(borders))]
		if r.Intn(4) == 0 {
			hi = lo
		}
		l = append(l, class.Range{Lo: min(lo, hi), Hi: max(lo, hi)})
	}
	return l
}

// anySet returns a right set of some of the code points at borders, and perhaps of those between them.
func anySet(r *rand.Rand) []class.Range {
	var l []class.Range
	for i, c := range borders {
		if !isPoint(c) || r.Intn(2) == 0 {
			continue
		}
		last := len(l) - 1
		joined := i > 0 && last >= 0 && l[last].Hi == borders[i-1] && !(l[last].Hi < 55296 && c > 57343)
		if joined && (c == l[last].Hi+1 || r.Intn(2) == 0) {
			l[last].Hi = c
		} else {
			l = append(l, class.Range{Lo: c, Hi: c})
		}
	}
	return l
}

// wrongSets are sets that are not right, for each reason.
func wrongSets() [][]class.Range {
	return [][]class.Range{
		of(-1, 5), of(-2, -1), of(5, 4), of(0, 1114112), of(1114112, 1114112), of(1114112, 1114113), of(55296, 55296), of(57343, 57343), of(55295, 55296), of(57343, 57344),
		of(55295, 57344), of(0, 1114111), of(55000, 60000), of(56000, 56001), of(1, 2, 3, 4), of(1, 2, 2, 3), of(1, 5, 2, 3), of(3, 4, 1, 1), of(1, 1, 1, 1), of(1, 1, 2, 2),
		of(10, 20, 5, 7), of(1, 2, 9, 8), of(1, 2, 4, 5, 6, 7), of(1, 2, 5, 7, -1, -1), of(0, 0, 1114111, 1114112), of(1, 2, 55296, 57343), of(math.MinInt, math.MaxInt), of(math.MaxInt, math.MaxInt),
		of(math.MinInt, 5), of(5, math.MaxInt), of(math.MaxInt, math.MinInt), of(1, 1, math.MinInt, 1), of(0, 0, 0, 0),
	}
}

func TestConstants(t *testing.T) {
	if class.MaxPoint != 1114111 || class.MaxRanges != 4096 || class.ErrSet != 60 || class.ErrText != 61 {
		t.Error(class.MaxPoint, class.MaxRanges, class.ErrSet, class.ErrText)
	}
}

// P6.1: sets at the borders of what is right.
func TestRight(t *testing.T) {
	for _, l := range [][]class.Range{
		nil, {}, of(0, 0), of(1114111, 1114111), of(0, 55295), of(57344, 1114111), of(0, 55295, 57344, 1114111), of(55295, 55295, 57344, 57344), of(1, 2, 4, 5), of(1, 1, 3, 3, 5, 5), of(0, 0, 2, 1000, 60000, 60000),
	} {
		if !class.Right(l) || !isRight(l) {
			t.Error(l)
		}
	}
	for _, l := range wrongSets() {
		if class.Right(l) || isRight(l) {
			t.Error(l)
		}
	}
}

// P6.1: all sets of one and two ranges between borders, and many others, against the definition.
func TestRightAgainstDefinition(t *testing.T) {
	numbers := []int{math.MinInt, -2, -1, 0, 1, 2, 3, 55294, 55295, 55296, 57343, 57344, 57345, 1114110, 1114111, 1114112, math.MaxInt}
	var ranges []class.Range
	for _, lo := range numbers {
		for _, hi := range numbers {
			ranges = append(ranges, class.Range{Lo: lo, Hi: hi})
		}
	}
	check := func(l ...class.Range) {
		if class.Right(l) != isRight(l) {
			t.Fatal(l, class.Right(l))
		}
	}
	for _, a := range ranges {
		check(a)
		for _, b := range ranges {
			check(a, b)
		}
	}
	r := rand.New(rand.NewSource(61))
	right := 0
	for range 20000 {
		l := anySet(r)
		for range r.Intn(4) {
			if len(l) > 0 {
				i := r.Intn(len(l))
				l[i].Lo, l[i].Hi = l[i].Lo-r.Intn(3), l[i].Hi+r.Intn(3)
			}
		}
		check(l...)
		if isRight(l) {
			right++
		}
	}
	if right < 4000 || right > 16000 {
		t.Error("too few sets of one sort: right of 20000 are", right)
	}
}

// P6.1: ranges that have something in common, are next to each other, or have surrogates; the examples of the chapter.
func TestOf(t *testing.T) {
	for _, c := range []struct{ l, want []class.Range }{
		{nil, nil}, {of(3, 3), of(3, 3)}, {of(5, 9, 7, 12, 14, 14), of(5, 12, 14, 14)}, {of(5, 9, 7, 12, 14, 14, 13, 13), of(5, 14)}, {of(55000, 60000), of(55000, 55295, 57344, 60000)},
		{of(55296, 57343), nil}, {of(55296, 55296), nil}, {of(56000, 57343), nil}, {of(55295, 55296), of(55295, 55295)}, {of(57343, 57344), of(57344, 57344)}, {of(55295, 57344), of(55295, 55295, 57344, 57344)},
		{of(0, 55295, 57344, 1114111), of(0, 55295, 57344, 1114111)}, {of(0, 1114111), of(0, 55295, 57344, 1114111)}, {of(1114111, 1114111, 0, 0), of(0, 0, 1114111, 1114111)},
		{of(1, 9, 2, 3, 5, 5), of(1, 9)}, {of(2, 3, 1, 9), of(1, 9)}, {of(1, 1, 1, 1, 1, 1), of(1, 1)}, {of(3, 4, 1, 2), of(1, 4)}, {of(4, 4, 1, 2), of(1, 2, 4, 4)}, {of(1, 5, 5, 9), of(1, 9)}, {of(1, 5, 1, 9, 1, 7), of(1, 9)},
		{of(55000, 56000, 56500, 60000), of(55000, 55295, 57344, 60000)},
	} {
		got, e := class.Of(c.l)
		if !slices.Equal(got, c.want) || e != api.OK {
			t.Errorf("%v: %v %d, not %v", c.l, got, e, c.want)
		}
	}
}

// P6.1: many ranges against the definition.
func TestOfAgainstDefinition(t *testing.T) {
	r := rand.New(rand.NewSource(62))
	for range 20000 {
		l := anyRanges(r, 8)
		got, e := class.Of(l)
		if e != api.OK || !class.Right(got) {
			t.Fatalf("%v: %v %d", l, got, e)
		}
		checkSet(t, got, func(c int) bool { return isIn(l, c) }, l)
	}
}

// P6.1 and R2: ranges that are no ranges of numbers up to MaxPoint, wherever they stand.
func TestOfWrongRanges(t *testing.T) {
	for _, x := range []class.Range{{Lo: -1, Hi: 0}, {Lo: -1, Hi: -1}, {Lo: 1, Hi: 0}, {Lo: 57344, Hi: 55295}, {Lo: 0, Hi: 1114112}, {Lo: 1114112, Hi: 1114112}, {Lo: math.MinInt, Hi: math.MaxInt}, {Lo: 0, Hi: math.MaxInt}, {Lo: math.MinInt, Hi: 0}, {Lo: math.MaxInt, Hi: math.MinInt}, {Lo: 56000, Hi: 55999}} {
		for _, l := range [][]class.Range{{x}, append(of(1, 2, 3, 4), x), append([]class.Range{x}, of(1, 2)...)} {
			if got, e := class.Of(l); len(got) != 0 || e != api.ErrArg {
				t.Errorf("%v: %v %d", l, got, e)
			}
		}
	}
}

// P6.1, R2 and Limits: as many ranges as there may be, and one more, which goes before what is wrong with them.
func TestOfMany(t *testing.T) {
	var l, want []class.Range
	for i := range 4097 {
		at := 3 * (i * 2731 % 4097)
		l = append(l, class.Range{Lo: at, Hi: at + 1})
		want = append(want, class.Range{Lo: 3 * i, Hi: 3*i + 1})
	}
	last := l[4096].Lo / 3
	want = slices.Delete(want, last, last+1)
	if got, e := class.Of(l[:4096]); !slices.Equal(got, want) || e != api.OK {
		t.Error(len(got), e)
	}
	if got, e := class.Of(l); len(got) != 0 || e != api.ErrMany {
		t.Error(len(got), e)
	}
	l[0] = class.Range{Lo: -1, Hi: -2}
	if got, e := class.Of(l); len(got) != 0 || e != api.ErrMany {
		t.Error(len(got), e)
	}
	if got, e := class.Of(l[:4096]); len(got) != 0 || e != api.ErrArg {
		t.Error(len(got), e)
	}
	if got, e := class.Of(slices.Repeat(of(1, 1), 4097)); len(got) != 0 || e != api.ErrMany {
		t.Error(len(got), e)
	}
}

// P6.2: each number from below 0 to beyond MaxPoint.
func TestEachNumber(t *testing.T) {
	for _, l := range [][]class.Range{nil, of(0, 0), of(48, 58, 95, 122), of(0, 55295, 57344, 1114111), of(1, 1, 3, 3, 55295, 55295, 57344, 57345, 1114111, 1114111), of(1000, 50000)} {
		count, next, found := 0, 0, false
		for c := 1114115; c >= -3; c-- {
			has := isIn(l, c)
			if has {
				count, next, found = count+1, c, true
			}
			if n, ok := class.Next(l, c); class.Has(l, c) != has || n != next || ok != found {
				t.Fatalf("%v %d: %t %d %t", l, c, class.Has(l, c), n, ok)
			}
		}
		if n := class.Count(l); n != count {
			t.Errorf("%v: %d, not %d", l, n, count)
		}
	}
	if n := class.Count(of(55000, 55295, 57344, 60000)); n != 2953 {
		t.Error(n)
	}
}

// P6.2: the least and the greatest numbers.
func TestNextOfAnyNumber(t *testing.T) {
	l := of(7, 9, 1114111, 1114111)
	for _, x := range []struct {
		c, next int
		ok      bool
	}{{math.MinInt, 7, true}, {-1, 7, true}, {7, 7, true}, {9, 9, true}, {10, 1114111, true}, {1114111, 1114111, true}, {1114112, 0, false}, {1 << 32, 0, false}, {1<<32 + 7, 0, false}, {math.MaxInt, 0, false}} {
		if n, ok := class.Next(l, x.c); n != x.next || ok != x.ok || class.Has(l, x.c) != (x.ok && x.next == x.c) {
			t.Error(x, n, ok, class.Has(l, x.c))
		}
	}
}

// P6.2 and P6.3: sets that are not right have no members, and no results, on either side.
func TestWrongSets(t *testing.T) {
	right := of(1, 2, 5, 7)
	for _, l := range wrongSets() {
		for _, c := range append(near(l), math.MinInt, math.MaxInt) {
			if n, ok := class.Next(l, c); class.Has(l, c) || n != 0 || ok {
				t.Errorf("%v %d: %t %d %t", l, c, class.Has(l, c), n, ok)
			}
		}
		if n := class.Count(l); n != 0 {
			t.Errorf("%v: %d", l, n)
		}
		for i, of := range []func(a, b []class.Range) ([]class.Range, api.Errno){class.Or, class.And, class.Minus} {
			for _, x := range [][2][]class.Range{{l, right}, {right, l}, {l, nil}, {nil, l}, {l, l}} {
				if got, e := of(x[0], x[1]); len(got) != 0 || e != class.ErrSet {
					t.Errorf("%d: %v: %v %d", i, x, got, e)
				}
			}
		}
		if got, e := class.Not(l); len(got) != 0 || e != class.ErrSet {
			t.Errorf("%v: %v %d", l, got, e)
		}
		if s, e := class.Text(l); s != "" || e != class.ErrSet {
			t.Errorf("%v: %q %d", l, s, e)
		}
	}
}

// P6.3: sets that touch, and sets without members or with all code points.
func TestOfTwo(t *testing.T) {
	all := of(0, 55295, 57344, 1114111)
	for _, c := range []struct{ a, b, or, and, minus []class.Range }{
		{nil, nil, nil, nil, nil}, {of(1, 5), nil, of(1, 5), nil, of(1, 5)}, {nil, of(1, 5), of(1, 5), nil, nil}, {all, all, all, all, nil}, {all, nil, all, nil, all}, {nil, all, all, nil, nil},
		{of(1, 5), of(6, 9), of(1, 9), nil, of(1, 5)}, {of(1, 5), of(5, 9), of(1, 9), of(5, 5), of(1, 4)}, {of(1, 5), of(7, 9), of(1, 5, 7, 9), nil, of(1, 5)}, {of(6, 9), of(1, 5), of(1, 9), nil, of(6, 9)},
		{of(1, 9), of(3, 4), of(1, 9), of(3, 4), of(1, 2, 5, 9)}, {of(3, 4), of(1, 9), of(1, 9), of(3, 4), nil}, {of(1, 2, 4, 5), of(3, 3), of(1, 5), nil, of(1, 2, 4, 5)}, {of(1, 9), of(1, 9), of(1, 9), of(1, 9), nil},
		{of(1, 9), of(1, 4), of(1, 9), of(1, 4), of(5, 9)}, {of(1, 9), of(5, 9), of(1, 9), of(5, 9), of(1, 4)}, {of(1, 3, 5, 9), of(2, 7), of(1, 9), of(2, 3, 5, 7), of(1, 1, 8, 9)},
		{of(55295, 55295), of(57344, 57344), of(55295, 55295, 57344, 57344), nil, of(55295, 55295)}, {all, of(55295, 55295), all, of(55295, 55295), of(0, 55294, 57344, 1114111)},
	} {
		or, e := class.Or(c.a, c.b)
		and, f := class.And(c.a, c.b)
		minus, g := class.Minus(c.a, c.b)
		if !slices.Equal(or, c.or) || !slices.Equal(and, c.and) || !slices.Equal(minus, c.minus) || e != api.OK || f != api.OK || g != api.OK {
			t.Errorf("%v %v: %v %d, %v %d, %v %d", c.a, c.b, or, e, and, f, minus, g)
		}
	}
}

// P6.3: sets without members, with all of them, and between.
func TestNot(t *testing.T) {
	for _, c := range []struct{ l, want []class.Range }{
		{nil, of(0, 55295, 57344, 1114111)}, {of(0, 55295, 57344, 1114111), nil}, {of(0, 0), of(1, 55295, 57344, 1114111)}, {of(1114111, 1114111), of(0, 55295, 57344, 1114110)}, {of(0, 55295), of(57344, 1114111)},
		{of(57344, 1114111), of(0, 55295)}, {of(55295, 55295, 57344, 57344), of(0, 55294, 57345, 1114111)}, {of(5, 9, 11, 12), of(0, 4, 10, 10, 13, 55295, 57344, 1114111)},
	} {
		if got, e := class.Not(c.l); !slices.Equal(got, c.want) || e != api.OK {
			t.Errorf("%v: %v %d", c.l, got, e)
		}
	}
}

// P6.3: many sets against the definition.
func TestSetsAgainstDefinition(t *testing.T) {
	r := rand.New(rand.NewSource(63))
	for range 10000 {
		a, b := anySet(r), anySet(r)
		or, e := class.Or(a, b)
		and, f := class.And(a, b)
		minus, g := class.Minus(a, b)
		not, h := class.Not(a)
		if e != api.OK || f != api.OK || g != api.OK || h != api.OK {
			t.Fatalf("%v %v: %d %d %d %d", a, b, e, f, g, h)
		}
		checkSet(t, or, func(c int) bool { return isIn(a, c) || isIn(b, c) }, a, b)
		checkSet(t, and, func(c int) bool { return isIn(a, c) && isIn(b, c) }, a, b)
		checkSet(t, minus, func(c int) bool { return isIn(a, c) && !isIn(b, c) }, a, b)
		checkSet(t, not, func(c int) bool { return !isIn(a, c) }, a)
	}
}

// P6.4: each byte as a letter.
func TestNamed(t *testing.T) {
	const digits, letters = "0123456789", "ABCDEFGHIJKLMNOPQRSTUVWXYZabcdefghijklmnopqrstuvwxyz"
	named := map[byte]func(c int) bool{}
	for letter, members := range map[byte]string{'d': digits, 's': "\t\n\f\r ", 'w': digits + letters + "_"} {
		named[letter] = func(c int) bool { return strings.ContainsRune(members, rune(c)) }
		named[letter-32] = func(c int) bool { return !strings.ContainsRune(members, rune(c)) }
	}
	for b := range 256 {
		l, ok := class.Named(byte(b))
		wanted := named[byte(b)]
		if ok != (wanted != nil) || !ok && len(l) != 0 {
			t.Errorf("%q: %v %t", byte(b), l, ok)
		}
		for c := -1; wanted != nil && c <= 1114112; c++ {
			if class.Has(l, c) != (isPoint(c) && wanted(c)) {
				t.Fatalf("%q: %v %d", byte(b), l, c)
			}
		}
	}
	if l, _ := class.Named('s'); !slices.Equal(l, of(9, 10, 12, 13, 32, 32)) {
		t.Error(l)
	}
}

// The forms of the chapter, as regular expressions; numbers may be too great here.
const (
	escapeForm = `\\(?:[!-/:-@\[-\x60{-~]|[ntrfva]|x[0-9A-Fa-f]{2}|x\{[0-9A-Fa-f]{1,6}\})`
	pointForm  = `(?:` + escapeForm + `|[^\\\[\]\-])`
	itemForm   = `(?:` + pointForm + `-` + pointForm + `|` + pointForm + `|\\[dswDSW])`
)

var (
	escapes = regexp.MustCompile(`\A` + escapeForm)
	items   = regexp.MustCompile(itemForm)
	twoOf   = regexp.MustCompile(`\A(` + pointForm + `)-(` + pointForm + `)\z`)
	inside  = regexp.MustCompile(`\A(-?)(` + itemForm + `*)(-?)\]`)
)

// meaning is what a point, in one of the forms, means.
func meaning(s string) (int, bool) {
	c := 0
	switch {
	case s[0] != '\\':
		x, _ := utf8.DecodeRuneInString(s)
		c = int(x)
	case s[1] == 'x':
		x, _ := strconv.ParseInt(strings.Trim(s[2:], "{}"), 16, 64)
		c = int(x)
	default:
		c = int(s[1])
		if x, ok := map[byte]int{'n': 10, 't': 9, 'r': 13, 'f': 12, 'v': 11, 'a': 7}[s[1]]; ok {
			c = x
		}
	}
	return c, isPoint(c)
}

// itemOf are the ranges of an item, if it is one.
func itemOf(s string) ([]class.Range, bool) {
	if len(s) == 2 && s[0] == '\\' && strings.Contains("dswDSW", s[1:]) {
		l, _ := class.Named(s[1])
		return l, true
	}
	ends := []string{s, s}
	if m := twoOf.FindStringSubmatch(s); m != nil {
		ends = m[1:]
	}
	lo, ok := meaning(ends[0])
	hi, good := meaning(ends[1])
	return of(lo, hi), ok && good && lo <= hi
}

// readOf is Read by the chapter: the ranges of all items, whether they are those that are not in the set, and how many bytes the class has.
func readOf(s string) (l []class.Range, negated bool, n int, ok bool) {
	behind, ok := strings.CutPrefix(s, "[")
	body, negated := strings.CutPrefix(behind, "^")
	m := inside.FindStringSubmatch(body)
	if !ok || m == nil || len(m[0]) == 1 || !utf8.ValidString(m[0]) {
		return nil, false, 0, false
	}
	for _, item := range items.FindAllString(m[2], -1) {
		x, ok := itemOf(item)
		if !ok {
			return nil, false, 0, false
		}
		l = append(l, x...)
	}
	if m[1] != "" || m[3] != "" {
		l = append(l, of('-', '-')...)
	}
	return l, negated, len(s) - len(body) + len(m[0]), true
}

// checkRead holds Read against the chapter, and reports whether there is a class.
func checkRead(t *testing.T, s string) bool {
	t.Helper()
	got, n, e := class.Read(s)
	l, negated, size, ok := readOf(s)
	if !ok {
		if len(got) != 0 || n != 0 || e != class.ErrText {
			t.Fatalf("%q: %v %d %d", s, got, n, e)
		}
		return false
	}
	if n != size || e != api.OK {
		t.Fatalf("%q: %v %d %d, not %d bytes", s, got, n, e, size)
	}
	checkSet(t, got, func(c int) bool { return isIn(l, c) != negated }, l)
	return true
}

// checkEscape holds Escape against the chapter, and reports whether there is one.
func checkEscape(t *testing.T, s string) bool {
	t.Helper()
	c, n, e := class.Escape(s)
	if form := escapes.FindString(s); form != "" {
		if want, ok := meaning(form); ok {
			if c != want || n != len(form) || e != api.OK {
				t.Fatalf("%q: %d %d %d, not %d %d", s, c, n, e, want, len(form))
			}
			return true
		}
	}
	if c != 0 || n != 0 || e != class.ErrText {
		t.Fatalf("%q: %d %d %d", s, c, n, e)
	}
	return false
}

// short calls f with all strings of up to n bytes out of some.
func short(n int, bytes string, f func(s string)) {
	l := []string{""}
	for range n + 1 {
		var longer []string
		for _, s := range l {
			f(s)
			for i := range len(bytes) {
				longer = append(longer, s+bytes[i:i+1])
			}
		}
		l = longer
	}
}

// P6.4: escapes of each sort, and strings that are none; the examples of the chapter.
func TestEscape(t *testing.T) {
	for _, x := range []struct {
		s    string
		c, n int
	}{
		{`\x{e9}z`, 233, 6}, {`\n`, 10, 2}, {`\t`, 9, 2}, {`\r`, 13, 2}, {`\f`, 12, 2}, {`\v`, 11, 2}, {`\a`, 7, 2}, {`\\`, 92, 2}, {`\_`, 95, 2}, {`\!`, 33, 2}, {`\~`, 126, 2}, {`\-a`, 45, 2}, {"\\{\xff", 123, 2},
		{`\x00`, 0, 4}, {`\xff`, 255, 4}, {`\xFFF`, 255, 4}, {`\x4f}`, 79, 4}, {`\x{0}`, 0, 5}, {`\x{000041}`, 65, 10}, {`\x{10FFFF}`, 1114111, 10}, {`\x{10ffff}0`, 1114111, 10}, {`\x{d7ff}`, 55295, 8}, {`\x{E000}`, 57344, 8}, {`\x{00000a}`, 10, 10},
	} {
		if c, n, e := class.Escape(x.s); c != x.c || n != x.n || e != api.OK {
			t.Errorf("%q: %d %d %d", x.s, c, n, e)
		}
	}
	for _, s := range []string{
		"", `\`, "a", "n", `a\n`, `\d`, `\D`, `\w`, `\s`, `\b`, `\q`, `\N`, `\X41`, `\0`, `\9`, "\\ ", "\\\x00", "\\\n", "\\\x1f", "\\\x7f", "\\\x80", "\\\xff", `\é`, "[",
		`\x`, `\x4`, `\x4g`, `\xg4`, `\x4 `, `\x{`, `\x{}`, `\x{4`, `\x{41`, `\x{g}`, `\x{4g}`, `\x{0000041}`, `\x{10FFFFF}`, `\x{110000}`, `\x{ffffff}`, `\x{D800}`, `\x{dfff}`, `\x{-1}`, `\x{+1}`, `\x{ 1}`, `\x{1 }`, `\x{1_1}`, `\x-1`, `\x+1`, `\x{0x1}`,
	} {
		if c, n, e := class.Escape(s); c != 0 || n != 0 || e != class.ErrText {
			t.Errorf("%q: %d %d %d", s, c, n, e)
		}
	}
}

// P6.4: all pairs of bytes, all digits, each number in each length, and all short strings of some bytes.
func TestEscapesAgainstDefinition(t *testing.T) {
	for a := range 256 {
		for b := range 256 {
			checkEscape(t, string([]byte{byte(a), byte(b)}))
			checkEscape(t, `\x`+string([]byte{byte(a), byte(b)}))
		}
	}
	for c := 0; c < 1114120; c += 1 + c/200 {
		for _, s := range []string{fmt.Sprintf(`\x{%x}`, c), fmt.Sprintf(`\x{%X}]`, c), fmt.Sprintf(`\x{%06x}`, c), fmt.Sprintf(`\x{%07x}`, c), fmt.Sprintf(`\x{%x`, c)} {
			checkEscape(t, s)
		}
	}
	right := 0
	short(7, "x{}1Fg", func(s string) {
		if checkEscape(t, `\`+s) {
			right++
		}
	})
	if right < 1000 {
		t.Error("too few escapes:", right)
	}
}

// P6.5: texts of sets.
func TestText(t *testing.T) {
	for _, x := range []struct {
		l []class.Range
		s string
	}{
		{of(45, 45, 97, 99), `[\x{2D}a-c]`}, {nil, emptyText}, {of(0, 55295, 57344, 1114111), `[\x{0}-\x{D7FF}\x{E000}-\x{10FFFF}]`}, {of('a', 'a'), "[a]"}, {of('a', 'b'), "[a-b]"}, {of('a', 'c', 'e', 'e'), "[a-ce]"},
		{of('\\', '\\'), `[\x{5C}]`}, {of('[', '['), `[\x{5B}]`}, {of(']', ']'), `[\x{5D}]`}, {of('^', '^'), `[\x{5E}]`}, {of('-', '-'), `[\x{2D}]`}, {of('Z', '_'), "[Z-_]"}, {of('[', '^'), `[\x{5B}-\x{5E}]`},
		{of(32, 32), `[\x{20}]`}, {of(33, 33), "[!]"}, {of(126, 126), "[~]"}, {of(127, 127), `[\x{7F}]`}, {of(0, 0), `[\x{0}]`}, {of(10, 10), `[\x{A}]`}, {of(233, 8364), `[\x{E9}-\x{20AC}]`}, {of('.', '.', '|', '|'), "[.|]"},
	} {
		if s, e := class.Text(x.l); s != x.s || e != api.OK {
			t.Errorf("%v: %q %d", x.l, s, e)
		}
	}
	for c := range 1114112 {
		want := fmt.Sprintf(`[\x{%X}]`, c)
		if c >= 33 && c <= 126 && !strings.ContainsRune(`\[]^-`, rune(c)) {
			want = "[" + string(rune(c)) + "]"
		}
		if s, e := class.Text(of(c, c)); isPoint(c) && (s != want || e != api.OK) {
			t.Fatalf("%d: %q %d", c, s, e)
		}
	}
}

// P6.5: classes of each sort; the examples of the chapter.
func TestRead(t *testing.T) {
	all := of(0, 55295, 57344, 1114111)
	for _, x := range []struct {
		s string
		l []class.Range
		n int
	}{
		{`[a-c_\d-]x`, of('-', '-', '0', '9', '_', '_', 'a', 'c'), 9}, {`[^\x{0}-\x60]`, of(97, 55295, 57344, 1114111), 13}, {emptyText, nil, 19}, {`[\x{0}-\x{10FFFF}]`, all, 18}, {"[a]", of('a', 'a'), 3}, {"[^a]", of(0, 96, 98, 55295, 57344, 1114111), 4},
		{"[-]", of('-', '-'), 3}, {"[--]", of('-', '-'), 4}, {"[^-]", of(0, 44, 46, 55295, 57344, 1114111), 4}, {"[^--]", of(0, 44, 46, 55295, 57344, 1114111), 5}, {"[-a]", of('-', '-', 'a', 'a'), 4}, {"[a-]", of('-', '-', 'a', 'a'), 4}, {"[-a-]", of('-', '-', 'a', 'a'), 5},
		{"[-a-c]", of('-', '-', 'a', 'c'), 6}, {"[a-c-]", of('-', '-', 'a', 'c'), 6}, {"[a-]b]", of('-', '-', 'a', 'a'), 4}, {`[\d-]`, of('-', '-', '0', '9'), 5}, {`[-\d]`, of('-', '-', '0', '9'), 5}, {`[\--a]`, of('-', 'a'), 6}, {`[!-\-]`, of('!', '-'), 6},
		{`[-\--a]`, of('-', 'a'), 7}, {"[^^]", of(0, 93, 95, 55295, 57344, 1114111), 4}, {"[a^]", of('^', '^', 'a', 'a'), 4}, {`[\^]`, of('^', '^'), 4}, {"[^^-a]", of(0, 93, 98, 55295, 57344, 1114111), 6}, {"[a-a]", of('a', 'a'), 5}, {`[\]]`, of(']', ']'), 4}, {`[\[]`, of('[', '['), 4},
		{"[a]]", of('a', 'a'), 3}, {"[a][b]", of('a', 'a'), 3}, {"[a]\xff", of('a', 'a'), 3}, {"[é€-\U0001f600]", of(233, 233, 8364, 55295, 57344, 128512), 12}, {"[\x00\n \x7f]", of(0, 0, 10, 10, 32, 32, 127, 127), 6}, {"[\ufffd]", of(65533, 65533), 5}, {"[a-\ufffd]", of('a', 55295, 57344, 65533), 7},
		{`[\s\S]`, all, 6}, {`[^\s\S]`, nil, 7}, {`[\W\d]`, of(0, 64, 91, 94, 96, 96, 123, 55295, 57344, 1114111), 6}, {`[cba]`, of('a', 'c'), 5}, {`[b-da-c]`, of('a', 'd'), 8}, {`[\x41-\x{43}]`, of('A', 'C'), 13}, {`[\n-\r]`, of(10, 13), 7}, {"[:alp:]]", of(':', ':', 'a', 'a', 'l', 'l', 'p', 'p'), 7}, {"[.*+?(){}|$]", of('$', '$', '(', '+', '.', '.', '?', '?', '{', '}'), 12},
	} {
		if l, n, e := class.Read(x.s); !slices.Equal(l, x.l) || n != x.n || e != api.OK || !checkRead(t, x.s) {
			t.Errorf("%q: %v %d %d", x.s, l, n, e)
		}
	}
}

// P6.5 and R2: strings that begin with no class; the examples of the chapter.
func TestNoClasses(t *testing.T) {
	for _, s := range []string{
		"[]", "[b-a]", "[a--]", "[--a]", `[\q]`, "[a", "", "[", "[^", "[^]", "]", "a", "a]", " [a]", "^[a]", "[]]", "[]a]", "[^]]", "[^]a]", "[[]", "[[a]]", "[a[]", "[---]", "[^--a]", "[a-b-c]", "[a-b-c-]", "[a---]", "[-", "[-a", "[a-", "[^-", "[^a",
		`[\d-a]`, `[\d-\s]`, `[a-\d]`, `[\d--]`, `[a-[b]]`, `[\]`, `[\`, `[a\`, `[a-\]`, `[\d`, `[\x{D800}]`, `[\x{D7FF}-\x{D800}]`, `[\x{110000}]`, `[a-\x{110000}]`, `[\x4]`, `[\x{}]`, `[\x{41]`, `[\0]`, `[\é]`, "[\\\n]", `[a-\q]`, `[b-\x61]`,
		"[\xff]", "[a\xff]", "[a-\xff]", "[\xe2\x82]", "[\xed\xa0\x80]", "[\xc0\x80]", "[\xf4\x90\x80\x80]", "[\xe2\x82", "[a\x80]", "[\xef\xbf]", "[[:alpha:]]", `[\pL]`, `[\Qa\E]`,
	} {
		if l, n, e := class.Read(s); len(l) != 0 || n != 0 || e != class.ErrText || checkRead(t, s) {
			t.Errorf("%q: %v %d %d", s, l, n, e)
		}
	}
}

// P6.5: all short strings of some bytes, and many longer ones of pieces.
func TestReadAgainstDefinition(t *testing.T) {
	right := 0
	try := func(s string) {
		if checkRead(t, s) {
			right++
		}
	}
	short(6, `[]^-ac\d`, func(s string) { try("[" + s) })
	short(4, `[]^-`, try)
	if right < 20000 {
		t.Error("too few short classes:", right)
	}
	right = 0
	pieces := []string{"a", "b", "z", "0", "^", "^", "-", "-", "-", "]", `\-`, `\]`, `\[`, `\\`, `\d`, `\D`, `\s`, `\w`, `\W`, `\n`, `\x41`, `\x{e9}`, `\x{D7FF}`, `\x{E000}`, `\x{10FFFF}`, "é", "€", "\U0001f600", " ", "\n", "\ufffd", "a-z", "0-9", `!-\~`}
	wrong := []string{"[", `\q`, `\x4`, `\x{D800}`, `\x{110000}`, "\xff", "\xe2\x82", "\xed\xa0\x80", "z-a", "a-b-c", `\d-a`, `\`, `a-\d`}
	r := rand.New(rand.NewSource(65))
	for range 40000 {
		s := "["
		for range 1 + r.Intn(6) {
			s += pieces[r.Intn(len(pieces))]
			if r.Intn(40) == 0 {
				s += wrong[r.Intn(len(wrong))]
			}
		}
		try(s + "]" + pieces[r.Intn(len(pieces))])
	}
	if right < 10000 || right > 35000 {
		t.Error("too few strings of one sort: classes of 40000 are", right)
	}
}

// P6.6: texts are read back, whatever follows, and different sets have different texts.
func TestTextsAreReadBack(t *testing.T) {
	r := rand.New(rand.NewSource(66))
	texts := map[string][]class.Range{}
	for range 20000 {
		l := anySet(r)
		s, e := class.Text(l)
		if e != api.OK || len(l) == 0 != (s == emptyText) {
			t.Fatalf("%v: %q %d", l, s, e)
		}
		for _, behind := range []string{"", "]", "-]", "a", "*", "[", "\\", "\xff", "^", s} {
			if back, n, e := class.Read(s + behind); !slices.Equal(back, l) || n != len(s) || e != api.OK {
				t.Fatalf("%v: %q: %v %d %d", l, s+behind, back, n, e)
			}
		}
		if other, ok := texts[s]; ok && !slices.Equal(other, l) {
			t.Fatalf("%v %v: %q", l, other, s)
		}
		texts[s] = l
	}
	if len(texts) < 10000 {
		t.Error("too few sets:", len(texts))
	}
}

// P6.6: Not is its own inverse, what is in no set of two is what is in neither, and Minus is And with what is not there.
func TestAlgebra(t *testing.T) {
	must := func(l []class.Range, e api.Errno) []class.Range {
		t.Helper()
		if e != api.OK {
			t.Fatal(e)
		}
		return l
	}
	r := rand.New(rand.NewSource(67))
	for range 5000 {
		a, b, c := anySet(r), anySet(r), anySet(r)
		notA, notB := must(class.Not(a)), must(class.Not(b))
		for i, x := range [][2][]class.Range{
			{must(class.Not(notA)), a},
			{must(class.Or(notA, notB)), must(class.Not(must(class.And(a, b))))},
			{must(class.And(notA, notB)), must(class.Not(must(class.Or(a, b))))},
			{must(class.Minus(a, b)), must(class.And(a, notB))},
			{must(class.Or(a, b)), must(class.Or(b, a))},
			{must(class.And(a, b)), must(class.And(b, a))},
			{must(class.And(a, must(class.Or(b, c)))), must(class.Or(must(class.And(a, b)), must(class.And(a, c))))},
			{must(class.Or(a, a)), a},
			{must(class.And(a, a)), a},
			{must(class.And(a, notA)), nil},
			{must(class.Or(a, notA)), of(0, 55295, 57344, 1114111)},
			{must(class.Of(a)), a},
		} {
			if !slices.Equal(x[0], x[1]) {
				t.Fatalf("%d: %v %v %v: %v %v", i, a, b, c, x[0], x[1])
			}
		}
		if class.Count(a)+class.Count(notA) != 1112064 || class.Count(a)+class.Count(b) != class.Count(must(class.Or(a, b)))+class.Count(must(class.And(a, b))) {
			t.Fatal(a, b)
		}
	}
}

// P6.6: Of does not depend on the order, nor on ranges that are there twice.
func TestOfInAnyOrder(t *testing.T) {
	r := rand.New(rand.NewSource(68))
	for range 3000 {
		l := anyRanges(r, 8)
		want, e := class.Of(l)
		twice := append(slices.Clone(l), l...)
		r.Shuffle(len(l), func(i, j int) { l[i], l[j] = l[j], l[i] })
		r.Shuffle(len(twice), func(i, j int) { twice[i], twice[j] = twice[j], twice[i] })
		got, f := class.Of(l)
		more, g := class.Of(twice)
		if !slices.Equal(got, want) || !slices.Equal(more, want) || e != api.OK || f != api.OK || g != api.OK {
			t.Fatalf("%v: %v %v, not %v", l, got, more, want)
		}
	}
}

// results returns what all calls for two sets return, each slice by itself.
func results(a, b []class.Range) [][]class.Range {
	of, _ := class.Of(a)
	or, _ := class.Or(a, b)
	and, _ := class.And(a, b)
	minus, _ := class.Minus(a, b)
	not, _ := class.Not(a)
	named, _ := class.Named('w')
	other, _ := class.Named('W')
	read, _, _ := class.Read(`[a-c\d]`)
	negated, _, _ := class.Read(`[^a-c\d]`)
	escaped, _, _ := class.Read(`[\w]`)
	return [][]class.Range{of, or, and, minus, not, named, other, read, negated, escaped}
}

// R3 and R4: arguments, and what they have room for, stay as they were; no result has memory of an argument, or of another result.
func TestNothingShared(t *testing.T) {
	made := func() ([]class.Range, []class.Range) {
		return of(1, 2, 5, 9, 20, 30, 7, 7, 8, 8), of(3, 3, 6, 7, 99, 99, 4, 4)
	}
	a, b := made()
	fullA, fullB := made()
	a, b = a[:3], b[:2]
	one, other := results(a, b), results(a, b)
	for _, l := range one {
		for i := range l {
			l[i] = class.Range{Lo: -7, Hi: -7}
		}
		l = append(l, of(-7, -7, -7, -7, -7, -7)...)
	}
	for i, l := range results(a, b) {
		if !slices.Equal(l, other[i]) || len(l) == 0 {
			t.Errorf("%d: %v, not %v", i, l, other[i])
		}
	}
	class.Right(a)
	class.Has(a, 6)
	class.Count(a)
	class.Next(a, 6)
	class.Text(a)
	if !slices.Equal(a[:5], fullA) || !slices.Equal(b[:4], fullB) {
		t.Error(a[:5], b[:4])
	}
	// Where nothing has to be changed, and with one argument twice.
	for _, l := range [][]class.Range{of(1, 2, 5, 9), of(0, 55295, 57344, 1114111)} {
		want := slices.Clone(l)
		for _, x := range append(results(l, nil), results(l, l)...) {
			for i := range x {
				x[i] = class.Range{Lo: -7, Hi: -7}
			}
		}
		if !slices.Equal(l, want) {
			t.Error(l)
		}
	}
}

// R5: nil is as good as empty.
func TestNilIsEmpty(t *testing.T) {
	right := of(1, 2)
	for i, none := range [][]class.Range{nil, {}} {
		of, e := class.Of(none)
		or, f := class.Or(none, right)
		and, g := class.And(right, none)
		minus, h := class.Minus(right, none)
		not, j := class.Not(none)
		s, k := class.Text(none)
		n, ok := class.Next(none, 0)
		if len(of) != 0 || !slices.Equal(or, right) || len(and) != 0 || !slices.Equal(minus, right) || class.Count(not) != 1112064 || s != emptyText || !class.Right(none) || class.Has(none, 0) || class.Count(none) != 0 || n != 0 || ok {
			t.Error(i, of, or, and, minus, not, s)
		}
		if e != api.OK || f != api.OK || g != api.OK || h != api.OK || j != api.OK || k != api.OK {
			t.Error(i, e, f, g, h, j, k)
		}
	}
}

// Limits: MaxRanges is the limit of Of alone; sets and classes may have more ranges.
func TestMoreRangesThanOfTakes(t *testing.T) {
	var even, odd []class.Range
	for c := 0; c < 1114112; c++ {
		switch {
		case !isPoint(c):
		case c%2 == 0:
			even = append(even, class.Range{Lo: c, Hi: c})
		default:
			odd = append(odd, class.Range{Lo: c, Hi: c})
		}
	}
	all, e := class.Or(even, odd)
	none, f := class.And(even, odd)
	same, g := class.Minus(even, odd)
	not, h := class.Not(even)
	s, i := class.Text(even)
	back, n, j := class.Read(s)
	other, m, k := class.Read("[^" + s[1:])
	if !class.Right(even) || class.Count(even) != 556032 || class.Count(all) != 1112064 || len(all) != 2 || len(none) != 0 || !slices.Equal(same, even) || !slices.Equal(not, odd) {
		t.Error(len(all), len(none), len(same), len(not))
	}
	if !slices.Equal(back, even) || n != len(s) || !slices.Equal(other, odd) || m != len(s)+1 {
		t.Error(len(back), n, len(other), m)
	}
	if e != api.OK || f != api.OK || g != api.OK || h != api.OK || i != api.OK || j != api.OK || k != api.OK {
		t.Error(e, f, g, h, i, j, k)
	}
	if next, ok := class.Next(even, 1114110); next != 1114110 || !ok || !class.Has(even, 65534) || class.Has(even, 65535) {
		t.Error(next, ok)
	}
}

// Limits: a long text, whose items come again and again, is not made into as many ranges.
func TestLongTexts(t *testing.T) {
	s := "[" + strings.Repeat("acb-d", 1<<21) + "]"
	unfinished := "[" + strings.Repeat("a", 1<<23)
	var before, behind runtime.MemStats
	runtime.ReadMemStats(&before)
	l, n, e := class.Read(s)
	none, m, f := class.Read(unfinished)
	_, _, g := class.Escape(`\x{` + s)
	runtime.ReadMemStats(&behind)
	if !slices.Equal(l, of('a', 'd')) || n != len(s) || e != api.OK || len(none) != 0 || m != 0 || f != class.ErrText || g != class.ErrText {
		t.Error(l, n, e, none, m, f, g)
	}
	if grown := behind.HeapSys - before.HeapSys; behind.HeapSys > before.HeapSys && grown > 128<<20 {
		t.Error(grown, "bytes")
	}
}
