package ways_test

import (
	"fmt"
	"math/rand"
	"regexp"
	"slices"
	"strings"
	"testing"
	"unicode/utf8"

	"gauger/api"
	"gauger/class"
	"gauger/syntax"
	"gauger/ways"
)

// Node, Span and Way are these types, by shorter names.
type (
	Node = syntax.Node
	Span = ways.Span
	Way  = ways.Way
)

func empty() Node { return Node{Kind: 1} }

// set returns a set of ranges: Lo and Hi, in turn.
func set(l ...int) Node {
	n := Node{Kind: 2}
	for i := 0; i < len(l); i += 2 {
		n.Set = append(n.Set, class.Range{Lo: l[i], Hi: l[i+1]})
	}
	return n
}

// one returns the set of a code point.
func one(c rune) Node { return set(int(c), int(c)) }

// dot returns the set of all code points.
func dot() Node { return set(0, 55295, 57344, 1114111) }

func cat(l ...Node) Node { return Node{Kind: 3, Subs: l} }

func alt(l ...Node) Node { return Node{Kind: 4, Subs: l} }

func repeat(least, most int, n Node) Node {
	return Node{Kind: 5, Min: least, Max: most, Subs: []Node{n}}
}

func lazy(least, most int, n Node) Node {
	return Node{Kind: 5, Min: least, Max: most, Lazy: true, Subs: []Node{n}}
}

func group(n Node) Node { return Node{Kind: 6, Subs: []Node{n}} }

// times returns a node as often as it is wanted.
func times(k int, n Node) []Node { return slices.Repeat([]Node{n}, k) }

// parsed returns the tree of a pattern.
func parsed(t *testing.T, pattern string) Node {
	t.Helper()
	n, e := syntax.Parse(pattern)
	if e != api.OK {
		t.Fatalf("%q is no pattern: %d", pattern, e)
	}
	return n
}

// copyOf returns a tree that shares no memory with the one it is equal to.
func copyOf(n Node) Node {
	n.Set = slices.Clone(n.Set)
	n.Subs = slices.Clone(n.Subs)
	for i := range n.Subs {
		n.Subs[i] = copyOf(n.Subs[i])
	}
	return n
}

// changed returns a copy of a tree, in which each node is changed by f, parts first.
func changed(n Node, f func(n Node) Node) Node {
	n = copyOf(n)
	for i := range n.Subs {
		n.Subs[i] = changed(n.Subs[i], f)
	}
	return f(n)
}

// groupsOf is how many groups a tree has.
func groupsOf(n Node) int {
	k := 0
	if n.Kind == 6 {
		k = 1
	}
	for _, x := range n.Subs {
		k += groupsOf(x)
	}
	return k
}

// A deed is that a group takes something.
type deed struct{ group, from, to int }

// A path is a way with all that groups take on it, one after the other.
type path struct {
	end   int
	deeds []deed
}

// on returns the path that goes on with another one.
func (p path) on(q path) path { return path{q.end, slices.Concat(p.deeds, q.deeds)} }

// spans are the last ones of all groups.
func (p path) spans(groups int) []Span {
	var l []Span
	for range groups {
		l = append(l, Span{-1, -1})
	}
	for _, x := range p.deeds {
		l[x.group-1] = Span{x.from, x.to}
	}
	return l
}

// A definition finds the paths of trees in a string by the chapter, each as often as it is asked for.
type definition struct {
	s      string
	many   bool // there are too many
	budget int  // how many paths may be found yet
}

// checked takes note of paths that must not be too many.
func (d *definition) checked(l []path) []path {
	d.budget -= len(l) + 1
	if len(l) > 500 {
		d.many = true
	}
	if d.many || d.budget < 0 {
		return nil
	}
	return l
}

// paths are those of a part whose first group has a number, from a place.
func (d *definition) paths(n Node, number, at int) []path {
	if d.many || d.budget < 0 {
		return nil
	}
	var l []path
	switch n.Kind {
	case 1:
		l = []path{{end: at}}
	case 2:
		for i, c := range d.s {
			if i == at && slices.ContainsFunc(n.Set, func(r class.Range) bool { return r.Lo <= int(c) && int(c) <= r.Hi }) {
				l = []path{{end: at + len(string(c))}}
			}
		}
	case 3:
		l = []path{{end: at}}
		for _, x := range n.Subs {
			l = d.checked(d.behind(l, x, number))
			number += groupsOf(x)
		}
	case 4:
		for _, x := range n.Subs {
			l = append(l, d.paths(x, number, at)...)
			number += groupsOf(x)
		}
	case 5:
		d.checkTimes(n, number, at)
		l = d.repetition(n, n.Min, n.Max, number, at)
	case 6:
		for _, p := range d.paths(n.Subs[0], number+1, at) {
			l = append(l, p.on(path{p.end, []deed{{number, at, p.end}}}))
		}
	}
	return d.checked(l)
}

// behind are the paths that go on with those of a part.
func (d *definition) behind(l []path, n Node, number int) []path {
	var all []path
	for _, p := range l {
		for _, q := range d.paths(n, number, p.end) {
			all = append(all, p.on(q))
		}
	}
	return all
}

// repetition are the paths of a repetition from least to most times: one time, and then one time less.
func (d *definition) repetition(n Node, least, most, number, at int) []path {
	if most == 0 {
		return []path{{end: at}}
	}
	var more []path
	for _, p := range d.paths(n.Subs[0], number, at) {
		for _, q := range d.repetition(n, max(least-1, 0), max(most-1, -1), number, p.end) {
			more = append(more, p.on(q))
		}
	}
	d.budget -= len(more)
	switch {
	case least > 0:
		return more
	case n.Lazy:
		return append([]path{{end: at}}, more...)
	}
	return append(more, path{end: at})
}

// checkTimes takes note of how many paths there are with each number of times that can come.
func (d *definition) checkTimes(n Node, number, at int) {
	l := []path{{end: at}}
	for k := 0; len(l) > 0 && k != n.Max; k++ {
		l = d.checked(d.behind(l, n.Subs[0], number))
	}
}

// defined are the ways of a right tree in a valid string by the chapter; false if they cannot be told with the patience there is.
func defined(n Node, s string) ([]Way, api.Errno, bool) {
	d := definition{s: s, budget: 1000000}
	l := d.paths(n, 1, 0)
	if d.many {
		return nil, api.ErrMany, true
	}
	var all []Way
	for _, p := range l {
		all = append(all, Way{p.end, p.spans(groupsOf(n))})
	}
	return all, api.OK, d.budget >= 0
}

// isSame tells whether ways are equal.
func isSame(a, b []Way) bool {
	return slices.EqualFunc(a, b, func(v, w Way) bool { return v.End == w.End && slices.Equal(v.Spans, w.Spans) })
}

// check holds what all functions return against the ways that are wanted, or the error.
func check(t *testing.T, n Node, s string, want []Way, wrong api.Errno) {
	t.Helper()
	if l, e := ways.All(n, s); e != wrong || !isSame(l, want) {
		t.Fatalf("%s in %q: All is %v %d, not %v %d", shown(n), s, l, e, want, wrong)
	}
	var first Way
	if len(want) > 0 {
		first = want[0]
	}
	if w, ok, e := ways.First(n, s); e != wrong || ok != (len(want) > 0) || !isSame([]Way{w}, []Way{first}) {
		t.Fatalf("%s in %q: First is %v %t %d, not %v %d", shown(n), s, w, ok, e, first, wrong)
	}
	var ends []int
	var spans []Span
	whole := 0
	for _, w := range want {
		if w.End == len(s) {
			if whole == 0 {
				spans = w.Spans
			}
			whole++
		}
		if !slices.Contains(ends, w.End) {
			ends = append(ends, w.End)
		}
	}
	slices.Sort(ends)
	if l, ok, e := ways.Whole(n, s); e != wrong || ok != (whole > 0) || !slices.Equal(l, spans) {
		t.Fatalf("%s in %q: Whole is %v %t %d, not %v %d", shown(n), s, l, ok, e, spans, wrong)
	}
	if l, e := ways.Ends(n, s); e != wrong || !slices.Equal(l, ends) {
		t.Fatalf("%s in %q: Ends is %v %d, not %v %d", shown(n), s, l, e, ends, wrong)
	}
	if k, e := ways.Count(n, s); e != wrong || k != whole {
		t.Fatalf("%s in %q: Count is %d %d, not %d %d", shown(n), s, k, e, whole, wrong)
	}
}

// shown is a tree, to be read: not all of it, as there are trees without an end.
func shown(n Node) string {
	s, e := syntax.Text(n)
	if e != api.OK {
		return fmt.Sprintf("a tree of kind %d (%d)", n.Kind, e)
	}
	return fmt.Sprintf("%.200q", s)
}

// checkDefined holds what all functions return for a right tree and a valid string against the chapter, and returns the error; false if that takes too long.
func checkDefined(t *testing.T, n Node, s string) (api.Errno, bool) {
	t.Helper()
	l, e, ok := defined(n, s)
	if ok {
		check(t, n, s, l, e)
	}
	return e, ok
}

// matched is what a regular expression of the library finds at the begin of a string.
func matched(r *regexp.Regexp, s string) (Way, bool) {
	l := r.FindStringSubmatchIndex(s)
	if l == nil {
		return Way{}, false
	}
	w := Way{End: l[1]}
	for i := 2; i < len(l); i += 2 {
		w.Spans = append(w.Spans, Span{l[i], l[i+1]})
	}
	return w, true
}

// checkMatched holds First, Whole and Ends against the library's regular expressions, which prefer the same ways; it reports whether there is one for the tree, and not too many ways.
func checkMatched(t *testing.T, n Node, s string) bool {
	t.Helper()
	text, e := syntax.Text(n)
	r, err := regexp.Compile(`(?s)\A(?:` + text + `)`)
	if e != api.OK || err != nil {
		return false
	}
	w, ok, e := ways.First(n, s)
	if e == api.ErrMany {
		return false
	}
	if want, found := matched(r, s); e != api.OK || ok != found || !isSame([]Way{w}, []Way{want}) {
		t.Fatalf("%q in %q: First is %v %t %d, not %v %t", text, s, w, ok, e, want, found)
	}
	r = regexp.MustCompile(`(?s)\A(?:` + text + `)\z`)
	l, ok, e := ways.Whole(n, s)
	if want, found := matched(r, s); e != api.OK || ok != found || !slices.Equal(l, want.Spans) {
		t.Fatalf("%q in %q: Whole is %v %t %d, not %v %t", text, s, l, ok, e, want, found)
	}
	var ends []int
	for i := range len(s) + 1 {
		if (i == len(s) || utf8.RuneStart(s[i])) && r.MatchString(s[:i]) {
			ends = append(ends, i)
		}
	}
	if l, e := ways.Ends(n, s); e != api.OK || !slices.Equal(l, ends) {
		t.Fatalf("%q in %q: Ends is %v %d, not %v", text, s, l, e, ends)
	}
	return true
}

// P8.1 and P8.2: the ways of each kind, in order; the examples of the chapter.
func TestWays(t *testing.T) {
	no := Span{-1, -1}
	way := func(end int, l ...Span) Way { return Way{end, l} }
	for _, x := range []struct {
		pattern, s string
		want       []Way
	}{
		{"a|ab", "abc", []Way{way(1), way(2)}},
		{"(a*)(a*)", "aa", []Way{way(2, Span{0, 2}, Span{2, 2}), way(2, Span{0, 1}, Span{1, 2}), way(1, Span{0, 1}, Span{1, 1}), way(2, Span{0, 0}, Span{0, 2}), way(1, Span{0, 0}, Span{0, 1}), way(0, Span{0, 0}, Span{0, 0})}},
		{"a*?", "aa", []Way{way(0), way(1), way(2)}},
		{"(a|(b))*", "ba", []Way{way(2, Span{1, 2}, Span{0, 1}), way(1, Span{0, 1}, Span{0, 1}), way(0, no, no)}},
		{"(?:a|ab)(c|bcd)?(d*)", "abcd", []Way{way(4, Span{1, 4}, Span{4, 4}), way(1, no, Span{1, 1}), way(4, Span{2, 3}, Span{3, 4}), way(3, Span{2, 3}, Span{3, 3}), way(2, no, Span{2, 2})}},
		{"é+", "éé", []Way{way(4), way(2)}},

		{"", "", []Way{way(0)}}, {"", "a", []Way{way(0)}}, {"()", "", []Way{way(0, Span{0, 0})}}, {"()", "a", []Way{way(0, Span{0, 0})}},
		{"a", "", nil}, {"a", "a", []Way{way(1)}}, {"a", "b", nil}, {"a", "ba", nil}, {"a", "aa", []Way{way(1)}}, {".", "", nil}, {".", "é", []Way{way(2)}}, {".", "\n", []Way{way(1)}}, {".", "\x00", []Way{way(1)}}, {"[^a]", "b", []Way{way(1)}}, {"[^a]", "a", nil}, {`[^\x{0}-\x{10FFFF}]`, "a", nil}, {"[a-ce-g]", "d", nil}, {"[a-ce-g]", "e", []Way{way(1)}},
		{"\ufffd", "", nil}, {"\ufffd", "\ufffd", []Way{way(3)}}, {"a\ufffd", "a", nil}, {"\U0001f600*", "\U0001f600\U0001f600", []Way{way(8), way(4), way(0)}}, {"(.)(.)", "é€", []Way{way(5, Span{0, 2}, Span{2, 5})}}, {`\xe9`, "é", []Way{way(2)}}, {`\xc3`, "é", nil},
		{"ab", "ab", []Way{way(2)}}, {"ab", "a", nil}, {"ab", "b", nil}, {"ab", "ba", nil}, {"(a)(b)(c)", "abc", []Way{way(3, Span{0, 1}, Span{1, 2}, Span{2, 3})}}, {"(?:)a(?:)", "a", []Way{way(1)}}, {"a?a?", "a", []Way{way(1), way(1), way(0)}}, {"a??a??", "a", []Way{way(0), way(1), way(1)}}, {"a?a??", "aa", []Way{way(1), way(2), way(0), way(1)}},
		{"a|a", "a", []Way{way(1), way(1)}}, {"(a)|(a)", "a", []Way{way(1, Span{0, 1}, no), way(1, no, Span{0, 1})}}, {"ab|a", "ab", []Way{way(2), way(1)}}, {"a|b|", "b", []Way{way(1), way(0)}}, {"|a|", "a", []Way{way(0), way(1), way(0)}}, {"(a)b|(a)(b)|c", "ab", []Way{way(2, Span{0, 1}, no, no), way(2, no, Span{0, 1}, Span{1, 2})}}, {"(x)|(y)|(z)", "z", []Way{way(1, no, no, Span{0, 1})}}, {"(?:(a)|b)(c)", "bc", []Way{way(2, no, Span{1, 2})}},
		{"((a)(b))", "ab", []Way{way(2, Span{0, 2}, Span{0, 1}, Span{1, 2})}}, {"(((a)))b", "ab", []Way{way(2, Span{0, 1}, Span{0, 1}, Span{0, 1})}}, {"a(b(c)d)e", "abcde", []Way{way(5, Span{1, 4}, Span{2, 3})}}, {"x(a?)", "xa", []Way{way(2, Span{1, 2}), way(1, Span{1, 1})}},
		{"a?", "a", []Way{way(1), way(0)}}, {"a??", "a", []Way{way(0), way(1)}}, {"(a)?", "b", []Way{way(0, no)}}, {"(a*)?", "", []Way{way(0, Span{0, 0}), way(0, no)}}, {"(a*)??", "", []Way{way(0, no), way(0, Span{0, 0})}}, {"(|a)?", "a", []Way{way(0, Span{0, 0}), way(1, Span{0, 1}), way(0, no)}}, {"(?:a?)?", "a", []Way{way(1), way(0), way(0)}}, {"(?:(a)|b)?", "b", []Way{way(1, no), way(0, no)}},
		{"a{0}", "a", []Way{way(0)}}, {"(a){0}(b)", "b", []Way{way(1, no, Span{0, 1})}}, {"(a){0}?", "a", []Way{way(0, no)}}, {"(a){1}", "a", []Way{way(1, Span{0, 1})}}, {"(a*){1}", "", []Way{way(0, Span{0, 0})}}, {"a{2}", "aaa", []Way{way(2)}}, {"a{2}", "a", nil}, {"a{2}?", "aaa", []Way{way(2)}}, {"a{1,2}", "aaa", []Way{way(2), way(1)}}, {"a{1,2}?", "aaa", []Way{way(1), way(2)}}, {"a{2,}", "aaaa", []Way{way(4), way(3), way(2)}}, {"a{2,}?", "aaaa", []Way{way(2), way(3), way(4)}}, {"a{3,}", "aa", nil}, {"a{0,2}", "aaa", []Way{way(2), way(1), way(0)}}, {"a{1000}", "aaa", nil}, {"a{0,1000}", "aa", []Way{way(2), way(1), way(0)}}, {"a{1000,}?", "aaa", nil}, {"a{33}", "aaaaaaaaaaaaaaaaaaaaaaaaaaaaaaaa", nil}, {"a{32}", "aaaaaaaaaaaaaaaaaaaaaaaaaaaaaaaa", []Way{way(32)}},
		{"(?:a|ab|b)*", "ab", []Way{way(2), way(1), way(2), way(0)}}, {"(?:a|ab|b)*?", "ab", []Way{way(0), way(1), way(2), way(2)}}, {"(?:a|ab|b)+", "ab", []Way{way(2), way(1), way(2)}}, {"(?:a|ab|b){1}", "ab", []Way{way(1), way(2)}}, {"(?:a|ab|b){2}", "ab", []Way{way(2)}}, {"(?:a+?)*", "aa", []Way{way(2), way(1), way(2), way(0)}}, {"(?:a+)*?", "aa", []Way{way(0), way(2), way(1), way(2)}},
		{"(?:(a)|(b))*", "ab", []Way{way(2, Span{0, 1}, Span{1, 2}), way(1, Span{0, 1}, no), way(0, no, no)}}, {"(?:(a)|(b))*", "aba", []Way{way(3, Span{2, 3}, Span{1, 2}), way(2, Span{0, 1}, Span{1, 2}), way(1, Span{0, 1}, no), way(0, no, no)}}, {"(?:x(a)?)*", "xax", []Way{way(3, Span{1, 2}), way(2, Span{1, 2}), way(1, no), way(0, no)}}, {"((a)|b)+", "ab", []Way{way(2, Span{1, 2}, Span{0, 1}), way(1, Span{0, 1}, Span{0, 1})}}, {"(?:(a){2}b)*", "aabaab", []Way{way(6, Span{4, 5}), way(3, Span{1, 2}), way(0, no)}}, {"(?:a(b*))*", "aba", []Way{way(3, Span{3, 3}), way(2, Span{1, 2}), way(1, Span{1, 1}), way(0, no)}},
		{"(.*)(b)?", "ab", []Way{way(2, Span{0, 2}, no), way(2, Span{0, 1}, Span{1, 2}), way(1, Span{0, 1}, no), way(0, Span{0, 0}, no)}}, {".*?b", "abb", []Way{way(2), way(3)}}, {".*b", "abb", []Way{way(3), way(2)}},
	} {
		n := parsed(t, x.pattern)
		check(t, n, x.s, x.want, api.OK)
		if _, ok := checkDefined(t, n, x.s); !ok {
			t.Errorf("%q in %q: too much for the definition", x.pattern, x.s)
		}
	}
}

// P8.2: what is whole, how many ways are, and the ends.
func TestWholes(t *testing.T) {
	no := Span{-1, -1}
	for _, x := range []struct {
		pattern, s string
		count      int
		spans      []Span
		ends       []int
	}{
		{"(a*)(a*)", "aa", 3, []Span{{0, 2}, {2, 2}}, []int{0, 1, 2}}, {"(a|(b))*", "ba", 1, []Span{{1, 2}, {0, 1}}, []int{0, 1, 2}}, {"(?:a|ab)(c|bcd)?(d*)", "abcd", 2, []Span{{1, 4}, {4, 4}}, []int{1, 2, 3, 4}}, {"é+", "éé", 1, nil, []int{2, 4}},
		{"a|ab", "abc", 0, nil, []int{1, 2}}, {"(a)|(ab)", "ab", 1, []Span{no, {0, 2}}, []int{1, 2}}, {"(a*?)(a*)", "aa", 3, []Span{{0, 0}, {0, 2}}, []int{0, 1, 2}}, {"(a??)(a??)", "aa", 1, []Span{{0, 1}, {1, 2}}, []int{0, 1, 2}}, {"", "", 1, nil, []int{0}}, {"|", "", 2, nil, []int{0}}, {"", "a", 0, nil, []int{0}}, {"a", "b", 0, nil, nil}, {"(a)|b|(a)", "a", 2, []Span{{0, 1}, no}, []int{1}}, {"(?:aa|a|aaa)*?", "aaa", 4, nil, []int{0, 1, 2, 3}}, {"aaa|a|aa|a", "aaa", 1, nil, []int{1, 2, 3}}, {"x.*?|x", "x€é", 1, nil, []int{1, 4, 6}},
	} {
		n := parsed(t, x.pattern)
		if k, e := ways.Count(n, x.s); k != x.count || e != api.OK {
			t.Errorf("%q in %q: Count is %d %d, not %d", x.pattern, x.s, k, e, x.count)
		}
		if l, ok, e := ways.Whole(n, x.s); !slices.Equal(l, x.spans) || ok != (x.count > 0) || e != api.OK {
			t.Errorf("%q in %q: Whole is %v %t %d, not %v", x.pattern, x.s, l, ok, e, x.spans)
		}
		if l, e := ways.Ends(n, x.s); !slices.Equal(l, x.ends) || e != api.OK {
			t.Errorf("%q in %q: Ends is %v %d, not %v", x.pattern, x.s, l, e, x.ends)
		}
	}
}

// R2: each error, and which one goes first.
func TestErrors(t *testing.T) {
	a, b := one('a'), one('b')
	too := alt(times(501, empty())...)
	long := strings.Repeat("a", 33)
	wrong := []Node{{}, {Kind: 7}, {Kind: 255}, {Kind: 1, Min: 1}, {Kind: 1, Lazy: true}, {Kind: 2, Set: []class.Range{{Lo: 2, Hi: 1}}}, {Kind: 2, Set: []class.Range{{Lo: -1, Hi: 1}}}, set(97, 97, 98, 98), {Kind: 1, Set: a.Set}, {Kind: 2, Subs: []Node{a}}, cat(), cat(a), alt(), alt(a), repeat(2, 1, a), repeat(0, 1001, a), repeat(-1, -1, a), repeat(0, -2, a), repeat(0, -1, empty()), repeat(0, 2, repeat(0, 1, a)), {Kind: 5, Max: -1}, {Kind: 5, Max: -1, Subs: []Node{a, b}}, {Kind: 6}, {Kind: 6, Subs: []Node{a, b}}, cat(times(31, group(a))...), group(cat(a, Node{})), alt(a, cat(a)), cat(too, Node{}), repeat(1, 1, set(0, 57344))}
	deep := a
	for range 40 {
		deep = repeat(1, 1, deep)
	}
	for _, n := range append(wrong, deep) {
		for _, s := range []string{"", "a", "\xff", long, long + "\xff"} {
			check(t, n, s, nil, syntax.ErrTree)
		}
	}
	check(t, deep.Subs[0], "a", []Way{{End: 1}}, api.OK)
	check(t, cat(times(30, group(empty()))...), "a", []Way{{0, slices.Repeat([]Span{{0, 0}}, 30)}}, api.OK)
	for _, n := range []Node{a, empty(), dot(), too} {
		for _, s := range []string{long, long + "a", strings.Repeat("é", 16) + "a", strings.Repeat("é", 17), strings.Repeat("\xff", 33), strings.Repeat("a", 32) + "\xff", strings.Repeat("a", 32) + "é", strings.Repeat("\x00", 65536)} {
			check(t, n, s, nil, api.ErrLong)
		}
		for _, s := range []string{"\xff", "\x80", "a\x80", "\xc3", "aé\xc3", "\xe2\x82", "\xed\xa0\x80", "\xed\xbf\xbf", "\xc0\x80", "\xc1\xbf", "\xf4\x90\x80\x80", "\xf8\x88\x80\x80\x80", "\xef\xbf", "\xffa", strings.Repeat("a", 31) + "\xc3", strings.Repeat("\xff", 32)} {
			check(t, n, s, nil, ways.ErrText)
		}
	}
	for _, s := range []string{"", "a", strings.Repeat("a", 32)} {
		check(t, too, s, nil, api.ErrMany)
	}
	if ways.MaxBytes != 32 || ways.MaxWays != 500 || ways.ErrText != 80 {
		t.Error("a constant is not as the chapter has it")
	}
}

// P8.1, Limits: strings as long as they may be.
func TestLongestStrings(t *testing.T) {
	for _, c := range []string{"a", "é", "\U0001f600", "\x00"} {
		s := strings.Repeat(c, 32/len(c))
		var want []Way
		for end := len(s); end >= 0; end -= len(c) {
			want = append(want, Way{End: end})
		}
		check(t, repeat(0, -1, dot()), s, want, api.OK)
		slices.Reverse(want)
		check(t, lazy(0, -1, dot()), s, want, api.OK)
		check(t, lazy(0, 1000, one([]rune(c)[0])), s, want, api.OK)
	}
	// The € has its last byte behind the thirty-second.
	check(t, repeat(0, -1, dot()), strings.Repeat("a", 30)+"€", nil, api.ErrLong)
}

// several returns as many alternatives as there are counts of code points, from a on: so many of each.
func several(counts ...int) Node {
	var l []Node
	for i, k := range counts {
		l = append(l, times(k, one('a'+rune(i)))...)
	}
	return alt(l...)
}

// ErrMany: of the tree, of parts, of first parts, and of times, each with as many as there may be, and one more.
func TestTooManyWays(t *testing.T) {
	a, b, c := one('a'), one('b'), one('c')
	nothing := func(k int) Node { return alt(times(k, empty())...) }
	for i, x := range []struct {
		n Node
		s string
		e api.Errno
	}{
		{nothing(500), "", api.OK}, {nothing(501), "", api.ErrMany}, {several(500), "a", api.OK}, {several(501), "a", api.ErrMany}, {several(501), "b", api.OK}, {several(501), "", api.OK}, {several(300, 300), "a", api.OK}, {several(300, 600), "b", api.ErrMany}, {group(nothing(500)), "", api.OK}, {group(nothing(501)), "", api.ErrMany}, {alt(nothing(250), nothing(250)), "", api.OK}, {alt(nothing(250), nothing(251)), "", api.ErrMany}, {alt(nothing(250), nothing(250), a), "", api.OK}, {alt(nothing(250), a, nothing(250)), "a", api.ErrMany}, {alt(nothing(501), a), "a", api.ErrMany}, {alt(a, nothing(501)), "a", api.ErrMany},
		// A part counts where something leads to it.
		{cat(a, several(0, 501)), "", api.OK}, {cat(a, several(0, 501)), "b", api.OK}, {cat(a, several(0, 501)), "a", api.OK}, {cat(a, several(0, 501)), "aa", api.OK}, {cat(a, several(0, 501)), "ab", api.ErrMany}, {cat(a, several(0, 500)), "ab", api.OK}, {cat(a, nothing(501), b), "a", api.ErrMany}, {cat(a, nothing(501), b), "c", api.OK}, {cat(a, nothing(500), b), "a", api.OK}, {cat(repeat(0, 1, a), several(0, 501), c), "ab", api.ErrMany}, {cat(repeat(0, 1, a), several(0, 501), c), "b", api.ErrMany}, {cat(repeat(0, 1, a), several(0, 500), c), "ab", api.OK}, {cat(lazy(0, 1, a), several(0, 501), c), "ab", api.ErrMany}, {cat(Node{Kind: 2}, nothing(501)), "a", api.OK}, {cat(alt(cat(a, b), a), several(0, 501), c), "ab", api.ErrMany}, {alt(cat(a, b), cat(a, several(0, 501), a)), "ab", api.ErrMany}, {cat(a, alt(b, group(cat(nothing(501), c)))), "a", api.ErrMany}, {cat(a, alt(b, group(cat(nothing(501), c)))), "b", api.OK},
		// What comes to nothing at last counts.
		{cat(several(501), b), "a", api.ErrMany}, {cat(several(501), b), "b", api.OK}, {cat(several(500), b), "a", api.OK}, {cat(several(500), b), "ab", api.OK},
		// First parts together.
		{cat(nothing(20), nothing(25)), "", api.OK}, {cat(nothing(3), nothing(167)), "", api.ErrMany}, {cat(nothing(20), nothing(25), a), "", api.OK}, {cat(nothing(3), nothing(167), a), "", api.ErrMany}, {cat(nothing(2), nothing(250), a, nothing(2)), "", api.OK}, {cat(nothing(2), nothing(250), a, nothing(2)), "a", api.ErrMany}, {cat(a, nothing(3), nothing(167), b), "", api.OK}, {cat(a, nothing(3), nothing(167), b), "a", api.ErrMany}, {cat(nothing(3), cat(nothing(167), a)), "", api.OK}, {cat(cat(nothing(3), nothing(167)), a), "", api.ErrMany}, {cat(nothing(5), nothing(10), nothing(10), a), "", api.OK}, {cat(nothing(5), nothing(10), nothing(11), a), "", api.ErrMany}, {cat(several(3), several(0, 167), c), "ab", api.ErrMany}, {cat(several(20), several(0, 25), c), "ab", api.OK}, {cat(several(3), several(0, 167), c), "aa", api.OK},
		// Some number of times.
		{repeat(2, 2, several(20, 25)), "ab", api.OK}, {repeat(2, 2, several(3, 167)), "ab", api.ErrMany}, {repeat(3, 3, several(20, 25)), "ab", api.OK}, {repeat(3, 3, several(3, 167)), "ab", api.ErrMany}, {repeat(1000, 1000, several(3, 167)), "ab", api.ErrMany}, {lazy(3, -1, several(3, 167)), "ab", api.ErrMany}, {repeat(3, -1, several(20, 25)), "ab", api.OK}, {repeat(0, 1, several(3, 167)), "ab", api.OK}, {repeat(1, 1, several(3, 167)), "ab", api.OK}, {repeat(3, 3, several(3, 167)), "ac", api.OK}, {repeat(2, 2, several(20, 25, 2)), "abc", api.OK}, {repeat(2, 3, several(20, 25, 2)), "abc", api.ErrMany}, {repeat(4, 4, several(20, 25, 1)), "abc", api.OK}, {repeat(4, 4, several(20, 25, 2)), "abc", api.ErrMany}, {repeat(9, 9, several(2)), "aaaaaaaa", api.OK}, {repeat(10, 10, several(2)), "aaaaaaaaa", api.ErrMany}, {repeat(0, -1, several(2)), "aaaaaaaa", api.ErrMany}, {repeat(8, 8, several(2)), "aaaaaaaa", api.OK}, {repeat(8, 8, several(2)), "aaaaaaaaaa", api.OK}, {repeat(9, 9, several(2)), "aaaaaaaaaa", api.ErrMany},
		// All times together.
		{repeat(0, -1, several(20, 24)), "ab", api.ErrMany}, {repeat(1, -1, several(20, 24)), "ab", api.OK}, {lazy(0, 2, several(20, 24)), "ab", api.ErrMany}, {lazy(1, 2, several(20, 24)), "ab", api.OK}, {repeat(0, 1, nothing(500)), "", api.ErrMany}, {repeat(0, 1, nothing(499)), "", api.OK}, {repeat(1, 1, nothing(500)), "", api.OK}, {repeat(1, 1, nothing(501)), "", api.ErrMany}, {repeat(0, -1, several(499)), "a", api.OK}, {lazy(0, -1, several(500)), "a", api.ErrMany},
		// How often a part comes is how often it is gone on with.
		{repeat(0, 0, nothing(501)), "", api.OK}, {lazy(0, 0, several(501)), "a", api.OK}, {repeat(1, 1, several(1, 501)), "ab", api.OK}, {repeat(0, 1, several(1, 501)), "ab", api.OK}, {repeat(1, 2, several(1, 501)), "ab", api.ErrMany}, {repeat(0, -1, several(1, 501)), "ab", api.ErrMany}, {repeat(2, 2, several(1, 1, 501)), "abc", api.OK}, {repeat(2, 2, cat(several(1, 1, 501), one('z'))), "abc", api.OK}, {repeat(2, 3, several(1, 1, 501)), "abc", api.ErrMany},
	} {
		e, ok := checkDefined(t, x.n, x.s)
		if e != x.e || !ok {
			t.Errorf("%d: %s in %q: %d %t, not %d", i, shown(x.n), x.s, e, ok, x.e)
		}
	}
	n := parsed(t, "(a*)a*")
	if l, e := ways.All(n, strings.Repeat("a", 30)); len(l) != 496 || e != api.OK {
		t.Error(len(l), e)
	}
	check(t, n, strings.Repeat("a", 31), nil, api.ErrMany)
}

// points are what strings and sets of the tests are made of.
var points = []rune{'a', 'a', 'a', 'b', 'b', 'é'}

// anyString returns a string of some points.
func anyString(r *rand.Rand, k int) string {
	s := ""
	for range k {
		s += string(points[r.Intn(len(points))])
	}
	return s
}

// anySet returns a set.
func anySet(r *rand.Rand) Node {
	switch r.Intn(12) {
	case 0:
		return dot()
	case 1:
		return set('a', 'b')
	case 2:
		return set('b', 'b', 'é', 'é')
	case 3:
		return set(0, 'a'-1, 'a'+1, 55295, 57344, 1114111)
	case 4:
		return Node{Kind: 2}
	}
	return one(points[r.Intn(len(points))])
}

// anyTree returns a tree of at most some depth, which is right unless it has too many groups.
func anyTree(r *rand.Rand, depth int) Node {
	kind := uint8(1 + r.Intn(6))
	switch {
	case depth > 3:
		kind = uint8(3 + r.Intn(4))
	case depth <= 1 && kind > 2 || kind == 1 && r.Intn(3) > 0:
		kind = 2
	}
	n := Node{Kind: kind}
	switch kind {
	case 2:
		return anySet(r)
	case 3, 4:
		for range 2 + r.Intn(3) {
			n.Subs = append(n.Subs, anyTree(r, depth-1))
		}
	case 5:
		n = anyTimes(r)
		n.Subs = []Node{anyTree(r, depth-1)}
		if !syntax.Right(n) {
			n.Min, n.Max = r.Intn(2), 1
		}
	case 6:
		n.Subs = []Node{anyTree(r, depth-1)}
	}
	return n
}

// anyTimes returns a repetition that has no part yet.
func anyTimes(r *rand.Rand) Node {
	l := []Node{{Max: -1}, {Max: -1}, {Min: 1, Max: -1}, {Max: 1}, {Max: 1}, {Min: 2, Max: 2}, {Min: 1, Max: 2}, {Max: 3}, {Min: 2, Max: -1}, {Min: 1, Max: 1}, {}, {Min: 3, Max: 1000}, {Min: 999, Max: -1}}
	n := l[r.Intn(len(l))]
	n.Kind, n.Lazy = 5, r.Intn(3) == 0
	return n
}

// short calls f with all strings of up to n bytes out of some.
func short(n int, bytes string, f func(s string)) {
	l := []string{""}
	for i := 0; i < len(l); i++ {
		f(l[i])
		if len(l[i]) < n {
			for _, c := range bytes {
				l = append(l, l[i]+string(c))
			}
		}
	}
}

// P8.1 and P8.2: all short patterns of some characters, in some strings.
func TestShortPatterns(t *testing.T) {
	found := 0
	try := func(pattern string) {
		n, e := syntax.Parse(pattern)
		if e != api.OK {
			return
		}
		found++
		for _, s := range []string{"", "a", "ab", "aab", "aaaa"} {
			if _, ok := checkDefined(t, n, s); !ok {
				t.Fatalf("%q in %q: too much for the definition", pattern, s)
			}
			checkMatched(t, n, s)
		}
	}
	short(6, "ab(|)*?", try)
	short(3, "(ab)|+?", func(s string) { try("(?:" + s + "){1,2}"); try("a{2,}" + s + "*"); try("(" + s + "|ab)+?b*") })
	if found < 9000 {
		t.Error("too few patterns:", found)
	}
}

// P8.1, P8.2 and ErrMany: many trees, against the chapter and against the library's regular expressions.
func TestAgainstDefinition(t *testing.T) {
	r := rand.New(rand.NewSource(81))
	found, same, left := map[api.Errno]int{}, 0, 0
	for range 12000 {
		n := anyTree(r, 1+r.Intn(6))
		if !syntax.Right(n) {
			continue
		}
		s := anyString(r, r.Intn(10))
		if r.Intn(8) == 0 {
			s = anyString(r, 10+r.Intn(7))
		}
		if r.Intn(3) == 0 {
			n = changed(n, func(n Node) Node {
				if n.Kind == 2 {
					return one('a')
				}
				return n
			})
			s = strings.Repeat("a", r.Intn(10))
		}
		e, ok := checkDefined(t, n, s)
		if !ok {
			left++
			continue
		}
		found[e]++
		if checkMatched(t, n, s) {
			same++
		}
	}
	if found[api.OK] < 10000 || found[api.ErrMany] < 80 || same < 10000 || left > 50 {
		t.Error("too few trees of one sort:", found, same, left)
	}
}

// aboutMany returns a tree with about as many ways as there may be, if each part of it finds what it takes.
func aboutMany(r *rand.Rand) Node {
	x := 2 + r.Intn(30)
	y := 500/x + r.Intn(3) - 1
	switch r.Intn(6) {
	case 0:
		return cat(alt(times(x, empty())...), alt(times(y, empty())...))
	case 1:
		return cat(several(x), several(0, y))
	case 2:
		return cat(several(x, 0, 1), cat(several(0, y), repeat(0, 1, one('b'))))
	case 3:
		return alt(several(500+r.Intn(3)-1, r.Intn(2)), one('c'))
	case 4:
		return several(499+r.Intn(3), r.Intn(2))
	}
	n := anyTimes(r)
	n.Subs = []Node{several(x, max(y-r.Intn(2), 1))}
	return n
}

// within returns a tree within another one.
func within(r *rand.Rand, n Node) Node {
	switch r.Intn(9) {
	case 0:
		return cat(n, one('c'))
	case 1:
		return cat(one('a'), n)
	case 2:
		return cat(lazy(0, 1, one('a')), n, Node{Kind: 2})
	case 3:
		return alt(n, group(empty()))
	case 4:
		return alt(cat(one('b'), n), group(one('a')))
	case 5:
		return group(n)
	case 6:
		return repeat(0, 1, n)
	case 7:
		return lazy(r.Intn(2), 1, n)
	}
	return repeat(0, 0, n)
}

// ErrMany: trees with about as many ways as there may be.
func TestAboutManyWays(t *testing.T) {
	r := rand.New(rand.NewSource(82))
	found, near := map[api.Errno]int{}, 0
	for range 2500 {
		n, s := aboutMany(r), []string{"", "a", "ab", "ab", "aab", "aba", "bab"}[r.Intn(7)]
		for range r.Intn(4) {
			n = within(r, n)
		}
		e, ok := checkDefined(t, n, s)
		if !ok {
			continue
		}
		found[e]++
		if l, _ := ways.All(n, s); len(l) > 490 {
			near++
		}
	}
	if found[api.OK] < 1000 || found[api.ErrMany] < 300 || near < 100 {
		t.Error("too few trees of one sort:", found, near)
	}
}

// unfolded returns a copy of a tree, with what lies behind the ends of its lists.
func unfolded(n Node) Node {
	n.Set = slices.Clone(n.Set[:cap(n.Set)])
	n.Subs = slices.Clone(n.Subs[:cap(n.Subs)])
	for i := range n.Subs {
		n.Subs[i] = unfolded(n.Subs[i])
	}
	return n
}

// R3: arguments stay as they are, and so does what lies behind the ends of their lists.
func TestArgumentsStay(t *testing.T) {
	r := rand.New(rand.NewSource(83))
	for range 5000 {
		n := changed(anyTree(r, 1+r.Intn(5)), func(n Node) Node {
			n.Set = append(n.Set, class.Range{Lo: 1, Hi: 2})[:len(n.Set)]
			n.Subs = append(n.Subs, one('x'))[:len(n.Subs)]
			return n
		})
		before, s := unfolded(n), anyString(r, r.Intn(6))
		ways.All(n, s)
		ways.First(n, s)
		ways.Whole(n, s)
		ways.Ends(n, s)
		ways.Count(n, s)
		if !syntax.Same(before, unfolded(n)) {
			t.Fatalf("%s in %q: the tree has changed", shown(n), s)
		}
	}
}

// R3 and R4: each result has its own memory, and is there again.
func TestResultsShareNothing(t *testing.T) {
	r := rand.New(rand.NewSource(84))
	spoilt := 0
	spoil := func(l []Span) {
		for i := range l[:cap(l)] {
			l[:cap(l)][i] = Span{-7, -7}
			spoilt++
		}
	}
	trees := []Node{parsed(t, "(a)?(b)?"), parsed(t, "(a*)(a*)"), parsed(t, "(a)|(a)|()"), parsed(t, "((a)|b)*"), parsed(t, "(a){0}"), group(group(repeat(1, 1, group(one('a'))))), alt(group(one('a')), empty()), parsed(t, "(a|)(?:|)(?:|)")}
	for i := range 3000 {
		s, n := "aab", anyTree(r, 1+r.Intn(5))
		if i < len(trees) {
			n = trees[i]
		}
		l, _ := ways.All(n, s)
		kept, e := ways.All(n, s)
		for i := range l {
			before := make([]Way, len(l))
			for k, w := range l {
				before[k] = Way{w.End, slices.Clone(w.Spans)}
			}
			spoil(l[i].Spans)
			l[i].End, before[i] = -7, Way{-7, l[i].Spans}
			if !isSame(l, before) {
				t.Fatalf("%s in %q: the spans of way %d are also those of another one", shown(n), s, i)
			}
		}
		w, ok, _ := ways.First(n, s)
		spoil(w.Spans)
		spans, _, _ := ways.Whole(n, s)
		spoil(spans)
		ends, _ := ways.Ends(n, s)
		for i := range ends {
			ends[i] = -7
		}
		if ok != (len(kept) > 0) {
			t.Fatalf("%s in %q: First is %t", shown(n), s, ok)
		}
		if syntax.Right(n) {
			check(t, n, s, kept, e)
		}
	}
	if spoilt < 5000 {
		t.Error("too few spans:", spoilt)
	}
}

// R5: lists that are nil are like empty ones.
func TestEmptyLists(t *testing.T) {
	for _, n := range []Node{{Kind: 1, Set: []class.Range{}, Subs: []Node{}}, {Kind: 1}} {
		check(t, n, "a", []Way{{End: 0}}, api.OK)
		check(t, group(n), "", []Way{{0, []Span{{0, 0}}}}, api.OK)
	}
	for _, n := range []Node{{Kind: 2, Set: []class.Range{}, Subs: []Node{}}, {Kind: 2}} {
		check(t, n, "a", nil, api.OK)
		check(t, alt(n, one('a')), "a", []Way{{End: 1}}, api.OK)
		check(t, repeat(0, -1, n), "a", []Way{{End: 0}}, api.OK)
	}
}

// R1: trees whose parts share memory have groups of their own at each place where they stand.
func TestSharedParts(t *testing.T) {
	a, b := group(one('a')), group(alt(one('b'), empty()))
	l := []Node{a, b, repeat(0, 1, a), one('a'), b}
	for _, n := range []Node{
		cat(a, a), cat(b, b, a), alt(cat(a, b), cat(a, b)), repeat(0, 1, cat(b, a, b)), cat(l[0:2]...), cat(cat(l[0:2]...), cat(l[1:3]...)), alt(cat(l[0:3]...), cat(l[0:2]...), cat(l[2:4]...)), cat(group(cat(l[0:2]...)), group(cat(l[0:2]...)), alt(l[1:5]...)), alt(l...), cat(l...), cat(cat(l...), cat(l...)), repeat(0, 2, alt(l[0:1:1][0], cat(l[3:5]...))),
	} {
		for _, s := range []string{"", "a", "ab", "aab", "abab", "aaba"} {
			got, e := ways.All(n, s)
			if want, wrong := ways.All(copyOf(n), s); e != wrong || !isSame(got, want) {
				t.Fatalf("%s in %q: %v %d, not %v %d", shown(n), s, got, e, want, wrong)
			}
			if _, ok := checkDefined(t, n, s); !ok {
				t.Fatalf("%s in %q: too much for the definition", shown(n), s)
			}
		}
	}
}

// R1: trees of more nodes than can be gone through, and parts that would be gone through again and again.
func TestHugeTrees(t *testing.T) {
	aged := func(n Node, years int, f func(n Node) Node) Node {
		for range years {
			n = f(n)
		}
		return n
	}
	a, b := one('a'), one('b')
	s := strings.Repeat("a", 32)
	check(t, aged(empty(), 39, func(n Node) Node { return cat(times(50, n)...) }), s, []Way{{End: 0}}, api.OK)
	check(t, aged(Node{Kind: 2}, 39, func(n Node) Node { return alt(times(50, n)...) }), s, nil, api.OK)
	check(t, aged(empty(), 39, func(n Node) Node { return alt(times(50, n)...) }), s, nil, api.ErrMany)
	check(t, aged(a, 39, func(n Node) Node { return alt(n, n) }), "b", nil, api.OK)
	check(t, aged(a, 39, func(n Node) Node { return alt(n, n) }), "a", nil, api.ErrMany)
	check(t, aged(a, 19, func(n Node) Node { return alt(times(400, cat(n, b))...) }), s, nil, api.OK)
	check(t, aged(a, 39, func(n Node) Node { return cat(n, n) }), s, nil, api.OK)
	check(t, aged(a, 5, func(n Node) Node { return cat(n, n) }), s, []Way{{End: 32}}, api.OK)
	check(t, aged(b, 13, func(n Node) Node { return cat(alt(times(400, empty())...), n, Node{Kind: 2}) }), s, nil, api.OK)
	check(t, aged(b, 13, func(n Node) Node { return cat(repeat(0, -1, a), repeat(0, 9, a), n, Node{Kind: 2}) }), s, nil, api.OK)
	check(t, aged(a, 39, func(n Node) Node { return repeat(1000, 1000, n) }), s, nil, api.OK)
	check(t, aged(cat(repeat(0, -1, a), b), 19, func(n Node) Node { return repeat(0, -1, group(n)) }), s, nil, syntax.ErrTree)
	check(t, aged(cat(repeat(0, -1, a), b), 18, func(n Node) Node { return repeat(1, -1, group(n)) }), s, nil, api.OK)
	check(t, aged(a, 38, func(n Node) Node { return repeat(1, -1, n) }), s, nil, api.ErrMany)
	wide := make([]Node, 100000)
	for i := range wide {
		wide[i] = empty()
	}
	check(t, cat(alt(times(400, empty())...), cat(wide...), cat(wide...), b), s, nil, api.OK)
	check(t, alt(wide...), s, nil, api.ErrMany)
	for i := range wide {
		wide[i] = b
	}
	check(t, repeat(0, -1, alt(alt(wide...), a)), s[:3], []Way{{End: 3}, {End: 2}, {End: 1}, {End: 0}}, api.OK)
	// A list of parts that is a part of itself has no depth.
	self := make([]Node, 2)
	self[0], self[1] = cat(self...), a
	self[0].Subs = self
	check(t, cat(self...), s, nil, syntax.ErrTree)
}

// P8.3: what is lazy takes the same, in another order.
func TestLazyIsAnotherOrder(t *testing.T) {
	r := rand.New(rand.NewSource(85))
	order := func(v, w Way) int {
		if v.End != w.End {
			return v.End - w.End
		}
		return slices.CompareFunc(v.Spans, w.Spans, func(x, y Span) int {
			if x.From != y.From {
				return x.From - y.From
			}
			return x.To - y.To
		})
	}
	other := 0
	for range 20000 {
		n, s := anyTree(r, 5), anyString(r, r.Intn(8))
		l, e := ways.All(n, s)
		m, f := ways.All(changed(n, func(n Node) Node { n.Lazy = n.Kind == 5 && !n.Lazy; return n }), s)
		if !isSame(l, m) {
			other++
		}
		slices.SortFunc(l, order)
		slices.SortFunc(m, order)
		if e != f || !isSame(l, m) {
			t.Fatalf("%s in %q: %v %d, and the other way round %v %d", shown(n), s, l, e, m, f)
		}
	}
	if other < 1000 {
		t.Error("too few trees whose order changes:", other)
	}
}

// P8.3: ends do not depend on groups.
func TestEndsWithoutGroups(t *testing.T) {
	r := rand.New(rand.NewSource(86))
	for range 10000 {
		n, s := anyTree(r, 5), anyString(r, r.Intn(8))
		if !syntax.Right(n) {
			continue
		}
		l, e := ways.Ends(n, s)
		m, f := ways.Ends(changed(n, func(n Node) Node {
			if n.Kind == 6 {
				return n.Subs[0]
			}
			return n
		}), s)
		if e != f || !slices.Equal(l, m) {
			t.Fatalf("%s in %q: %v %d, without groups %v %d", shown(n), s, l, e, m, f)
		}
	}
}

// P8.3: of two alternatives the ways of the first one come first; a way that takes the whole string is one of All.
func TestAlternativesInOrder(t *testing.T) {
	r := rand.New(rand.NewSource(87))
	no := Span{-1, -1}
	for range 10000 {
		x, y, s := anyTree(r, 4), anyTree(r, 4), anyString(r, r.Intn(8))
		all, e := ways.All(alt(x, y), s)
		l, f := ways.All(x, s)
		m, g := ways.All(y, s)
		if e != api.OK || f+g != api.OK {
			continue
		}
		var want []Way
		for _, w := range l {
			want = append(want, Way{w.End, slices.Concat(w.Spans, slices.Repeat([]Span{no}, groupsOf(y)))})
		}
		for _, w := range m {
			want = append(want, Way{w.End, slices.Concat(slices.Repeat([]Span{no}, groupsOf(x)), w.Spans)})
		}
		if !isSame(all, want) {
			t.Fatalf("%s or %s in %q: %v, not %v", shown(x), shown(y), s, all, want)
		}
		spans, ok, _ := ways.Whole(alt(x, y), s)
		if k, _ := ways.Count(alt(x, y), s); ok != (k > 0) {
			t.Fatalf("%s or %s in %q: Whole is %t, Count %d", shown(x), shown(y), s, ok, k)
		}
		if ok && !slices.ContainsFunc(all, func(w Way) bool { return w.End == len(s) && slices.Equal(w.Spans, spans) }) {
			t.Fatalf("%s or %s in %q: %v is not one of %v", shown(x), shown(y), s, spans, all)
		}
	}
}
