package prog_test

import (
	"fmt"
	"math"
	"math/big"
	"math/rand"
	"regexp"
	"slices"
	"strings"
	"testing"
	"unicode/utf8"

	"gauger/api"
	"gauger/class"
	"gauger/prog"
	"gauger/syntax"
	"gauger/ways"
)

// Node, Inst and Prog are these types, by shorter names.
type (
	Node = syntax.Node
	Inst = prog.Inst
	Prog = prog.Prog
)

func empty() Node { return Node{Kind: 1} }

// ranges returns the ranges of Lo and Hi, in turn.
func ranges(l ...int) []class.Range {
	var all []class.Range
	for i := 0; i < len(l); i += 2 {
		all = append(all, class.Range{Lo: l[i], Hi: l[i+1]})
	}
	return all
}

func set(l ...int) Node { return Node{Kind: 2, Set: ranges(l...)} }

// one returns the set of a code point.
func one(c rune) Node { return set(int(c), int(c)) }

func cat(l ...Node) Node { return Node{Kind: 3, Subs: l} }

func alt(l ...Node) Node { return Node{Kind: 4, Subs: l} }

func repeat(least, most int, n Node) Node {
	return Node{Kind: 5, Min: least, Max: most, Subs: []Node{n}}
}

func lazy(least, most int, n Node) Node {
	return Node{Kind: 5, Min: least, Max: most, Lazy: true, Subs: []Node{n}}
}

func group(n Node) Node { return Node{Kind: 6, Subs: []Node{n}} }

// times returns a node as often as it is wanted.
func times(k int, n Node) []Node { return slices.Repeat([]Node{n}, k) }

// aged returns a tree with something put around it again and again.
func aged(n Node, years int, f func(n Node) Node) Node {
	for range years {
		n = f(n)
	}
	return n
}

// The instructions.
func take(l ...int) Inst { return Inst{Op: 1, Set: ranges(l...)} }

func split(x, y int) Inst { return Inst{Op: 2, X: x, Y: y} }

func jump(x int) Inst { return Inst{Op: 3, X: x} }

func save(x int) Inst { return Inst{Op: 4, X: x} }

func match() Inst { return Inst{Op: 5} }

// with returns a program.
func with(groups int, l ...Inst) Prog { return Prog{l, groups} }

// parsed returns the tree of a pattern.
func parsed(t *testing.T, pattern string) Node {
	t.Helper()
	n, e := syntax.Parse(pattern)
	if e != api.OK {
		t.Fatalf("%q is no pattern: %d", pattern, e)
	}
	return n
}

// compiled returns the program of a tree.
func compiled(t *testing.T, n Node) Prog {
	t.Helper()
	p, e := prog.Compile(n)
	if e != api.OK {
		t.Fatalf("%s: Compile returned the error %d", shown(n), e)
	}
	return p
}

// shown is a tree, to be read: not all of it, as there are trees without an end.
func shown(n Node) string {
	s, e := syntax.Text(n)
	if e != api.OK {
		return fmt.Sprintf("a tree of kind %d (%d)", n.Kind, e)
	}
	return fmt.Sprintf("%.200q", s)
}

// copyOf returns a tree that shares no memory with the one it is equal to.
func copyOf(n Node) Node {
	n.Set = slices.Clone(n.Set)
	n.Subs = slices.Clone(n.Subs)
	for i := range n.Subs {
		n.Subs[i] = copyOf(n.Subs[i])
	}
	return n
}

// copyOfProg returns a program that shares no memory with the one it is equal to.
func copyOfProg(p Prog) Prog {
	p.Insts = slices.Clone(p.Insts)
	for i := range p.Insts {
		p.Insts[i].Set = slices.Clone(p.Insts[i].Set)
	}
	return p
}

// isSame tells whether programs are equal.
func isSame(p, q Prog) bool {
	return p.Groups == q.Groups && slices.EqualFunc(p.Insts, q.Insts, func(i, j Inst) bool {
		return i.Op == j.Op && i.X == j.X && i.Y == j.Y && slices.Equal(i.Set, j.Set)
	})
}

// groupsOf is how many groups a tree has.
func groupsOf(n Node) int {
	k := 0
	if n.Kind == 6 {
		k = 1
	}
	for _, x := range n.Subs {
		k += groupsOf(x)
	}
	return k
}

// codeOf is the code of a part by the chapter, if so many groups begin before it, and if it stands at a place.
func codeOf(n Node, before, at int) []Inst {
	switch n.Kind {
	case 2:
		return []Inst{{Op: 1, Set: n.Set}}
	case 3:
		var l []Inst
		for _, x := range n.Subs {
			l = append(l, codeOf(x, before, at+len(l))...)
			before += groupsOf(x)
		}
		return l
	case 4:
		return codeOfAlternatives(n.Subs, before, at)
	case 5:
		return codeOfTimes(n, n.Min, n.Max, before, at)
	case 6:
		return slices.Concat([]Inst{save(2 * before)}, codeOf(n.Subs[0], before+1, at+1), []Inst{save(2*before + 1)})
	}
	return nil
}

// codeOfAlternatives is the code of the first one, and then that of all others.
func codeOfAlternatives(l []Node, before, at int) []Inst {
	first := l[0]
	if len(l) == 1 {
		return codeOf(first, before, at)
	}
	code := codeOf(first, before, at+1)
	behind := at + 1 + len(code) + 1
	others := codeOfAlternatives(l[1:], before+groupsOf(first), behind)
	return slices.Concat([]Inst{split(at+1, behind)}, code, []Inst{jump(behind + len(others))}, others)
}

// codeOfTimes is the code of a repetition from least to most times: that of one time, and then that of one time less.
func codeOfTimes(n Node, least, most, before, at int) []Inst {
	either := split
	if n.Lazy {
		either = func(x, y int) Inst { return split(y, x) }
	}
	switch {
	case least > 0:
		code := codeOf(n.Subs[0], before, at)
		return append(code, codeOfTimes(n, least-1, max(most-1, -1), before, at+len(code))...)
	case most == 0:
		return nil
	}
	code := codeOf(n.Subs[0], before, at+1)
	behind := at + 1 + len(code)
	if most == -1 {
		return slices.Concat([]Inst{either(at+1, behind+1)}, code, []Inst{jump(at)})
	}
	others := codeOfTimes(n, 0, most-1, before, behind)
	return slices.Concat([]Inst{either(at+1, behind+len(others))}, code, others)
}

// sizeOf is how many instructions the code of a part has by the chapter, without bounds.
func sizeOf(n Node) *big.Int {
	size := new(big.Int)
	add := func(k int64, parts ...Node) {
		size.Add(size, big.NewInt(k))
		for _, x := range parts {
			size.Add(size, sizeOf(x))
		}
	}
	switch n.Kind {
	case 2:
		add(1)
	case 3:
		add(0, n.Subs...)
	case 4:
		for i, x := range n.Subs {
			add(int64(2*min(i, 1)), x)
		}
	case 5:
		add(0, n.Subs...)
		one := new(big.Int).Set(size)
		size.Mul(one, big.NewInt(int64(n.Min)))
		if n.Max == -1 {
			return size.Add(size, one.Add(one, big.NewInt(2)))
		}
		size.Add(size, one.Mul(one.Add(one, big.NewInt(1)), big.NewInt(int64(n.Max-n.Min))))
	case 6:
		add(2, n.Subs...)
	}
	return size
}

// checkTree holds Size and Compile of a right tree against the chapter, and returns the error.
func checkTree(t *testing.T, n Node) api.Errno {
	t.Helper()
	size, want, wrong := 1001, Prog{}, api.ErrLong
	if k := sizeOf(n); k.Cmp(big.NewInt(1000)) < 0 {
		size = int(k.Int64()) + 1
		want, wrong = Prog{append(codeOf(n, 0, 0), match()), groupsOf(n)}, api.OK
	}
	check(t, n, size, want, wrong)
	return wrong
}

// check holds Size and Compile of a right tree against what is wanted.
func check(t *testing.T, n Node, size int, want Prog, wrong api.Errno) {
	t.Helper()
	if k, e := prog.Size(n); k != size || e != api.OK {
		t.Fatalf("%s: Size is %d %d, not %d", shown(n), k, e, size)
	}
	if p, e := prog.Compile(n); !isSame(p, want) || e != wrong {
		t.Fatalf("%s: Compile is %v %d, not %v %d", shown(n), p, e, want, wrong)
	}
	if wrong == api.OK && !prog.Right(want) {
		t.Fatalf("%s: the program is not right", shown(n))
	}
}

// P9.1 and P9.4: the program of each kind; the examples of the chapter.
func TestPrograms(t *testing.T) {
	for _, x := range []struct {
		pattern, lines string
		groups         int
	}{
		{"a|b*", "split 1 3; set [a]; jump 6; split 4 6; set [b]; jump 3; match", 0}, {"(x)??", "split 4 1; save 0; set [x]; save 1; match", 1}, {"x{2}", "set [x]; set [x]; match", 0}, {"x{1,3}", "set [x]; split 2 5; set [x]; split 4 5; set [x]; match", 0},

		{"", "match", 0}, {"(?:)(?:)", "match", 0}, {"a", "set [a]; match", 0}, {".", `set [\x{0}-\x{D7FF}\x{E000}-\x{10FFFF}]; match`, 0}, {`[^\x{0}-\x{10FFFF}]`, `set [^\x{0}-\x{10FFFF}]; match`, 0}, {`\d-é`, `set [0-9]; set [\x{2D}]; set [\x{E9}]; match`, 0}, {"[a-ce]", "set [a-ce]; match", 0}, {" ", `set [\x{20}]; match`, 0},
		{"abc", "set [a]; set [b]; set [c]; match", 0}, {"a(?:)b", "set [a]; set [b]; match", 0}, {"(?:ab)c", "set [a]; set [b]; set [c]; match", 0},
		{"a|b", "split 1 3; set [a]; jump 4; set [b]; match", 0}, {"a|b|c", "split 1 3; set [a]; jump 7; split 4 6; set [b]; jump 7; set [c]; match", 0}, {"|", "split 1 2; jump 2; match", 0}, {"||", "split 1 2; jump 4; split 3 4; jump 4; match", 0}, {"|a", "split 1 2; jump 3; set [a]; match", 0}, {"ab|c|", "split 1 4; set [a]; set [b]; jump 7; split 5 7; set [c]; jump 7; match", 0}, {"a|(?:b|c)|d", "split 1 3; set [a]; jump 10; split 4 9; split 5 7; set [b]; jump 8; set [c]; jump 10; set [d]; match", 0}, {"x(?:a|b)y", "set [x]; split 2 4; set [a]; jump 5; set [b]; set [y]; match", 0},
		{"a*", "split 1 3; set [a]; jump 0; match", 0}, {"a*?", "split 3 1; set [a]; jump 0; match", 0}, {"a+", "set [a]; split 2 4; set [a]; jump 1; match", 0}, {"a+?", "set [a]; split 4 2; set [a]; jump 1; match", 0}, {"a?", "split 1 2; set [a]; match", 0}, {"a??", "split 2 1; set [a]; match", 0}, {"xa*y", "set [x]; split 2 4; set [a]; jump 1; set [y]; match", 0}, {"(?:)?", "split 1 1; match", 0}, {"(?:)??", "split 1 1; match", 0}, {"(?:ab)*", "split 1 4; set [a]; set [b]; jump 0; match", 0}, {"(?:a|b)*", "split 1 6; split 2 4; set [a]; jump 5; set [b]; jump 0; match", 0}, {"(?:a*b)*", "split 1 6; split 2 4; set [a]; jump 1; set [b]; jump 0; match", 0}, {"(?:a*?)?", "split 1 4; split 4 2; set [a]; jump 1; match", 0},
		{"a{0}", "match", 0}, {"a{0}?", "match", 0}, {"a{1}", "set [a]; match", 0}, {"a{1}?", "set [a]; match", 0}, {"a{3}?", "set [a]; set [a]; set [a]; match", 0}, {"a{0,2}", "split 1 4; set [a]; split 3 4; set [a]; match", 0}, {"a{0,2}?", "split 4 1; set [a]; split 4 3; set [a]; match", 0}, {"a{2,3}", "set [a]; set [a]; split 3 4; set [a]; match", 0}, {"a{1,3}?", "set [a]; split 5 2; set [a]; split 5 4; set [a]; match", 0}, {"a{2,}", "set [a]; set [a]; split 3 5; set [a]; jump 2; match", 0}, {"a{2,}?", "set [a]; set [a]; split 5 3; set [a]; jump 2; match", 0}, {"(?:){1}", "match", 0}, {"(?:a{0}){1}", "match", 0}, {"(?:a{2}){2}", "set [a]; set [a]; set [a]; set [a]; match", 0}, {"(?:a+){1,2}", "set [a]; split 2 4; set [a]; jump 1; split 5 9; set [a]; split 7 9; set [a]; jump 6; match", 0},
		{"()", "save 0; save 1; match", 1}, {"(a)(b)", "save 0; set [a]; save 1; save 2; set [b]; save 3; match", 2}, {"((a)b)(c)", "save 0; save 2; set [a]; save 3; set [b]; save 1; save 4; set [c]; save 5; match", 3}, {"(a)|(b)", "split 1 5; save 0; set [a]; save 1; jump 8; save 2; set [b]; save 3; match", 2}, {"(a)|(b)|()", "split 1 5; save 0; set [a]; save 1; jump 12; split 6 10; save 2; set [b]; save 3; jump 12; save 4; save 5; match", 3}, {"(a){2}(b)", "save 0; set [a]; save 1; save 0; set [a]; save 1; save 2; set [b]; save 3; match", 2}, {"(a){0,2}", "split 1 8; save 0; set [a]; save 1; split 5 8; save 0; set [a]; save 1; match", 1}, {"(a){0}(b)", "save 2; set [b]; save 3; match", 2}, {"((a){0}(b)){0}", "match", 3}, {"(?:(a){0}|(b))(c)", "split 1 2; jump 5; save 2; set [b]; save 3; save 4; set [c]; save 5; match", 3}, {"(x)(?:(a)(b)){2}(c)", "save 0; set [x]; save 1; save 2; set [a]; save 3; save 4; set [b]; save 5; save 2; set [a]; save 3; save 4; set [b]; save 5; save 6; set [c]; save 7; match", 4}, {"(a)+", "save 0; set [a]; save 1; split 4 8; save 0; set [a]; save 1; jump 3; match", 1},
	} {
		n := parsed(t, x.pattern)
		p, e := prog.Compile(n)
		l, f := prog.Lines(p)
		if strings.Join(l, "; ") != x.lines || p.Groups != x.groups || e+f != api.OK {
			t.Errorf("%q: %q with %d groups (errors %d, %d), not %q with %d", x.pattern, strings.Join(l, "; "), p.Groups, e, f, x.lines, x.groups)
		}
		if e := checkTree(t, n); e != api.OK {
			t.Errorf("%q: the definition has the error %d", x.pattern, e)
		}
	}
}

// P9.1: sizes of up to 1000 instructions, and greater ones.
func TestSizes(t *testing.T) {
	a, chain := one('a'), cat(times(999, one('a'))...)
	options := cat(times(499, repeat(0, 1, a))...)
	for i, x := range []struct {
		n    Node
		size int
	}{
		{parsed(t, "(?:x{100}){10}"), 1001}, {parsed(t, "(?:x{111}){9}"), 1000}, {empty(), 1}, {a, 2}, {set(), 2}, {chain, 1000}, {cat(chain, a), 1001}, {cat(chain, empty(), repeat(0, 0, chain)), 1000}, {cat(cat(a, empty()), chain), 1001}, {cat(chain, chain), 1001}, {cat(a, repeat(0, 0, cat(chain, chain))), 2}, {repeat(1, 1, chain), 1000}, {repeat(0, 0, chain), 1}, {repeat(0, 1, chain), 1001}, {group(chain), 1001},
		{repeat(999, 999, a), 1000}, {repeat(1000, 1000, a), 1001}, {repeat(0, 499, a), 999}, {repeat(1, 500, a), 1000}, {lazy(1, 500, a), 1000}, {repeat(0, 500, a), 1001}, {lazy(0, 500, a), 1001}, {repeat(0, 1000, a), 1001}, {repeat(1000, 1000, repeat(1000, 1000, chain)), 1001}, {repeat(996, -1, a), 1000}, {repeat(997, -1, a), 1001}, {repeat(1000, -1, a), 1001}, {repeat(0, -1, a), 4}, {repeat(0, 1, empty()), 2}, {repeat(0, 1, cat(a, options)), 1001}, {options, 999}, {repeat(0, 1, options), 1000}, {cat(options, a), 1000}, {cat(options, a, a), 1001}, {repeat(1, 1, cat(options, a)), 1000},
		{alt(times(500, empty())...), 999}, {alt(times(501, empty())...), 1001}, {alt(append(times(499, empty()), a)...), 1000}, {alt(append(times(499, empty()), cat(a, a))...), 1001}, {alt(times(334, a)...), 1001}, {alt(times(333, a)...), 998}, {alt(chain, a), 1001}, {alt(cat(times(996, a)...), a), 1000}, {alt(cat(times(997, a)...), a), 1001}, {alt(chain, chain), 1001},
		{group(cat(times(997, a)...)), 1000}, {group(cat(times(998, a)...)), 1001}, {cat(append(times(30, group(empty())), times(939, a)...)...), 1000}, {cat(append(times(30, group(empty())), times(940, a)...)...), 1001}, {aged(a, 30, group), 62}, {aged(a, 39, func(n Node) Node { return repeat(0, 1, n) }), 41},
	} {
		if k, e := prog.Size(x.n); k != x.size || e != api.OK {
			t.Errorf("%d: the size is %d %d, not %d", i, k, e, x.size)
		}
		if e := checkTree(t, x.n); (e == api.OK) != (x.size <= 1000) {
			t.Errorf("%d: the error is %d", i, e)
		}
	}
}

// R2: trees that are not right, whatever their size.
func TestTreeErrors(t *testing.T) {
	a, b := one('a'), one('b')
	long := repeat(1000, 1000, a)
	wrong := []Node{{}, {Kind: 7}, {Kind: 255}, {Kind: 1, Min: 1}, {Kind: 1, Lazy: true}, {Kind: 2, Set: ranges(2, 1)}, {Kind: 2, Set: ranges(-1, 1)}, set(97, 97, 98, 98), {Kind: 1, Set: a.Set}, {Kind: 2, Subs: []Node{a}}, cat(), cat(a), alt(), alt(a), repeat(2, 1, a), repeat(0, 1001, a), repeat(-1, -1, a), repeat(0, -2, a), repeat(0, -1, empty()), repeat(0, 2, repeat(0, 1, a)), {Kind: 5, Max: -1}, {Kind: 5, Max: -1, Subs: []Node{a, b}}, {Kind: 6}, {Kind: 6, Subs: []Node{a, b}}, cat(times(31, group(a))...), group(cat(a, Node{})), alt(a, cat(a)), cat(long, Node{}), repeat(0, 0, Node{}), repeat(1, 1, set(0, 57344)), aged(a, 40, func(n Node) Node { return repeat(1, 1, n) }), aged(a, 40, func(n Node) Node { return repeat(1000, 1000, n) })}
	// A list of parts that is a part of itself has no depth.
	self := make([]Node, 2)
	self[0], self[1] = cat(self...), a
	self[0].Subs = self
	for _, n := range append(wrong, cat(self...)) {
		if k, e := prog.Size(n); k != 0 || e != syntax.ErrTree {
			t.Errorf("%s: Size is %d %d", shown(n), k, e)
		}
		if p, e := prog.Compile(n); !isSame(p, Prog{}) || e != syntax.ErrTree {
			t.Errorf("%s: Compile is %v %d", shown(n), p, e)
		}
	}
	if e := checkTree(t, aged(a, 39, func(n Node) Node { return repeat(1, 1, n) })); e != api.OK {
		t.Error(e)
	}
	if prog.MaxInsts != 1000 || prog.MaxBytes != 65536 || prog.ErrProg != 90 || prog.ErrText != 91 || prog.OpSet != 1 || prog.OpSplit != 2 || prog.OpJump != 3 || prog.OpSave != 4 || prog.OpMatch != 5 {
		t.Error("a constant is not as the chapter has it")
	}
}

// points are what strings and sets of the tests are made of.
var points = []rune{'a', 'a', 'a', 'b', 'b', 'é'}

// anyString returns a string of some points.
func anyString(r *rand.Rand, k int) string {
	s := ""
	for range k {
		s += string(points[r.Intn(len(points))])
	}
	return s
}

// anySet returns a set.
func anySet(r *rand.Rand) []class.Range {
	switch r.Intn(12) {
	case 0:
		return ranges(0, 55295, 57344, 1114111)
	case 1:
		return ranges('a', 'b')
	case 2:
		return ranges('b', 'b', 'é', 'é')
	case 3:
		return ranges(0, 'a'-1, 'c', 55295, 57344, 1114111)
	case 4:
		return nil
	}
	c := int(points[r.Intn(len(points))])
	return ranges(c, c)
}

// anyTree returns a tree of at most some depth, which is right unless it has too many groups.
func anyTree(r *rand.Rand, depth int) Node {
	kind := uint8(1 + r.Intn(6))
	switch {
	case depth > 3:
		kind = uint8(3 + r.Intn(4))
	case depth <= 1 && kind > 2 || kind == 1 && r.Intn(3) > 0:
		kind = 2
	}
	n := Node{Kind: kind}
	switch kind {
	case 2:
		n.Set = anySet(r)
	case 3, 4:
		for range 2 + r.Intn(3) {
			n.Subs = append(n.Subs, anyTree(r, depth-1))
		}
	case 5:
		n = anyTimes(r)
		n.Subs = []Node{anyTree(r, depth-1)}
		if !syntax.Right(n) {
			n.Min, n.Max = r.Intn(2), 1
		}
	case 6:
		n.Subs = []Node{anyTree(r, depth-1)}
	}
	return n
}

// anyTimes returns a repetition that has no part yet.
func anyTimes(r *rand.Rand) Node {
	l := []Node{{Max: -1}, {Max: -1}, {Min: 1, Max: -1}, {Max: 1}, {Max: 1}, {Min: 2, Max: 2}, {Min: 1, Max: 2}, {Max: 3}, {Min: 2, Max: -1}, {Min: 1, Max: 1}, {}, {Min: 2, Max: 5}, {Min: 29, Max: 33}, {Min: 40, Max: -1}}
	n := l[r.Intn(len(l))]
	n.Kind, n.Lazy = 5, r.Intn(3) == 0
	return n
}

// P9.1: many trees, against the chapter.
func TestCompileAgainstDefinition(t *testing.T) {
	r := rand.New(rand.NewSource(91))
	found := map[api.Errno]int{}
	for range 20000 {
		n := anyTree(r, 1+r.Intn(6))
		if k := r.Intn(300); k > 0 && r.Intn(3) == 0 {
			n = cat(repeat(k, k, n), n)
		}
		if !syntax.Right(n) {
			continue
		}
		found[checkTree(t, n)]++
	}
	if found[api.OK] < 10000 || found[api.ErrLong] < 1000 {
		t.Error("too few trees of one sort:", found)
	}
}

// P9.1, R1: trees whose parts share memory have groups of their own at each place where they stand.
func TestSharedParts(t *testing.T) {
	a, b := group(one('a')), group(alt(one('b'), empty()))
	l := []Node{a, b, repeat(0, 1, a), one('a'), b}
	both := []Node{a, group(repeat(1, -1, one('b')))}
	for _, n := range []Node{
		cat(a, a), cat(b, b, a), alt(cat(a, b), cat(a, b)), repeat(0, 1, cat(b, a, b)), cat(l[0:2]...), cat(cat(l[0:2]...), cat(l[1:3]...)), alt(cat(l[0:3]...), cat(l[0:2]...), cat(l[2:4]...)), cat(group(cat(l[0:2]...)), group(cat(l[0:2]...)), alt(l[1:5]...)), alt(l...), cat(l...), cat(cat(l...), cat(l...)), repeat(0, 2, alt(l[0:1:1][0], cat(l[3:5]...))),
		// The same parts, but nodes of other sorts, or other parts of the same list.
		cat(alt(both...), cat(both...), alt(both...), cat(both...)), cat(cat(l[:2]...), cat(l[:3]...), cat(l[:2]...), alt(l[1:3]...)), cat(Node{Kind: 5, Max: 1, Subs: both[:1]}, Node{Kind: 6, Subs: both[:1]}, Node{Kind: 5, Max: 2, Subs: both[:1]}, Node{Kind: 5, Min: 1, Max: 2, Subs: both[:1]}, Node{Kind: 5, Max: 2, Lazy: true, Subs: both[:1]}, Node{Kind: 5, Max: -1, Subs: both[:1]}, Node{Kind: 5, Subs: both[:1]}, Node{Kind: 5, Max: 1, Subs: both[:1]}, Node{Kind: 5, Min: 1, Max: 1, Subs: both[:1]}, Node{Kind: 5, Max: 2, Subs: both[1:]}),
		cat(repeat(0, 0, cat(both...)), cat(both...), repeat(3, 3, cat(cat(both...), cat(both...))), repeat(0, 0, cat(both...)), cat(both...)), repeat(2, 3, cat(group(alt(both...)), alt(both...), alt(alt(both...), alt(both...)))),
	} {
		got, e := prog.Compile(n)
		if want := compiled(t, copyOf(n)); e != api.OK || !isSame(got, want) {
			t.Fatalf("%s: %v %d, not %v", shown(n), got, e, want)
		}
		checkTree(t, n)
	}
}

// R1: trees of more nodes than can be gone through, and parts that would be gone through again and again.
func TestHugeTrees(t *testing.T) {
	a := one('a')
	twice := func(n Node) Node { return cat(n, n) }
	nothing := with(0, match())
	check(t, aged(empty(), 39, func(n Node) Node { return cat(times(50, n)...) }), 1, nothing, api.OK)
	check(t, aged(empty(), 39, func(n Node) Node { return alt(times(50, n)...) }), 1001, Prog{}, api.ErrLong)
	check(t, aged(a, 39, twice), 1001, Prog{}, api.ErrLong)
	check(t, repeat(0, 0, aged(a, 38, twice)), 1, nothing, api.OK)
	check(t, cat(repeat(0, 0, aged(group(a), 4, twice)), group(a)), 4, with(17, save(32), take('a', 'a'), save(33), match()), api.OK)
	check(t, aged(a, 39, func(n Node) Node { return repeat(1000, 1000, n) }), 1001, Prog{}, api.ErrLong)
	check(t, aged(repeat(0, 0, a), 19, func(n Node) Node { return repeat(1, 1, cat(n, n, n)) }), 1, nothing, api.OK)
	wide := make([]Node, 100000)
	for i := range wide {
		wide[i] = empty()
	}
	check(t, repeat(999, 999, cat(cat(wide...), a)), 1000, with(0, append(slices.Repeat([]Inst{take('a', 'a')}, 999), match())...), api.OK)
	check(t, alt(wide...), 1001, Prog{}, api.ErrLong)
	wider := make([]Node, 100000)
	for i := range wider {
		wider[i] = cat(wide...)
	}
	check(t, cat(cat(wider...), a, cat(wider...)), 2, with(0, take('a', 'a'), match()), api.OK)
	for i := range wider {
		wider[i] = repeat(0, 0, cat(wide...))
	}
	check(t, cat(cat(wider...), group(repeat(0, 0, cat(wider...)))), 3, with(1, save(0), save(1), match()), api.OK)
}

// isRight tells by the chapter whether a program is right.
func isRight(p Prog) bool {
	k := len(p.Insts)
	if k < 1 || k > 1000 || p.Groups < 0 || p.Groups > 30 {
		return false
	}
	below := func(x, n int) bool { return 0 <= x && x < n }
	right := func(i Inst) bool {
		bare := len(i.Set) == 0
		switch i.Op {
		case 1:
			return class.Right(i.Set) && i.X == 0 && i.Y == 0
		case 2:
			return bare && below(i.X, k) && below(i.Y, k)
		case 3:
			return bare && below(i.X, k) && i.Y == 0
		case 4:
			return bare && below(i.X, 2*p.Groups) && i.Y == 0
		case 5:
			return bare && i.X == 0 && i.Y == 0
		}
		return false
	}
	last := p.Insts[k-1].Op
	return !slices.ContainsFunc(p.Insts, func(i Inst) bool { return !right(i) }) && (last == 2 || last == 3 || last == 5)
}

// padded returns a program with instructions in front of it that are right, so that it has some number of them.
func padded(k int, i Inst, p Prog) Prog {
	p.Insts = append(slices.Repeat([]Inst{i}, k-len(p.Insts)), p.Insts...)
	return p
}

// P9.1: what is right, and what is not.
func TestRight(t *testing.T) {
	a, end := take('a', 'a'), match()
	for i, p := range []Prog{
		with(0, end), with(30, end), with(0, jump(0)), with(0, split(0, 0)), with(0, a, end), with(0, take(), end), with(0, end, a, end), with(0, end, end), with(0, a, jump(0)), with(0, a, split(0, 1)), with(0, a, split(1, 0)), with(1, save(0), end), with(1, save(1), end), with(30, save(59), end), with(30, save(0), jump(1)), with(0, take(0, 55295, 57344, 1114111), end), with(0, take(0, 0, 2, 2), end),
		{[]Inst{{Op: 5, Set: []class.Range{}}}, 0}, padded(1000, a, with(0, end)), padded(1000, end, with(0, jump(999))), padded(1000, jump(999), with(0, end)), padded(1000, a, with(0, split(999, 0))), padded(1000, a, with(0, split(0, 999))), padded(999, save(1), with(1, end)),
	} {
		if !prog.Right(p) || !isRight(p) {
			t.Errorf("the program %d is not right", i)
		}
	}
	for i, p := range wrongs() {
		if prog.Right(p) || isRight(p) {
			t.Errorf("the program %d is right", i)
		}
	}
}

// wrongs are programs that are not right.
func wrongs() []Prog {
	a, end := take('a', 'a'), match()
	set := a.Set
	l := []Prog{
		{}, {Groups: 1}, with(-1, end), with(31, end), with(math.MinInt, end), with(math.MaxInt, end), with(31, save(0), end),
		with(0, a), with(1, end, save(0)), with(0, end, a), with(0, jump(1), a), with(0, Inst{}), with(0, Inst{Op: 6}), with(0, Inst{Op: 255}), with(0, Inst{}, end), with(0, Inst{Op: 6}, end), with(0, end, Inst{}),
		with(0, take(2, 1), end), with(0, take(-1, 1), end), with(0, take(0, 1114112), end), with(0, take('a', 'a', 'b', 'b'), end), with(0, take('b', 'b', 'a', 'a'), end), with(0, take(0, 57344), end), with(0, take(55296, 55296), end),
		with(0, Inst{Op: 1, Set: set, X: 1}, end), with(0, Inst{Op: 1, Set: set, Y: 1}, end), with(0, Inst{Op: 1, X: -1}, end), with(0, Inst{Op: 1, Y: -1}, end),
		with(0, split(2, 0), end), with(0, split(0, 2), end), with(0, split(-1, 0), end), with(0, split(0, -1), end), with(0, split(math.MaxInt, 0), end), with(0, split(0, math.MinInt), end), with(0, Inst{Op: 2, Set: set}), with(0, split(0, 1)), with(0, split(1, 0)),
		with(0, jump(2), end), with(0, jump(-1), end), with(0, jump(1)), with(0, Inst{Op: 3, Y: 1}, end), with(0, Inst{Op: 3, Y: -1}, end), with(0, Inst{Op: 3, Set: set}, end), with(0, jump(math.MaxInt), end),
		with(0, save(0), end), with(0, save(-1), end), with(1, save(2), end), with(1, save(-1), end), with(30, save(60), end), with(30, save(math.MaxInt), end), with(1, Inst{Op: 4, Y: 1}, end), with(1, Inst{Op: 4, Y: -1}, end), with(1, Inst{Op: 4, Set: set}, end),
		with(0, Inst{Op: 5, X: 1}, end), with(0, Inst{Op: 5, Y: 1}, end), with(0, Inst{Op: 5, X: -1}), with(0, Inst{Op: 5, Y: -1}), with(0, Inst{Op: 5, Set: set}), with(0, Inst{Op: 5, Set: ranges(2, 1)}),
		padded(1001, a, with(0, end)), padded(1001, end, with(0, end)), padded(1000, jump(1000), with(0, end)), padded(100000, a, with(0, end)), padded(1000, a, with(0, a)),
	}
	return l
}

// anyProg returns a program that is right, with some instructions.
func anyProg(r *rand.Rand, k int) Prog {
	p := Prog{Groups: r.Intn(3)}
	for len(p.Insts) < k {
		last := len(p.Insts) == k-1
		switch x := r.Intn(10); {
		case x < 3 && !last:
			p.Insts = append(p.Insts, Inst{Op: 1, Set: anySet(r)})
		case x < 6:
			p.Insts = append(p.Insts, split(r.Intn(k), r.Intn(k)))
		case x < 7:
			p.Insts = append(p.Insts, jump(r.Intn(k)))
		case x < 8:
			p.Insts = append(p.Insts, match())
		case p.Groups > 0 && !last:
			p.Insts = append(p.Insts, save(r.Intn(2*p.Groups)))
		}
	}
	return p
}

// spoil changes something of a program, which may be right even so.
func spoil(r *rand.Rand, p *Prog) {
	numbers := []int{-1, 0, 1, 2, 3, 29, 30, 31, len(p.Insts) - 1, len(p.Insts), 2*p.Groups - 1, 2 * p.Groups}
	x := numbers[r.Intn(len(numbers))]
	i := &p.Insts[r.Intn(len(p.Insts))]
	switch r.Intn(6) {
	case 0:
		i.Op = uint8(r.Intn(7))
	case 1:
		i.Set = [][]class.Range{nil, ranges('a', 'a'), ranges('a', 'a', 'b', 'b'), ranges(2, 1)}[r.Intn(4)]
	case 2:
		i.X = x
	case 3:
		i.Y = x
	case 4:
		p.Groups = x
	case 5:
		p.Insts = p.Insts[:r.Intn(len(p.Insts)+1)]
	}
}

// P9.1: programs in which one thing has been changed, against the chapter.
func TestRightAgainstDefinition(t *testing.T) {
	r := rand.New(rand.NewSource(92))
	found := map[bool]int{}
	for range 100000 {
		p := anyProg(r, 1+r.Intn(6))
		if !prog.Right(p) {
			t.Fatalf("%v is not right", p)
		}
		spoil(r, &p)
		right := isRight(p)
		found[right]++
		if prog.Right(p) != right {
			t.Fatalf("%v: Right is %t", p, !right)
		}
	}
	if found[true] < 20000 || found[false] < 20000 {
		t.Error("too few programs of one sort:", found)
	}
}

// threadsOf are the threads from some instructions by the chapter: what is to be gone on with next lies on top of a pile.
func threadsOf(p Prog, l []int) []int {
	var found []int
	met := map[int]bool{}
	pile := slices.Clone(l)
	slices.Reverse(pile)
	for len(pile) > 0 {
		k := pile[len(pile)-1]
		pile = pile[:len(pile)-1]
		if met[k] {
			continue
		}
		met[k] = true
		switch i := p.Insts[k]; i.Op {
		case 2:
			pile = append(pile, i.Y, i.X)
		case 3:
			pile = append(pile, i.X)
		case 4:
			pile = append(pile, k+1)
		default:
			found = append(found, k)
		}
	}
	return found
}

// isIn tells whether a set has a code point.
func isIn(l []class.Range, c int) bool {
	return slices.ContainsFunc(l, func(r class.Range) bool { return r.Lo <= c && c <= r.Hi })
}

// nextOf are the next ones by the chapter.
func nextOf(p Prog, l []int, c int) []int {
	var found []int
	for _, k := range l {
		if p.Insts[k].Op == 1 && isIn(p.Insts[k].Set, c) {
			found = append(found, k+1)
		}
	}
	return found
}

// endsOf are the ends of a program in a string: where it may stand at each place is widened until nothing is new, whatever the order.
func endsOf(p Prog, s string) []int {
	var ends []int
	here := map[int]bool{0: true}
	for at, c := range s + "." {
		for before := 0; before < len(here); {
			before = len(here)
			for k, i := range p.Insts {
				if !here[k] {
					continue
				}
				switch i.Op {
				case 2:
					here[i.X], here[i.Y] = true, true
				case 3:
					here[i.X] = true
				case 4:
					here[k+1] = true
				}
			}
		}
		after, ended := map[int]bool{}, false
		for k := range here {
			ended = ended || p.Insts[k].Op == 5
			if p.Insts[k].Op == 1 && isIn(p.Insts[k].Set, int(c)) {
				after[k+1] = true
			}
		}
		if ended {
			ends = append(ends, at)
		}
		here = after
	}
	return ends
}

// checkRun holds Ends and Accepts of a right program and a valid string against the ends that are wanted.
func checkRun(t *testing.T, p Prog, s string, want []int) {
	t.Helper()
	if l, e := prog.Ends(p, s); !slices.Equal(l, want) || e != api.OK {
		t.Fatalf("%v in %.100q: Ends is %v %d, not %v", p, s, l, e, want)
	}
	if is, e := prog.Accepts(p, s); is != slices.Contains(want, len(s)) || e != api.OK {
		t.Fatalf("%v in %.100q: Accepts is %t %d; the ends are %v", p, s, is, e, want)
	}
}

// checkThreads holds Threads and Next against the threads and the next ones that are wanted.
func checkThreads(t *testing.T, p Prog, l []int, c int, threads, next []int) {
	t.Helper()
	if got, e := prog.Threads(p, l); !slices.Equal(got, threads) || e != api.OK {
		t.Fatalf("%v: the threads from %v are %v %d, not %v", p, l, got, e, threads)
	}
	if got, e := prog.Next(p, l, c); !slices.Equal(got, next) || e != api.OK {
		t.Fatalf("%v: the next ones of %v after %d are %v %d, not %v", p, l, c, got, e, next)
	}
}

// P9.2: threads and next ones; the examples of the chapter.
func TestThreads(t *testing.T) {
	p := compiled(t, parsed(t, "a|b*"))
	checkThreads(t, p, []int{0}, 'b', []int{1, 4, 6}, nil)
	checkThreads(t, p, []int{1, 4, 6}, 'b', []int{1, 4, 6}, []int{5})
	checkThreads(t, p, []int{5}, 'b', []int{4, 6}, nil)
	checkThreads(t, compiled(t, parsed(t, "(x)??")), []int{0}, 'x', []int{4, 2}, nil)
	checkThreads(t, p, nil, 'a', nil, nil)
	checkThreads(t, p, []int{6, 4, 1}, 'a', []int{6, 4, 1}, []int{2})
	checkThreads(t, p, []int{4, 1, 4, 4, 1, 6, 6}, 'b', []int{4, 1, 6}, []int{5, 5, 5})
	checkThreads(t, p, []int{2, 0}, 'a', []int{6, 1, 4}, nil)
	a, end := take('a', 'a'), match()
	// Splits, jumps and saves that lead back to themselves; both sides the same; an end before the last one.
	for _, x := range []struct {
		p       Prog
		l       []int
		threads []int
		next    []int
	}{
		{with(0, end), []int{0}, []int{0}, nil}, {with(0, jump(0)), []int{0, 0}, nil, nil}, {with(0, split(0, 0)), []int{0}, nil, nil}, {with(0, split(1, 1), end), []int{0}, []int{1}, nil}, {with(0, split(0, 1), end), []int{0}, []int{1}, nil}, {with(0, split(2, 0), a, end), []int{0}, []int{2}, nil}, {with(0, jump(2), jump(0), split(1, 3), a, end), []int{1}, []int{3}, nil}, {with(0, jump(2), jump(0), split(1, 3), a, end), []int{3, 1}, []int{3}, []int{4}},
		{with(1, save(0), save(1), save(0), a, end), []int{0}, []int{3}, nil}, {with(1, save(1), jump(0)), []int{0}, nil, nil}, {with(1, save(1), split(0, 2), end), []int{0}, []int{2}, nil}, {with(0, a, end, a, end), []int{3, 0, 2, 1}, []int{3, 0, 2, 1}, []int{1, 3}}, {with(0, split(1, 3), split(5, 2), a, split(4, 5), a, end), []int{0}, []int{5, 2, 4}, nil}, {with(0, split(1, 3), split(5, 2), a, split(4, 5), a, end), []int{3, 0}, []int{4, 5, 2}, nil}, {with(0, a, split(0, 2), end), []int{1, 0}, []int{0, 2}, []int{1}},
	} {
		checkThreads(t, x.p, x.l, 'a', x.threads, x.next)
	}
}

// P9.2: which code points are in a set.
func TestNextPoints(t *testing.T) {
	end := match()
	numbers := []int{math.MinInt, -1, 0, 1, 96, 97, 98, 99, 100, 101, 102, 103, 104, 105, 55294, 55295, 55296, 57343, 57344, 57345, 1114110, 1114111, 1114112, math.MaxInt}
	var many []class.Range
	for c := range 200 {
		many = append(many, class.Range{Lo: 3 * c, Hi: 3*c + c%2})
	}
	for _, i := range []Inst{take(), take(0, 0), take(97, 97), take(97, 99, 101, 103), take(98, 98, 100, 100, 102, 102, 104, 104), take(0, 96, 98, 98, 100, 55295), take(0, 55295, 57344, 1114111), take(57344, 57344, 1114111, 1114111), {Op: 1, Set: many}} {
		p := with(0, i, end)
		for _, c := range numbers {
			checkThreads(t, p, []int{0, 1, 0}, c, []int{0, 1}, nextOf(p, []int{0, 0}, c))
		}
		for c := range 700 {
			checkThreads(t, p, []int{0}, c, []int{0}, nextOf(p, []int{0}, c))
		}
	}
}

// P9.2 and P9.3: many programs, against the chapter.
func TestRunsAgainstDefinition(t *testing.T) {
	r := rand.New(rand.NewSource(93))
	ended, found := map[bool]int{}, map[int]int{}
	for range 30000 {
		p := anyProg(r, 1+r.Intn(12))
		if r.Intn(4) == 0 {
			p = anyProg(r, 20+r.Intn(40))
		}
		var l []int
		for range r.Intn(5) {
			l = append(l, r.Intn(len(p.Insts)))
		}
		c := int(points[r.Intn(len(points))])
		threads := threadsOf(p, l)
		found[min(len(threads), 4)]++
		checkThreads(t, p, l, c, threads, nextOf(p, l, c))
		checkThreads(t, p, threads, c, threads, nextOf(p, threads, c))
		s := anyString(r, r.Intn(8))
		ends := endsOf(p, s)
		ended[len(ends) > 1]++
		checkRun(t, p, s, ends)
	}
	if ended[true] < 1000 || ended[false] < 1000 || found[0] < 1000 || found[1] < 1000 || found[4] < 1000 {
		t.Error("too few programs of one sort:", ended, found)
	}
}

// P9.3: ends, and what is taken as a whole; the example of the chapter.
func TestEnds(t *testing.T) {
	for _, x := range []struct {
		pattern, s string
		ends       []int
	}{
		{"a|b*", "bba", []int{0, 1, 2}}, {"a|b*", "bb", []int{0, 1, 2}}, {"a|b*", "ab", []int{0, 1}}, {"", "", []int{0}}, {"", "a", []int{0}}, {"a", "", nil}, {"a", "a", []int{1}}, {"a", "b", nil}, {"a", "aa", []int{1}}, {"a", "ba", nil}, {"ab|a", "ab", []int{1, 2}}, {"a|ab", "abc", []int{1, 2}}, {"a*?", "aab", []int{0, 1, 2}}, {"a+?", "aa", []int{1, 2}}, {"a{2,3}", "aaaa", []int{2, 3}}, {".*b", "abab", []int{2, 4}}, {"[^\\x{0}-\\x{10FFFF}]", "a", nil}, {"[^\\x{0}-\\x{10FFFF}]*", "a", []int{0}},
		{"é+", "ééa", []int{2, 4}}, {".", "€", []int{3}}, {".*", "aé€\U0001f600", []int{0, 1, 3, 6, 10}}, {".*", "\x00\n\u007f", []int{0, 1, 2, 3}}, {"\ufffd*", "\ufffd\ufffda", []int{0, 3, 6}}, {".*\ufffd", "a\ufffd", []int{4}}, {`\xc3`, "é", nil}, {`[\x{D7FF}\x{E000}]+`, "\ud7ff\ue000", []int{3, 6}}, {"\U0010ffff", "\U0010ffff", []int{4}}, {"(a*)(a*)", "aa", []int{0, 1, 2}}, {"(?:(a)|b)*c", "abac", []int{4}},
	} {
		checkRun(t, compiled(t, parsed(t, x.pattern)), x.s, x.ends)
	}
	a := take('a', 'a')
	checkRun(t, with(0, jump(0)), "a", nil)
	checkRun(t, with(0, a, match(), a, match()), "aa", []int{1})
	checkRun(t, with(0, split(0, 1), a, jump(0)), "aa", nil)
	checkRun(t, with(0, split(1, 3), match(), match(), a, jump(0)), "aab", []int{0, 1, 2})
	checkRun(t, with(1, match(), save(0), match()), "a", []int{0})
}

// R2: each error, and which one goes first.
func TestErrors(t *testing.T) {
	right := with(1, save(0), split(2, 3), take('a', 'a'), match())
	long := strings.Repeat("a", 65537)
	texts := []string{"\xff", "\x80", "a\x80", "\xc3", "aé\xc3", "\xe2\x82", "\xed\xa0\x80", "\xed\xbf\xbf", "\xc0\x80", "\xc1\xbf", "\xf4\x90\x80\x80", "\xf8\x88\x80\x80\x80", "\xef\xbf", "\xffa", "b\xff", strings.Repeat("a", 65535) + "\xc3", strings.Repeat("\xff", 65536)}
	longs := []string{long, long + "a", long + "\xff", strings.Repeat("é", 32768) + "a", strings.Repeat("é", 32769), strings.Repeat("\xff", 65537), strings.Repeat("a", 65536) + "\xff", strings.Repeat("b", 200000)}
	fail := func(p Prog, s string, wrong api.Errno) {
		t.Helper()
		if is, e := prog.Accepts(p, s); is || e != wrong {
			t.Errorf("%v in %.10q: Accepts is %t %d, not %d", p, s, is, e, wrong)
		}
		if l, e := prog.Ends(p, s); len(l) > 0 || e != wrong {
			t.Errorf("%v in %.10q: Ends is %v %d, not %d", p, s, l, e, wrong)
		}
	}
	for i, p := range wrongs() {
		for _, s := range []string{"", "a", long, long + "\xff", "\xff"} {
			fail(p, s, prog.ErrProg)
		}
		for _, l := range [][]int{nil, {0}, {-1}, {len(p.Insts)}, {math.MaxInt}} {
			threads, e := prog.Threads(p, l)
			next, f := prog.Next(p, l, 'a')
			if len(threads)+len(next) > 0 || e != prog.ErrProg || f != prog.ErrProg {
				t.Errorf("the program %d: %v %d and %v %d from %v", i, threads, e, next, f, l)
			}
		}
		if l, e := prog.Lines(p); len(l) > 0 || e != prog.ErrProg {
			t.Errorf("the program %d: the lines %q %d", i, l, e)
		}
	}
	for _, p := range []Prog{right, with(0, jump(0)), with(0, match())} {
		for _, s := range longs {
			fail(p, s, api.ErrLong)
		}
		for _, s := range texts {
			fail(p, s, prog.ErrText)
		}
	}
	for _, l := range [][]int{{-1}, {4}, {0, 1, 2, 3, 4}, {2, -1}, {-1, 2}, {2, 2, math.MaxInt}, {math.MinInt, 2}} {
		threads, e := prog.Threads(right, l)
		next, f := prog.Next(right, l, 'a')
		if len(threads)+len(next) > 0 || e != api.ErrArg || f != api.ErrArg {
			t.Errorf("%v %d and %v %d from %v", threads, e, next, f, l)
		}
	}
}

// P9.4: the lines of programs.
func TestLines(t *testing.T) {
	for _, x := range []struct {
		p    Prog
		want []string
	}{
		{with(0, match()), []string{"match"}}, {with(0, jump(0)), []string{"jump 0"}}, {with(0, split(0, 0)), []string{"split 0 0"}}, {with(30, save(59), save(0), save(7), match()), []string{"save 59", "save 0", "save 7", "match"}}, {with(0, match(), split(2, 1), split(1, 2)), []string{"match", "split 2 1", "split 1 2"}},
		{with(0, take(), take(0, 55295, 57344, 1114111), take('a', 'c', 'e', 'e'), take('-', '-'), take(233, 233, 1114111, 1114111), take(' ', '~'), jump(1)), []string{`set [^\x{0}-\x{10FFFF}]`, `set [\x{0}-\x{D7FF}\x{E000}-\x{10FFFF}]`, "set [a-ce]", `set [\x{2D}]`, `set [\x{E9}\x{10FFFF}]`, `set [\x{20}-~]`, "jump 1"}},
	} {
		if l, e := prog.Lines(x.p); !slices.Equal(l, x.want) || e != api.OK {
			t.Errorf("%v: %q %d, not %q", x.p, l, e, x.want)
		}
	}
	l, e := prog.Lines(padded(1000, match(), with(0, split(999, 10))))
	if len(l) != 1000 || e != api.OK || l[999] != "split 999 10" || l[0] != "match" || l[998] != "match" {
		t.Error(len(l), e)
	}
}

// P9.3, P9.5 and Limits: the longest strings, the longest programs, and patterns of which there are more ways than can be gone through.
func TestLongestRuns(t *testing.T) {
	const most = 65536
	s := strings.Repeat("a", most)
	ends := make([]int, most+1)
	for i := range ends {
		ends[i] = i
	}
	run := func(pattern, s string, want []int) {
		t.Helper()
		p := compiled(t, parsed(t, pattern))
		l, e := prog.Ends(p, s)
		if !slices.Equal(l, want) || e != api.OK {
			t.Errorf("%.20q: %d ends and %d, not %d", pattern, len(l), e, len(want))
		}
		if is, e := prog.Accepts(p, s); is != slices.Contains(want, len(s)) || e != api.OK {
			t.Errorf("%.20q: %t %d", pattern, is, e)
		}
	}
	run(".*", s, ends)
	run("(?:a|a)*", s, ends)
	run("(?:a|a)*b", s, nil)
	run("(?:(?:a+)+)+", s, ends[1:])
	run("(a*)(a*)(a*)(a*)b", s, nil)
	run(".*.{0,490}", s, ends)
	run("a{999}", s, []int{999})
	run(strings.Repeat("a?", 333)+"a{333}", strings.Repeat("a", 700), ends[333:667])
	run(".*", strings.Repeat("€", most/3)+"a", append(slices.DeleteFunc(slices.Clone(ends), func(i int) bool { return i%3 > 0 }), most))
	run("é*b", strings.Repeat("é", most/2-1)+"b", []int{most - 1})
	// All of a thousand instructions are met, one after the other.
	var l []Inst
	for i := range 999 {
		l = append(l, jump((i+2)%1000))
	}
	p := with(0, append(l, match())...)
	p.Insts[998] = jump(1)
	checkThreads(t, p, []int{0}, 'a', []int{999}, nil)
	checkThreads(t, p, []int{998, 0}, 'a', []int{999}, nil)
	checkThreads(t, padded(1000, split(0, 999), with(0, match())), slices.Repeat([]int{5}, 100000), 'a', []int{999}, nil)
}

// P9.5: what a program takes is what the ways of its tree take, and what the library's regular expressions take.
func TestAgainstWays(t *testing.T) {
	r := rand.New(rand.NewSource(95))
	whole, same := map[bool]int{}, 0
	for range 20000 {
		n, s := anyTree(r, 1+r.Intn(5)), anyString(r, r.Intn(10))
		p, e := prog.Compile(n)
		ends, f := ways.Ends(n, s)
		if e != api.OK || f != api.OK {
			continue
		}
		_, is, _ := ways.Whole(n, s)
		whole[is]++
		checkRun(t, p, s, ends)
		if checkMatched(t, n, p, s) {
			same++
		}
		l, e := prog.Threads(p, []int{0})
		if len(l) > len(p.Insts) || e != api.OK {
			t.Fatalf("%s: the threads %v %d", shown(n), l, e)
		}
	}
	if whole[true] < 1500 || whole[false] < 5000 || same < 10000 {
		t.Error("too few trees of one sort:", whole, same)
	}
}

// checkMatched holds the ends against the library's regular expressions; it reports whether there is one for the tree.
func checkMatched(t *testing.T, n Node, p Prog, s string) bool {
	t.Helper()
	text, e := syntax.Text(n)
	r, err := regexp.Compile(`(?s)\A(?:` + text + `)\z`)
	if e != api.OK || err != nil {
		return false
	}
	var ends []int
	for i := range len(s) + 1 {
		if (i == len(s) || utf8.RuneStart(s[i])) && r.MatchString(s[:i]) {
			ends = append(ends, i)
		}
	}
	checkRun(t, p, s, ends)
	return true
}

// unfolded returns a copy of a tree, with what lies behind the ends of its lists.
func unfolded(n Node) Node {
	n.Set = slices.Clone(n.Set[:cap(n.Set)])
	n.Subs = slices.Clone(n.Subs[:cap(n.Subs)])
	for i := range n.Subs {
		n.Subs[i] = unfolded(n.Subs[i])
	}
	return n
}

// roomy returns a copy of a tree, with something behind the ends of its lists.
func roomy(n Node) Node {
	n.Set = append(slices.Clone(n.Set), class.Range{Lo: 1, Hi: 2})[:len(n.Set)]
	n.Subs = append(slices.Clone(n.Subs), one('x'))[:len(n.Subs)]
	for i := range n.Subs {
		n.Subs[i] = roomy(n.Subs[i])
	}
	return n
}

// roomyProg returns a copy of a program, with something behind the ends of its lists.
func roomyProg(p Prog) Prog {
	p.Insts = append(slices.Clone(p.Insts), jump(-7))[:len(p.Insts)]
	for k := range p.Insts {
		i := &p.Insts[k]
		i.Set = append(slices.Clone(i.Set), class.Range{Lo: 1, Hi: 2})[:len(i.Set)]
	}
	return p
}

// unfoldedProg returns a copy of a program, with what lies behind the ends of its lists.
func unfoldedProg(p Prog) Prog {
	p.Insts = slices.Clone(p.Insts[:cap(p.Insts)])
	for i := range p.Insts {
		p.Insts[i].Set = slices.Clone(p.Insts[i].Set[:cap(p.Insts[i].Set)])
	}
	return p
}

// R3: arguments stay as they are, and so does what lies behind the ends of their lists.
func TestArgumentsStay(t *testing.T) {
	r := rand.New(rand.NewSource(96))
	for range 5000 {
		n, p, s := roomy(anyTree(r, 1+r.Intn(5))), roomyProg(anyProg(r, 1+r.Intn(9))), anyString(r, r.Intn(6))
		l := []int{0, len(p.Insts) - 1, 0, r.Intn(len(p.Insts)), -7, 0}[:4]
		tree, program, list := unfolded(n), unfoldedProg(p), slices.Clone(l[:6])
		prog.Size(n)
		prog.Compile(n)
		prog.Right(p)
		prog.Threads(p, l)
		prog.Next(p, l, 'a')
		prog.Accepts(p, s)
		prog.Ends(p, s)
		prog.Lines(p)
		if !syntax.Same(tree, unfolded(n)) || !isSame(program, unfoldedProg(p)) || !slices.Equal(list, l[:6]) {
			t.Fatalf("%s, %v or %v has changed in %q", shown(n), p, l, s)
		}
	}
}

// wiped writes over all that a list has room for.
func wiped[E any](l []E, with E) {
	for i := range l[:cap(l)] {
		l[:cap(l)][i] = with
	}
}

// R3 and R4: each result has its own memory, and is there again.
func TestResultsShareNothing(t *testing.T) {
	r := rand.New(rand.NewSource(97))
	spoilt := 0
	sets := repeat(3, 3, alt(set('a', 'c', 'e', 'e'), group(set('a', 'a'))))
	for i := range 3000 {
		n := anyTree(r, 1+r.Intn(5))
		if i == 0 {
			n = sets
		}
		p, e := prog.Compile(n)
		if e != api.OK {
			continue
		}
		tree, want := copyOf(n), copyOfProg(p)
		for k := range p.Insts {
			wiped(p.Insts[k].Set, class.Range{Lo: -7, Hi: -7})
			spoilt += cap(p.Insts[k].Set)
			wiped(want.Insts[k].Set, class.Range{Lo: -7, Hi: -7})
			if !isSame(p, want) || !syntax.Same(n, tree) {
				t.Fatalf("%s: the set of %d is also that of something else", shown(n), k)
			}
		}
		wiped(p.Insts, jump(-7))
		checkTree(t, tree)
	}
	if spoilt < 5000 {
		t.Error("too few sets:", spoilt)
	}
	for range 3000 {
		p, s := anyProg(r, 1+r.Intn(9)), anyString(r, r.Intn(6))
		l := []int{0, r.Intn(len(p.Insts)), 0}
		before, list := copyOfProg(p), slices.Clone(l)
		for range 2 {
			threads, _ := prog.Threads(p, l)
			next, _ := prog.Next(p, l, 'a')
			ends, _ := prog.Ends(p, s)
			lines, _ := prog.Lines(p)
			if !slices.Equal(threads, threadsOf(p, l)) || !slices.Equal(next, nextOf(p, l, 'a')) || !slices.Equal(ends, endsOf(p, s)) || len(lines) != len(p.Insts) {
				t.Fatalf("%v: %v, %v, %v, %q", p, threads, next, ends, lines)
			}
			wiped(threads, -7)
			wiped(next, -7)
			wiped(ends, -7)
			wiped(lines, "")
		}
		if !isSame(p, before) || !slices.Equal(l, list) {
			t.Fatalf("%v or %v has changed", p, l)
		}
	}
}

// R5: lists that are nil are like empty ones.
func TestEmptyLists(t *testing.T) {
	none := []class.Range{}
	for _, n := range []Node{{Kind: 1, Set: none, Subs: []Node{}}, {Kind: 2, Set: none, Subs: []Node{}}, {Kind: 2}, cat(Node{Kind: 2, Set: none}, Node{Kind: 1, Subs: []Node{}}), {Kind: 5, Max: -1, Set: none, Subs: []Node{{Kind: 2, Set: none}}}, {Kind: 6, Set: none, Subs: []Node{{Kind: 1, Set: none}}}} {
		if e := checkTree(t, n); e != api.OK {
			t.Error(e)
		}
	}
	for _, set := range [][]class.Range{nil, none} {
		p := with(1, Inst{Op: 2, X: 1, Y: 2, Set: set}, Inst{Op: 1, Set: set}, Inst{Op: 4, Set: set}, Inst{Op: 3, X: 4, Set: set}, Inst{Op: 5, Set: set})
		if !prog.Right(p) {
			t.Error("a program with sets that have no members is not right")
		}
		checkThreads(t, p, []int{}, 'a', nil, nil)
		checkThreads(t, p, []int{0}, 'a', []int{1, 4}, nil)
		checkRun(t, p, "a", []int{0})
		if l, e := prog.Lines(p); !slices.Equal(l, []string{"split 1 2", `set [^\x{0}-\x{10FFFF}]`, "save 0", "jump 4", "match"}) || e != api.OK {
			t.Error(l, e)
		}
	}
	for _, p := range []Prog{{}, {Insts: []Inst{}}} {
		if _, e := prog.Lines(p); e != prog.ErrProg || prog.Right(p) {
			t.Error("a program without instructions is right")
		}
	}
}
