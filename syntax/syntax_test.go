package syntax_test

import (
	"fmt"
	"math"
	"math/big"
	"math/rand"
	"regexp"
	"slices"
	"strconv"
	"strings"
	"testing"
	"unicode/utf8"

	"gauger/api"
	"gauger/class"
	"gauger/syntax"
)

// Node is a node, by a shorter name.
type Node = syntax.Node

// reserved are the characters that are no atoms, as the chapter lists them.
const reserved = `\.[](){}*+?|^$`

func empty() Node { return Node{Kind: 1} }

// set returns a set of ranges: Lo and Hi, in turn.
func set(l ...int) Node {
	n := Node{Kind: 2}
	for i := 0; i < len(l); i += 2 {
		n.Set = append(n.Set, class.Range{Lo: l[i], Hi: l[i+1]})
	}
	return n
}

// one returns the set of a code point.
func one(c rune) Node { return set(int(c), int(c)) }

// dot returns the set of all code points.
func dot() Node { return set(0, 55295, 57344, 1114111) }

func cat(l ...Node) Node { return Node{Kind: 3, Subs: l} }

func alt(l ...Node) Node { return Node{Kind: 4, Subs: l} }

func repeat(least, most int, n Node) Node {
	return Node{Kind: 5, Min: least, Max: most, Subs: []Node{n}}
}

func lazy(least, most int, n Node) Node {
	return Node{Kind: 5, Min: least, Max: most, Lazy: true, Subs: []Node{n}}
}

func group(n Node) Node { return Node{Kind: 6, Subs: []Node{n}} }

// around returns a tree with something put around it again and again.
func around(n Node, times int, f func(n Node) Node) Node {
	for range times {
		n = f(n)
	}
	return n
}

// optional returns what can be left out.
func optional(n Node) Node { return repeat(0, 1, n) }

// copyOf returns a tree that shares no memory with the one it is equal to.
func copyOf(n Node) Node {
	n.Set = slices.Clone(n.Set)
	n.Subs = slices.Clone(n.Subs)
	for i := range n.Subs {
		n.Subs[i] = copyOf(n.Subs[i])
	}
	return n
}

// isSame tells by the chapter whether two trees are equal.
func isSame(a, b Node) bool {
	if a.Kind != b.Kind || a.Min != b.Min || a.Max != b.Max || a.Lazy != b.Lazy || len(a.Set) != len(b.Set) || len(a.Subs) != len(b.Subs) {
		return false
	}
	for i := range a.Set {
		if a.Set[i] != b.Set[i] {
			return false
		}
	}
	for i := range a.Subs {
		if !isSame(a.Subs[i], b.Subs[i]) {
			return false
		}
	}
	return true
}

// isNullable tells by the chapter whether a tree can be the empty string.
func isNullable(n Node) bool {
	switch n.Kind {
	case 1:
		return true
	case 3:
		return !slices.ContainsFunc(n.Subs, func(n Node) bool { return !isNullable(n) })
	case 4:
		return slices.ContainsFunc(n.Subs, isNullable)
	case 5:
		return n.Min == 0 || isNullable(n.Subs[0])
	case 6:
		return isNullable(n.Subs[0])
	}
	return false
}

// depthOf is how deep a tree is.
func depthOf(n Node) int {
	depth := 0
	for _, x := range n.Subs {
		depth = max(depth, depthOf(x))
	}
	return depth + 1
}

// count is how many nodes of a tree are of some sort.
func count(n Node, is func(n Node) bool) int {
	found := 0
	if is(n) {
		found++
	}
	for _, x := range n.Subs {
		found += count(x, is)
	}
	return found
}

func isGroup(n Node) bool { return n.Kind == 6 }

// isLoop tells whether something nullable can come more than once.
func isLoop(n Node) bool {
	return n.Kind == 5 && (n.Max == -1 || n.Max > 1) && isNullable(n.Subs[0])
}

// isWrong tells by the chapter whether a node is not right by itself.
func isWrong(n Node) bool {
	parts := map[uint8]func(k int) bool{1: none, 2: none, 3: several, 4: several, 5: single, 6: single}[n.Kind]
	if parts == nil || !parts(len(n.Subs)) {
		return true
	}
	if n.Kind == 2 && !class.Right(n.Set) || n.Kind != 2 && len(n.Set) > 0 {
		return true
	}
	if n.Kind != 5 {
		return n.Min != 0 || n.Max != 0 || n.Lazy
	}
	return n.Min < 0 || n.Min > 1000 || n.Max != -1 && (n.Max < n.Min || n.Max > 1000)
}

func none(k int) bool { return k == 0 }

func single(k int) bool { return k == 1 }

func several(k int) bool { return k >= 2 }

// isRight tells by the chapter whether a tree is right.
func isRight(n Node) bool {
	return depthOf(n) <= 40 && count(n, isWrong) == 0 && count(n, isLoop) == 0 && count(n, isGroup) <= 30
}

// lengthsOf are the lengths of a tree without bounds; the greatest is nil if there is none.
func lengthsOf(n Node) (least, most *big.Int) {
	least, most = new(big.Int), new(big.Int)
	if n.Kind == 2 {
		return big.NewInt(1), big.NewInt(1)
	}
	for i, x := range n.Subs {
		a, b := lengthsOf(x)
		if n.Kind == 4 {
			if i == 0 || a.Cmp(least) < 0 {
				least = a
			}
			if b == nil || most != nil && b.Cmp(most) > 0 {
				most = b
			}
			continue
		}
		least.Add(least, a)
		if b == nil || most == nil {
			most = nil
		} else {
			most.Add(most, b)
		}
	}
	if n.Kind == 5 {
		least.Mul(least, big.NewInt(int64(n.Min)))
		switch {
		case n.Max == 0:
			most = new(big.Int)
		case n.Max == -1:
			most = nil
		case most != nil:
			most.Mul(most, big.NewInt(int64(n.Max)))
		}
	}
	return least, most
}

// bounded is a length, as Lengths has it.
func bounded(x *big.Int) int {
	if x == nil {
		return -1
	}
	if x.Cmp(big.NewInt(1<<30)) > 0 {
		return 1 << 30
	}
	return int(x.Int64())
}

// textOf is the text of a right tree, by the chapter.
func textOf(n Node) string {
	var parts []string
	for _, x := range n.Subs {
		s := textOf(x)
		enclosed := map[uint8]string{3: "\x01\x03\x04", 4: "\x04", 5: "\x01\x03\x04\x05"}[n.Kind]
		if strings.ContainsRune(enclosed, rune(x.Kind)) {
			s = "(?:" + s + ")"
		}
		parts = append(parts, s)
	}
	switch n.Kind {
	case 2:
		return setTextOf(n)
	case 3:
		return strings.Join(parts, "")
	case 4:
		return strings.Join(parts, "|")
	case 5:
		return parts[0] + quantifierOf(n)
	case 6:
		return "(" + parts[0] + ")"
	}
	return ""
}

// setTextOf is the text of a set, by the chapter.
func setTextOf(n Node) string {
	if class.Count(n.Set) == 1112064 {
		return "."
	}
	if class.Count(n.Set) != 1 {
		s, _ := class.Text(n.Set)
		return s
	}
	c := n.Set[0].Lo
	switch {
	case c < 33 || c > 126:
		return fmt.Sprintf(`\x{%X}`, c)
	case strings.Contains(reserved, string(rune(c))):
		return `\` + string(rune(c))
	}
	return string(rune(c))
}

// quantifierOf is the text of the quantifier of a repetition, by the chapter.
func quantifierOf(n Node) string {
	s := fmt.Sprintf("{%d,%d}", n.Min, n.Max)
	switch {
	case n.Max == -1:
		s = fmt.Sprintf("{%d,}", n.Min)
	case n.Max == n.Min:
		s = fmt.Sprintf("{%d}", n.Min)
	}
	if short, ok := map[string]string{"{0,}": "*", "{1,}": "+", "{0,1}": "?"}[s]; ok {
		s = short
	}
	if n.Lazy {
		s += "?"
	}
	return s
}

// A token is an atom, which has a tree; a quantifier, which has a repetition; or itself.
type token struct {
	text   string
	atom   *Node
	repeat *Node
}

var quantifiers = regexp.MustCompile(`\A(?:[*+?]|\{(0|[1-9][0-9]*)(,)?(0|[1-9][0-9]*)?\})(\??)`)

// quantifierToken is the quantifier with which a string begins.
func quantifierToken(s string) (token, bool) {
	m := quantifiers.FindStringSubmatch(s)
	if m == nil || m[2] == "" && m[3] != "" {
		return token{}, false
	}
	least, most := 0, -1
	switch {
	case s[0] == '+':
		least = 1
	case s[0] == '?':
		most = 1
	case s[0] == '{':
		least, _ = strconv.Atoi(m[1])
		if m[2] == "" {
			most = least
		}
		if m[3] != "" {
			most, _ = strconv.Atoi(m[3])
		}
	}
	n := Node{Kind: 5, Min: least, Max: most, Lazy: m[4] == "?"}
	return token{text: m[0], repeat: &n}, least <= 1000 && most <= 1000 && (most == -1 || least <= most)
}

// atomToken is the atom without parentheses with which a string begins.
func atomToken(s string) (token, bool) {
	if l, n, e := class.Read(s); e == api.OK {
		return token{text: s[:n], atom: &Node{Kind: 2, Set: l}}, true
	}
	if c, n, e := class.Escape(s); e == api.OK {
		x := one(rune(c))
		return token{text: s[:n], atom: &x}, true
	}
	if len(s) > 1 && s[0] == '\\' {
		l, ok := class.Named(s[1])
		return token{text: s[:2], atom: &Node{Kind: 2, Set: l}}, ok
	}
	if s[0] == '.' {
		x := dot()
		return token{text: ".", atom: &x}, true
	}
	c, n := utf8.DecodeRuneInString(s)
	x := one(c)
	return token{text: s[:n], atom: &x}, (c != utf8.RuneError || n == 3) && !strings.ContainsRune(reserved, c)
}

// tokens are those of a string.
func tokens(s string) ([]token, bool) {
	var l []token
next:
	for s != "" {
		for _, x := range []string{"(?:", "(", ")", "|"} {
			if strings.HasPrefix(s, x) {
				l, s = append(l, token{text: x}), s[len(x):]
				continue next
			}
		}
		x, ok := quantifierToken(s)
		if !ok {
			x, ok = atomToken(s)
		}
		if !ok {
			return nil, false
		}
		l, s = append(l, x), s[len(x.text):]
	}
	return l, true
}

// plain is the tree of tokens without parentheses.
func plain(l []token) (Node, bool) {
	sequences := [][]Node{nil}
	quantified := true
	for _, x := range l {
		last := &sequences[len(sequences)-1]
		switch {
		case x.text == "|":
			sequences = append(sequences, nil)
			quantified = true
		case x.atom != nil:
			*last = append(*last, *x.atom)
			quantified = false
		case x.repeat == nil || quantified:
			return Node{}, false
		default:
			n := *x.repeat
			n.Subs = []Node{(*last)[len(*last)-1]}
			(*last)[len(*last)-1] = n
			quantified = true
		}
	}
	var parts []Node
	for _, x := range sequences {
		switch len(x) {
		case 0:
			parts = append(parts, empty())
		case 1:
			parts = append(parts, x[0])
		default:
			parts = append(parts, cat(x...))
		}
	}
	if len(parts) == 1 {
		return parts[0], true
	}
	return alt(parts...), true
}

// treeOf is the tree of a pattern: what stands between an innermost pair of parentheses becomes an atom, until there is none.
func treeOf(s string) (Node, bool) {
	l, ok := tokens(s)
	if !ok {
		return Node{}, false
	}
	for {
		end := slices.IndexFunc(l, func(x token) bool { return x.text == ")" })
		if end < 0 {
			return plain(l)
		}
		begin := end - 1
		for begin >= 0 && l[begin].text != "(" && l[begin].text != "(?:" {
			begin--
		}
		if begin < 0 {
			return Node{}, false
		}
		n, ok := plain(l[begin+1 : end])
		if !ok {
			return Node{}, false
		}
		if l[begin].text == "(" {
			n = group(n)
		}
		l = slices.Replace(l, begin, end+1, token{atom: &n})
	}
}

// parseOf is Parse by the chapter.
func parseOf(s string) (Node, api.Errno) {
	if len(s) > 1024 {
		return Node{}, api.ErrLong
	}
	n, ok := treeOf(s)
	switch {
	case !ok:
		return Node{}, syntax.ErrText
	case count(n, isLoop) > 0:
		return Node{}, syntax.ErrEmpty
	case count(n, isGroup) > 30:
		return Node{}, api.ErrMany
	case depthOf(n) > 40:
		return Node{}, syntax.ErrDeep
	}
	return n, api.OK
}

// checkParse holds Parse against the chapter, and returns the error.
func checkParse(t *testing.T, s string) api.Errno {
	t.Helper()
	n, e := syntax.Parse(s)
	want, wrong := parseOf(s)
	if e != wrong || !isSame(n, want) {
		t.Fatalf("%q: %v %d, not %v %d", s, n, e, want, wrong)
	}
	return e
}

// checkTree holds what is told of a tree against the chapter, and reports whether it is right.
func checkTree(t *testing.T, n Node) bool {
	t.Helper()
	right := isRight(n)
	nullable, groups, least, most, text := false, 0, 0, 0, ""
	e, long := syntax.ErrTree, syntax.ErrTree
	if right {
		a, b := lengthsOf(n)
		nullable, groups, least, most, text = isNullable(n), count(n, isGroup), bounded(a), bounded(b), textOf(n)
		e, long = api.OK, api.OK
		if len(text) > 1024 {
			text, long = "", api.ErrLong
		}
	}
	if got := syntax.Right(n); got != right {
		t.Fatalf("%v: Right is %t", n, got)
	}
	if got, f := syntax.Nullable(n); got != nullable || f != e {
		t.Fatalf("%v: Nullable is %t %d, not %t %d", n, got, f, nullable, e)
	}
	if got, f := syntax.Groups(n); got != groups || f != e {
		t.Fatalf("%v: Groups is %d %d, not %d %d", n, got, f, groups, e)
	}
	if a, b, f := syntax.Lengths(n); a != least || b != most || f != e {
		t.Fatalf("%v: Lengths is %d %d %d, not %d %d %d", n, a, b, f, least, most, e)
	}
	if got, f := syntax.Text(n); got != text || f != long {
		t.Fatalf("%v: Text is %q %d, not %q %d", n, got, f, text, long)
	}
	return right
}

// points are code points on both sides of what is told apart.
var points = []int{0, 9, 10, 32, 33, 34, 45, 46, 48, 57, 63, 65, 94, 95, 97, 98, 99, 110, 120, 122, 123, 124, 125, 126, 127, 128, 233, 55295, 57344, 65533, 1114111}

// anySet returns a set, which is right.
func anySet(r *rand.Rand) Node {
	switch r.Intn(8) {
	case 0:
		return dot()
	case 1:
		l, _ := class.Named("dswDSW"[r.Intn(6)])
		return Node{Kind: 2, Set: l}
	case 2:
		return Node{Kind: 2}
	case 3:
		var l []class.Range
		for range 1 + r.Intn(3) {
			lo, hi := points[r.Intn(len(points))], points[r.Intn(len(points))]
			l = append(l, class.Range{Lo: min(lo, hi), Hi: max(lo, hi)})
		}
		l, _ = class.Of(l)
		return Node{Kind: 2, Set: l}
	case 4:
		return one(rune(reserved[r.Intn(len(reserved))]))
	}
	return one(rune(points[r.Intn(len(points))]))
}

// anyTree returns a tree of at most some depth, whose nodes are right by themselves.
func anyTree(r *rand.Rand, depth int) Node {
	kind := uint8(1 + r.Intn(6))
	if depth <= 1 && kind > 2 {
		kind = 2
	}
	n := Node{Kind: kind}
	switch kind {
	case 2:
		return anySet(r)
	case 3, 4:
		for range 2 + r.Intn(3) {
			n.Subs = append(n.Subs, anyTree(r, depth-1))
		}
	case 5:
		numbers := []int{0, 0, 1, 1, 2, 3, 10, 999, 1000}
		a, b := numbers[r.Intn(len(numbers))], numbers[r.Intn(len(numbers))]
		n.Min, n.Max, n.Lazy = min(a, b), max(a, b), r.Intn(3) == 0
		if r.Intn(2) == 0 {
			n.Max = -1
		}
		n.Subs = []Node{anyTree(r, depth-1)}
		if (n.Max == -1 || n.Max > 1) && isNullable(n.Subs[0]) && r.Intn(8) > 0 {
			n.Min, n.Max = r.Intn(2), 1
		}
	case 6:
		n.Subs = []Node{anyTree(r, depth-1)}
	}
	return n
}

// anyNode returns a node of a tree.
func anyNode(r *rand.Rand, n *Node) *Node {
	for len(n.Subs) > 0 && r.Intn(3) > 0 {
		n = &n.Subs[r.Intn(len(n.Subs))]
	}
	return n
}

// spoil changes one field of a node.
func spoil(r *rand.Rand, n *Node) {
	numbers := []int{math.MinInt, -2, -1, 0, 1, 2, 999, 1000, 1001, math.MaxInt}
	switch r.Intn(8) {
	case 0:
		n.Kind = uint8(r.Intn(8))
	case 1:
		n.Set = anySet(r).Set
	case 2:
		n.Set = append(n.Set, class.Range{Lo: points[r.Intn(len(points))], Hi: points[r.Intn(len(points))]})
	case 3:
		n.Min = numbers[r.Intn(len(numbers))]
	case 4:
		n.Max = numbers[r.Intn(len(numbers))]
	case 5:
		n.Lazy = !n.Lazy
	case 6:
		n.Subs = append(slices.Clip(n.Subs), anySet(r))
	case 7:
		n.Subs = n.Subs[:len(n.Subs)/2]
	}
}

// spelt returns one of the patterns of a tree: in one more pair of parentheses than there has to be, with a longer quantifier, or as an escape.
func spelt(r *rand.Rand, n Node) string {
	s := ""
	for i, x := range n.Subs {
		part := spelt(r, x)
		if strings.ContainsRune(map[uint8]string{3: "\x01\x03\x04", 4: "\x04", 5: "\x01\x03\x04\x05"}[n.Kind], rune(x.Kind)) || r.Intn(8) == 0 {
			part = "(?:" + part + ")"
		}
		if n.Kind == 4 && i > 0 {
			s += "|"
		}
		s += part
	}
	switch n.Kind {
	case 2:
		s = setTextOf(n)
		if class.Count(n.Set) == 1 && r.Intn(2) == 0 {
			s = speltPoint(r, n.Set[0].Lo)
		} else if r.Intn(4) == 0 {
			s, _ = class.Text(n.Set)
		}
	case 5:
		s += speltTimes(r, n)
	case 6:
		s = "(" + s + ")"
	}
	if r.Intn(16) == 0 {
		s = "(?:" + s + ")"
	}
	return s
}

// speltPoint returns one of the spellings of a code point.
func speltPoint(r *rand.Rand, c int) string {
	s := string(rune(c))
	if strings.Contains(reserved, s) {
		s = `\` + s
	}
	l := []string{s, fmt.Sprintf(`\x{%x}`, c), fmt.Sprintf(`\x{%06X}`, c), fmt.Sprintf(`[\x{%x}]`, c)}
	if c < 256 {
		l = append(l, fmt.Sprintf(`\x%02x`, c))
	}
	return l[r.Intn(len(l))]
}

// speltTimes returns one of the spellings of a quantifier.
func speltTimes(r *rand.Rand, n Node) string {
	s := quantifierOf(Node{Min: n.Min, Max: n.Max})
	switch {
	case r.Intn(2) == 0:
	case n.Max == -1:
		s = fmt.Sprintf("{%d,}", n.Min)
	default:
		s = fmt.Sprintf("{%d,%d}", n.Min, n.Max)
	}
	if n.Lazy {
		s += "?"
	}
	return s
}

// short calls f with all strings of up to n bytes out of some.
func short(n int, bytes string, f func(s string)) {
	l := []string{""}
	for range n + 1 {
		var longer []string
		for _, s := range l {
			f(s)
			for i := range len(bytes) {
				longer = append(longer, s+bytes[i:i+1])
			}
		}
		l = longer
	}
}

func TestConstants(t *testing.T) {
	if syntax.KindEmpty != 1 || syntax.KindSet != 2 || syntax.KindCat != 3 || syntax.KindAlt != 4 || syntax.KindRepeat != 5 || syntax.KindGroup != 6 {
		t.Error("kinds")
	}
	if syntax.MaxPattern != 1024 || syntax.MaxRepeat != 1000 || syntax.MaxGroups != 30 || syntax.MaxDepth != 40 || syntax.MaxLength != 1073741824 {
		t.Error("limits")
	}
	if syntax.ErrText != 70 || syntax.ErrEmpty != 71 || syntax.ErrDeep != 72 || syntax.ErrTree != 73 {
		t.Error("errors")
	}
}

// groups returns so many groups, one after the other.
func groups(n int) []Node {
	return slices.Repeat([]Node{group(one('a'))}, n)
}

// P7.1: trees of each kind at the borders of what is right.
func TestRight(t *testing.T) {
	a := one('a')
	for _, n := range []Node{
		empty(), a, dot(), {Kind: 2}, {Kind: 2, Set: []class.Range{}}, {Kind: 1, Set: []class.Range{}, Subs: []Node{}}, cat(a, a), cat(empty(), empty()), alt(a, a), alt(empty(), empty(), empty()), group(a), group(empty()), group(group(a)),
		repeat(0, 0, a), repeat(0, 1, a), repeat(0, -1, a), repeat(1, 1, a), repeat(1000, 1000, a), repeat(0, 1000, a), repeat(1000, -1, a), lazy(0, -1, a), lazy(5, 5, a), repeat(0, -1, Node{Kind: 2}),
		repeat(0, 0, empty()), repeat(0, 1, empty()), repeat(1, 1, empty()), repeat(0, 1, repeat(0, -1, a)), repeat(0, 0, alt(a, empty())), repeat(2, 2, alt(a, a)), repeat(0, -1, cat(empty(), a)), repeat(0, -1, cat(repeat(0, 1, a), a)), repeat(2, 3, repeat(1, 5, a)), repeat(0, -1, group(a)),
		cat(cat(a, a), alt(a, alt(a, a))), cat(groups(30)...), around(a, 30, group), around(a, 39, optional), around(empty(), 39, optional), cat(a, around(a, 38, optional)), cat(around(a, 38, optional), a),
	} {
		if !checkTree(t, n) {
			t.Errorf("%v is not right", n)
		}
	}
}

// P7.1, P7.3 and P7.4: trees that are not right, for each reason, wherever it stands.
func TestNotRight(t *testing.T) {
	a := one('a')
	for _, n := range []Node{
		{}, {Kind: 7}, {Kind: 255}, {Kind: 0, Subs: []Node{a}}, {Kind: 7, Subs: []Node{a, a}},
		{Kind: 1, Subs: []Node{a}}, {Kind: 1, Subs: []Node{a, a}}, {Kind: 2, Set: a.Set, Subs: []Node{a}}, {Kind: 2, Set: a.Set, Subs: []Node{empty(), empty()}}, cat(), cat(a), alt(), alt(a), {Kind: 5}, {Kind: 5, Subs: []Node{a, a}}, {Kind: 6}, {Kind: 6, Subs: []Node{a, a}}, {Kind: 5, Max: -1}, {Kind: 5, Max: 1, Subs: []Node{a, a}},
		{Kind: 1, Set: a.Set}, {Kind: 3, Set: a.Set, Subs: []Node{a, a}}, {Kind: 4, Set: a.Set, Subs: []Node{a, a}}, {Kind: 5, Set: a.Set, Subs: []Node{a}}, {Kind: 6, Set: a.Set, Subs: []Node{a}},
		set(5, 4), set(-1, 0), set(0, 1114112), set(55296, 55296), set(0, 1114111), set(1, 2, 3, 4), set(3, 4, 1, 1), {Kind: 1, Set: set(5, 4).Set},
		{Kind: 1, Min: 1}, {Kind: 1, Max: 1}, {Kind: 1, Max: -1}, {Kind: 1, Lazy: true}, {Kind: 2, Set: a.Set, Min: 1, Max: 1}, {Kind: 2, Set: a.Set, Max: 1}, {Kind: 2, Set: a.Set, Min: -1}, {Kind: 2, Set: a.Set, Lazy: true}, {Kind: 3, Min: 1, Subs: []Node{a, a}}, {Kind: 3, Max: -1, Subs: []Node{a, a}}, {Kind: 3, Lazy: true, Subs: []Node{a, a}}, {Kind: 4, Min: 1, Subs: []Node{a, a}}, {Kind: 4, Max: 2, Subs: []Node{a, a}}, {Kind: 4, Lazy: true, Subs: []Node{a, a}}, {Kind: 6, Min: 2, Subs: []Node{a}}, {Kind: 6, Max: 1, Subs: []Node{a}}, {Kind: 6, Lazy: true, Subs: []Node{a}},
		repeat(-1, -1, a), repeat(-1, 5, a), repeat(-1, 0, a), repeat(0, -2, a), repeat(-2, -2, a), repeat(1, 0, a), repeat(5, 4, a), repeat(0, 1001, a), repeat(1001, -1, a), repeat(1001, 1001, a), repeat(1001, 1000, a), repeat(math.MinInt, math.MaxInt, a), repeat(0, math.MaxInt, a), repeat(math.MaxInt, -1, a), repeat(0, math.MinInt, a), repeat(math.MaxInt, math.MaxInt, a),
		repeat(0, -1, empty()), repeat(1, -1, empty()), repeat(0, 2, empty()), repeat(2, 2, empty()), lazy(0, -1, empty()), repeat(0, -1, repeat(0, -1, a)), repeat(0, -1, optional(a)), repeat(0, 2, alt(a, empty())), repeat(0, 2, alt(empty(), a)), repeat(3, 5, group(repeat(0, -1, a))), repeat(1, -1, cat(empty(), optional(a))), repeat(0, -1, repeat(0, 0, a)), repeat(0, -1, repeat(1, 1, empty())), repeat(2, -1, group(group(empty()))),
		cat(groups(31)...), around(a, 31, group), alt(cat(groups(16)...), cat(groups(15)...)), around(a, 40, optional), around(empty(), 40, optional), cat(a, around(a, 39, optional)), cat(around(a, 39, optional), a), around(a, 1100, optional), around(a, 70000, optional), repeat(0, 0, around(a, 39, optional)), repeat(0, 0, cat(groups(31)...)),
	} {
		for _, n := range []Node{n, group(n), cat(a, n), cat(n, a), alt(a, a, n), alt(n, empty()), repeat(0, 0, n), optional(cat(group(alt(n, a)), a))} {
			if checkTree(t, n) {
				t.Errorf("%v is right", n)
			}
		}
	}
}

// P7.1, P7.3 and P7.4: many trees against the definition, as they are, and with a field of a node changed.
func TestTreesAgainstDefinition(t *testing.T) {
	r := rand.New(rand.NewSource(71))
	right, wrong := 0, 0
	for range 60000 {
		n := anyTree(r, 1+r.Intn(6))
		for range r.Intn(3) {
			spoil(r, anyNode(r, &n))
		}
		if count(n, isWrong) > 0 || count(n, isLoop) > 0 {
			wrong++
		}
		if checkTree(t, n) {
			right++
		}
	}
	if right < 15000 || wrong < 15000 {
		t.Error("too few trees of one sort:", right, "are right,", wrong, "are wrong")
	}
}

// P7.1: one field that is different, at the root and below it.
func TestSame(t *testing.T) {
	l := []Node{
		{}, {Kind: 1}, {Kind: 9}, {Min: 1}, {Min: -1}, {Max: 1}, {Max: math.MinInt}, {Lazy: true}, {Set: set(1, 2).Set}, {Set: set(1, 3).Set}, {Set: set(0, 2).Set}, {Set: set(1, 2, 1, 2).Set}, {Set: set(2, 1).Set},
		{Subs: []Node{{}}}, {Subs: []Node{{}, {}}}, {Subs: []Node{{Kind: 1}}}, {Subs: []Node{{Kind: 1}, {}}}, {Subs: []Node{{}, {Kind: 1}}}, {Subs: []Node{{Subs: []Node{{}}}}}, {Subs: []Node{{Subs: []Node{{}}}, {}}}, {Subs: []Node{{}, {Subs: []Node{{}}}}},
		{Subs: []Node{{Min: 1}}}, {Subs: []Node{{Max: 1}}}, {Subs: []Node{{Lazy: true}}}, {Subs: []Node{{Set: set(1, 2).Set}}}, {Subs: []Node{{Set: set(1, 3).Set}}}, {Subs: []Node{{}, {}, {Subs: []Node{{}, {Min: 1}, {}}}}}, {Subs: []Node{{}, {}, {Subs: []Node{{}, {Min: 2}, {}}}}},
		cat(one('a'), one('b')), cat(one('b'), one('a')), alt(one('a'), one('b')), repeat(2, 3, one('a')), lazy(2, 3, one('a')), repeat(2, 4, one('a')), repeat(1, 3, one('a')), repeat(2, 3, one('b')), group(repeat(2, 3, one('a'))),
	}
	for i, a := range l {
		for j, b := range l {
			if got := syntax.Same(a, b); got != (i == j) {
				t.Errorf("%v %v: %t", a, b, got)
			}
			if got := syntax.Same(cat(a, a, group(b)), copyOf(cat(a, a, group(a)))); got != (i == j) {
				t.Errorf("%v %v: %t", a, b, got)
			}
		}
		if !syntax.Same(a, copyOf(a)) {
			t.Error(a)
		}
	}
	// A list without elements is like none.
	full := Node{Kind: 3, Set: []class.Range{}, Subs: []Node{{Subs: []Node{}}, {Set: []class.Range{}}}}
	if bare := cat(Node{}, Node{}); !syntax.Same(full, bare) || !syntax.Same(bare, full) {
		t.Error(full)
	}
}

// P7.1: many trees, right or not, against the definition.
func TestSameAgainstDefinition(t *testing.T) {
	r := rand.New(rand.NewSource(72))
	same := 0
	for range 30000 {
		a := anyTree(r, 1+r.Intn(6))
		spoil(r, anyNode(r, &a))
		b := copyOf(a)
		if r.Intn(2) == 0 {
			spoil(r, anyNode(r, &b))
		}
		want := isSame(a, b)
		if syntax.Same(a, b) != want || syntax.Same(b, a) != want {
			t.Fatalf("%v %v: not %t", a, b, want)
		}
		if want {
			same++
		}
	}
	if same < 10000 || same > 20000 {
		t.Error("too few pairs of one sort: the same of 30000 are", same)
	}
}

// P7.2: patterns with what the chapter says of them, and the examples of it.
func TestParse(t *testing.T) {
	a, b, c := one('a'), one('b'), one('c')
	digits := set('0', '9')
	for s, want := range map[string]Node{
		"": empty(), "a": a, "ab": cat(a, b), "a|b": alt(a, b), "|": alt(empty(), empty()), "||": alt(empty(), empty(), empty()), "a|": alt(a, empty()), "|a": alt(empty(), a), "ab|c": alt(cat(a, b), c), "a|bc*": alt(a, cat(b, repeat(0, -1, c))),
		"()": group(empty()), "(a)": group(a), "((a))": group(group(a)), "(ab)": group(cat(a, b)), "(a|b)": group(alt(a, b)), "(|)": group(alt(empty(), empty())), "(a)(b)": cat(group(a), group(b)), "(a|)x{2,3}?": cat(group(alt(a, empty())), lazy(2, 3, one('x'))),
		"(?:)": empty(), "(?:a)": a, "(?:(?:a))": a, "(?:ab)": cat(a, b), "(?:ab)c": cat(cat(a, b), c), "a(?:bc)": cat(a, cat(b, c)), "(?:a)b": cat(a, b), "a(?:)": cat(a, empty()), "(?:)(?:)": cat(empty(), empty()), "(?:a|b)": alt(a, b), "(?:a|b)|c": alt(alt(a, b), c), "(?:a)|b": alt(a, b), "(?:a|b)c": cat(alt(a, b), c), "(?:(a))": group(a), "((?:a))": group(a), "(?:|)": alt(empty(), empty()), "(?:)|": alt(empty(), empty()),
		"a*": repeat(0, -1, a), "a+": repeat(1, -1, a), "a?": repeat(0, 1, a), "a*?": lazy(0, -1, a), "a+?": lazy(1, -1, a), "a??": lazy(0, 1, a), "a{0}": repeat(0, 0, a), "a{1}": repeat(1, 1, a), "a{7}": repeat(7, 7, a), "a{10}?": lazy(10, 10, a), "a{1000}": repeat(1000, 1000, a), "a{0,}": repeat(0, -1, a), "a{1,}": repeat(1, -1, a), "a{1000,}?": lazy(1000, -1, a), "a{0,0}": repeat(0, 0, a), "a{0,1}": repeat(0, 1, a), "a{2,2}": repeat(2, 2, a), "a{0,1000}": repeat(0, 1000, a), "a{999,1000}?": lazy(999, 1000, a), "a{9,10}": repeat(9, 10, a),
		"ab*": cat(a, repeat(0, -1, b)), "(ab)*": repeat(0, -1, group(cat(a, b))), "(?:ab)*": repeat(0, -1, cat(a, b)), "(a*)?": optional(group(repeat(0, -1, a))), "(?:a*)?": optional(repeat(0, -1, a)), "(?:a{2}){3}": repeat(3, 3, repeat(2, 2, a)), "a*b*": cat(repeat(0, -1, a), repeat(0, -1, b)), "a?b?|c?": alt(cat(optional(a), optional(b)), optional(c)), "()?": optional(group(empty())), "()??": lazy(0, 1, group(empty())), "(?:){0}": repeat(0, 0, empty()), "(?:){1}": repeat(1, 1, empty()), "(a|)?": optional(group(alt(a, empty()))), "(?:a?){0,1}": optional(optional(a)), "(?:a?){0}": repeat(0, 0, optional(a)),
		".": dot(), ".*": repeat(0, -1, dot()), "[a]": a, "[a-c]": set('a', 'c'), "[^a]": set(0, 96, 98, 55295, 57344, 1114111), "[^\\x{0}-\\x{10FFFF}]": {Kind: 2}, "[^\\x{0}-\\x{10FFFF}]*": repeat(0, -1, Node{Kind: 2}), "[a-c]*[b]": cat(repeat(0, -1, set('a', 'c')), b), "[)]": one(')'), "([)])": group(one(')')), "[(]": one('('), "[*|]+": repeat(1, -1, set('*', '*', '|', '|')), `[\]]`: one(']'), `[\d-]`: set('-', '-', '0', '9'),
		`\d`: digits, `\d{2,2}`: repeat(2, 2, digits), `\D`: set(0, 47, 58, 55295, 57344, 1114111), `\s`: set(9, 10, 12, 13, 32, 32), `\S`: set(0, 8, 11, 11, 14, 31, 33, 55295, 57344, 1114111), `\w`: set('0', '9', 'A', 'Z', '_', '_', 'a', 'z'), `\W`: set(0, 47, 58, 64, 91, 94, 96, 96, 123, 55295, 57344, 1114111), `\d\w`: cat(digits, set('0', '9', 'A', 'Z', '_', '_', 'a', 'z')),
		`\n`: one(10), `\t`: one(9), `\r`: one(13), `\f`: one(12), `\v`: one(11), `\a`: one(7), `\x41`: one('A'), `\x{41}`: one('A'), `\x{e9}z`: cat(one(233), one('z')), `\x{10FFFF}`: one(1114111), `\x410`: cat(one('A'), one('0')), `\-`: one('-'), `\_`: one('_'), "\\`": one('`'), `\\`: one('\\'), `\\d`: cat(one('\\'), one('d')), `\.`: one('.'), `\(a\)`: cat(one('('), a, one(')')), `\|`: one('|'), `\{2\}`: cat(one('{'), one('2'), one('}')), `a\*`: cat(a, one('*')), `a*\?`: cat(repeat(0, -1, a), one('?')),
		"é": one(233), "é+": repeat(1, -1, one(233)), "€|\U0001f600": alt(one(8364), one(128512)), "\ufffd": one(65533), "\x00": one(0), "\n": one(10), " ": one(' '), "\x7f": one(127), "a b": cat(a, one(' '), b), "-": one('-'), ",": one(','), ":": one(':'), "(:)": group(one(':')), "(?::)": one(':'), "<=>": cat(one('<'), one('='), one('>')), "0,1": cat(one('0'), one(','), one('1')), "/#\"'`~@&%!;_": cat(one('/'), one('#'), one('"'), one('\''), one('`'), one('~'), one('@'), one('&'), one('%'), one('!'), one(';'), one('_')),
	} {
		n, e := syntax.Parse(s)
		if e != api.OK || !isSame(n, want) {
			t.Errorf("%q: %v %d, not %v", s, n, e, want)
		}
		checkParse(t, s)
	}
}

// P7.2 and R2: strings that are no patterns; the examples of the chapter.
func TestNoPatterns(t *testing.T) {
	for _, s := range []string{
		"(", "a**", "a{1", "a{01}", "a{2,1}", "^a", "(?i)a", "]",
		")", "a)", "(a", "(a))", "((a)", "(?:", "(?:a", "(?", "(?)", "(?a)", "(?:a))", "(?P<x>a)", "(?=a)", "(?!a)", "(?<x>a)", "(?i:a)", "(?::", "a|(", "a|)", "(|", "(a|b", "()(", "(?(a)", "(??:a)", "(?:?a)", "( ?:a)*(",
		"*", "+", "?", "{2}", "|*", "a|*", "a|+b", "(*)", "(?:+)", "(|?)", "a*+", "a+*", "a?*", "a***", "a*??", "a+??", "a???", "a{2}{3}", "a{2}*", "a{2}??", "a*{2}", "a|{2}", "(a**)",
		"{", "}", "a{", "a}", "a{}", "a{,}", "a{,2}", "a{2", "a{2,", "a{2,3", "a{2,3,4}", "a{2;3}", "a{ 2}", "a{2 }", "a{2, 3}", "a{-1}", "a{+1}", "a{1,-1}", "a{0x1}", "a{1_0}", "a{a}", "a{1a}", "a{1,a}", "a{00}", "a{0,00}", "a{1,02}", "a{02,3}", "a{00,}", "a{1001}", "a{1001,}", "a{0,1001}", "a{1001,1000}", "a{1,0}", "a{10,9}", "a{99999999999999999999}", "a{18446744073709551617}", "a{4294967297}", "a{1,18446744073709551618}", "a{٢}", "a{1.}", "a{1", "a{1,1", "a{1?}", "{a}", "a{1}}",
		"$", "a$", "^", "a^b", "a|^", "[", "[]", "[a", "[^]", "[b-a]", "a]", "[a]]", "[a--]", "(]", "[(])", "[\\q]", "[[]", "a[", "[a][",
		`\`, `a\`, `\b`, `\B`, `\A`, `\z`, `\Z`, `\Q`, `\Qa\E`, `\pL`, `\p{L}`, `\C`, `\R`, `\1`, `\0`, `\07`, `\8`, `\e`, `\c`, `\u0041`, `\x`, `\x4`, `\x{`, `\x{}`, `\x{41`, `\x{D800}`, `\x{110000}`, `\x{0000041}`, `\xg0`, "\\ ", "\\\n", "\\\x00", `\é`, "\\\x7f", "(\\", "(\\)", "[\\]", `\[a]*`, `a\{2}`, `\(a)`,
		"\xff", "a\xff", "\x80", "\xc3", "é\xc3", "\xe2\x82", "\xed\xa0\x80", "\xed\xbf\xbf", "\xc0\x80", "\xc1\xbf", "\xf4\x90\x80\x80", "\xf8\x88\x80\x80\x80", "(\xff)", "[\xff]", "\\\xff", "a*\xff", "\xff*", "\xef\xbf", "\xc3(", "\xfe",
		"(a*)+)", "(a*)+(", "(a*)*]", "a\xff(){2}",
	} {
		if n, e := syntax.Parse(s); e != syntax.ErrText || !isSame(n, Node{}) {
			t.Errorf("%q: %v %d", s, n, e)
		}
		checkParse(t, s)
	}
}

// P7.2: repetitions of what is nullable.
func TestRepetitionsOfNothing(t *testing.T) {
	for _, s := range []string{"(a*)*", "(a|){0,2}", "(?:a?)+", "(){2}", "(|a)*?", "(?:)*", "()+", "(?:a?)*", "(?:a{0})*", "(?:a{0,5}){2}", "(?:a{0}){1,2}", "(?:(?:){1})+", "(?:a?b?)*", "(?:a|b*)+", "(?:()())*", "((((a?))))+", "a|(b*)*|c", "(?:(a*)*)?", "(?:a?){1000}", "(?:a?){2,}", "(?:a?){1,}", "(?:a?){0,}?", "(?:|)*", "(?:(a*)*){0}", "(?:[^\\x{0}-\\x{10FFFF}]?)*"} {
		if n, e := syntax.Parse(s); e != syntax.ErrEmpty || !isSame(n, Node{}) {
			t.Errorf("%q: %v %d", s, n, e)
		}
		checkParse(t, s)
	}
	for _, s := range []string{"(a*)?", "(?:a?){0,1}", "(){1}", "()?", "(?:){0}", "x*y*", "(?:a?b)*", "(?:a|b)*", "(?:a+)*", "(?:a{1,5})+", "(?:a*b|c)+", "(?:a?){1}", "(?:a*){1,1}", "(?:a*){0,0}", "(?:(?:a?){1}b)*"} {
		if e := checkParse(t, s); e != api.OK {
			t.Errorf("%q: %d", s, e)
		}
	}
}

// P7.2, R2 and Limits: as much as there may be, one more, and which error goes first.
func TestLimitsOfPatterns(t *testing.T) {
	times := strings.Repeat
	around := func(open, s, end string, n int) string { return times(open, n) + s + times(end, n) }
	for _, x := range []struct {
		s string
		e api.Errno
	}{
		{times("a", 1024), api.OK}, {times("a", 1025), api.ErrLong}, {times("|", 1024), api.OK}, {times("|", 1025), api.ErrLong}, {times("é", 512), api.OK}, {times("é", 512) + "a", api.ErrLong}, {times(")", 1025), api.ErrLong}, {times(")", 1024), syntax.ErrText}, {times("(", 1024), syntax.ErrText}, {times("(?:", 341), syntax.ErrText}, {times("\xff", 1025), api.ErrLong}, {times("()+", 400), api.ErrLong},
		{"[" + times("a", 1022) + "]", api.OK}, {"[" + times("a", 1023) + "]", api.ErrLong}, {"a{" + times("0", 1021) + "}", syntax.ErrText}, {"a{" + times("9", 1021) + "}", syntax.ErrText}, {"a{1" + times("0", 1020) + "}", syntax.ErrText},
		{times("()", 30), api.OK}, {times("()", 31), api.ErrMany}, {around("(", "", ")", 30), api.OK}, {around("(", "", ")", 31), api.ErrMany}, {times("(a)|", 31), api.ErrMany}, {times("(?:a)", 31), api.OK}, {times("()", 512), api.ErrMany}, {times(`\(\)`, 31), api.OK}, {times("[()]", 31), api.OK}, {"(?:" + times("()", 31) + "){0}", api.ErrMany},
		{around("(?:", "a", ")", 170), api.OK}, {around("(?:", "a?", ")?", 38), api.OK}, {around("(?:", "a?", ")?", 39), syntax.ErrDeep}, {around("(?:", "", ")?", 39), api.OK}, {around("(?:", "", ")?", 40), syntax.ErrDeep}, {around("(?:a", "a", ")", 39), api.OK}, {around("(?:a", "a", ")", 40), syntax.ErrDeep}, {around("(?:a|", "a", ")", 39), api.OK}, {around("(?:a|", "a", ")", 40), syntax.ErrDeep}, {around("(?:a", "a", "b)", 39), api.OK}, {around("(?:a", "a", "b)", 40), syntax.ErrDeep},
		{around("(", around("(?:", "a", ")?", 9), ")", 30), api.OK}, {around("(", around("(?:", "a", ")?", 10), ")", 30), syntax.ErrDeep}, {around("(", "a", ")", 511), api.ErrMany}, {around("(?:", "a", ")?", 204), syntax.ErrDeep}, {around("(a", "a", "|)", 200), api.ErrMany}, {"b" + around("(?:", "a", ")?", 39), syntax.ErrDeep}, {"b" + around("(?:", "a", ")?", 38), api.OK}, {"b|" + around("(?:", "a", ")?", 39), syntax.ErrDeep},
		{times("()", 31) + "()*", syntax.ErrEmpty}, {times("()", 31) + ")", syntax.ErrText}, {"()*" + times("()", 31) + "(", syntax.ErrText}, {around("(?:", "a", ")?", 50) + "()+", syntax.ErrEmpty}, {around("(?:", "a", ")?", 50) + times("()", 31), api.ErrMany}, {around("(?:", "a*", ")*", 50), syntax.ErrEmpty}, {around("(", "a?", ")+", 50), syntax.ErrEmpty}, {around("(?:", "a", ")?", 50) + "]", syntax.ErrText},
	} {
		if n, e := syntax.Parse(x.s); e != x.e || e != api.OK && !isSame(n, Node{}) {
			t.Errorf("%q: %d, not %d", x.s, e, x.e)
		}
		checkParse(t, x.s)
	}
}

// P7.2: each byte alone, each pair of bytes, and each byte behind what goes on with it.
func TestParseOfBytes(t *testing.T) {
	for a := range 256 {
		for b := range 256 {
			checkParse(t, string([]byte{byte(a), byte(b)}))
		}
		x := string([]byte{byte(a)})
		for _, s := range []string{x, "(" + x + ")", "(?" + x + "a)", "a{" + x + "}", "a{2" + x, "a{2" + x + "3}", "a{2," + x + "}", "[" + x + "]", `\x4` + x, "a*" + x, "a" + x + "b", "é" + x} {
			checkParse(t, s)
		}
	}
	for c := 0; c < 0x110000; c += 1 + c/1000 {
		s := string(rune(c))
		if c >= 0xd800 && c < 0xe000 {
			s = string([]byte{0xed, byte(0x80 | c>>6&0x3f), byte(0x80 | c&0x3f)})
		}
		checkParse(t, s)
		checkParse(t, s[:len(s)-1])
	}
}

// P7.2: all short strings of some bytes, and many longer ones of pieces.
func TestParseAgainstDefinition(t *testing.T) {
	found := map[api.Errno]int{}
	try := func(s string) { found[checkParse(t, s)]++ }
	short(6, "a(?:)|*", try)
	short(6, "({12,}?", func(s string) { try("a" + s) })
	short(5, `\xd[]-a`, try)
	pieces := []string{"a", "b", "é", "(", "(", "(", "(?:", "(?:", ")", ")", ")", ")", "|", "|", "*", "+", "?", "??", "{2}", "{0}", "{0,1}", "{1,}", "{3,1000}?", ".", "[a-c]", "[^a]", `\d`, `\W`, `\x{e9}`, `\n`, `\.`}
	bad := []string{"{2,1}", "{1001}", "^", "]", "\xff", "{01}", `\b`, "[b-a]", "$", "{", "}", "(?i)"}
	r := rand.New(rand.NewSource(73))
	for range 100000 {
		s := ""
		for range r.Intn(14) {
			s += pieces[r.Intn(len(pieces))]
			if r.Intn(200) == 0 {
				s += bad[r.Intn(len(bad))]
			}
		}
		if open := strings.Count(s, "(") - strings.Count(s, ")"); open > 0 && r.Intn(4) > 0 {
			s += strings.Repeat(")", open)
		}
		try(s)
	}
	if found[api.OK] < 5000 || found[syntax.ErrText] < 5000 || found[syntax.ErrEmpty] < 500 {
		t.Error("too few strings of one sort:", found)
	}
}

// P7.2: trees are what their patterns are read as, however these are spelt.
func TestParseOfSpeltTrees(t *testing.T) {
	r := rand.New(rand.NewSource(74))
	right := 0
	for range 30000 {
		n := anyTree(r, 1+r.Intn(7))
		s := spelt(r, n)
		got, e := syntax.Parse(s)
		switch {
		case len(s) > 1024:
			if e != api.ErrLong {
				t.Fatalf("%q: %d", s, e)
			}
		case isRight(n):
			right++
			if e != api.OK || !isSame(got, n) {
				t.Fatalf("%q: %v %d, not %v", s, got, e, n)
			}
		case e == api.OK || !isSame(got, Node{}):
			t.Fatalf("%q: %v %d", s, got, e)
		}
	}
	if right < 10000 {
		t.Error("too few trees:", right)
	}
}

// P7.3: texts of each kind; the examples of the chapter.
func TestText(t *testing.T) {
	a, b := one('a'), one('b')
	for _, x := range []struct {
		n Node
		s string
	}{
		{empty(), ""}, {a, "a"}, {dot(), "."}, {one('.'), `\.`}, {one('-'), "-"}, {one('^'), `\^`}, {one(']'), `\]`}, {one('!'), "!"}, {one('~'), "~"}, {one(' '), `\x{20}`}, {one(127), `\x{7F}`}, {one(0), `\x{0}`}, {one(10), `\x{A}`}, {one(233), `\x{E9}`}, {one(1114111), `\x{10FFFF}`},
		{set('a', 'b'), "[a-b]"}, {set('a', 'a', 'c', 'c'), "[ac]"}, {set('.', '/'), "[.-/]"}, {set('0', '9'), "[0-9]"}, {Node{Kind: 2}, `[^\x{0}-\x{10FFFF}]`}, {set(0, 55295), `[\x{0}-\x{D7FF}]`}, {set(57344, 1114111), `[\x{E000}-\x{10FFFF}]`}, {set(0, 55295, 57344, 1114110), `[\x{0}-\x{D7FF}\x{E000}-\x{10FFFE}]`}, {set(1, 55295, 57344, 1114111), `[\x{1}-\x{D7FF}\x{E000}-\x{10FFFF}]`}, {set(55295, 55295, 57344, 57344), `[\x{D7FF}\x{E000}]`}, {set('-', '-', 'a', 'a'), `[\x{2D}a]`},
		{cat(a, b), "ab"}, {cat(cat(a, b), a), "(?:ab)a"}, {cat(a, alt(a, b)), "a(?:a|b)"}, {cat(empty(), a, empty()), "(?:)a(?:)"}, {cat(repeat(0, -1, a), group(b)), "a*(b)"}, {alt(a, b), "a|b"}, {alt(empty(), empty()), "|"}, {alt(cat(a, b), repeat(1, -1, b), group(a)), "ab|b+|(a)"}, {alt(alt(a, b), b), "(?:a|b)|b"}, {alt(a, alt(b, empty())), "a|(?:b|)"},
		{group(empty()), "()"}, {group(cat(a, b)), "(ab)"}, {group(alt(a, b)), "(a|b)"}, {group(group(a)), "((a))"}, {group(repeat(0, 1, a)), "(a?)"},
		{repeat(0, -1, a), "a*"}, {repeat(1, -1, a), "a+"}, {repeat(0, 1, a), "a?"}, {repeat(0, 0, a), "a{0}"}, {repeat(1, 1, a), "a{1}"}, {repeat(2, 2, a), "a{2}"}, {repeat(2, -1, a), "a{2,}"}, {repeat(0, 2, a), "a{0,2}"}, {repeat(1, 2, a), "a{1,2}"}, {repeat(1000, 1000, a), "a{1000}"}, {repeat(999, 1000, a), "a{999,1000}"}, {repeat(1000, -1, a), "a{1000,}"},
		{lazy(0, -1, a), "a*?"}, {lazy(1, -1, a), "a+?"}, {lazy(0, 1, a), "a??"}, {lazy(3, 3, a), "a{3}?"}, {lazy(3, -1, a), "a{3,}?"}, {lazy(3, 4, a), "a{3,4}?"}, {lazy(0, 1, alt(a, b)), "(?:a|b)??"}, {repeat(0, -1, cat(a, b)), "(?:ab)*"}, {repeat(0, 1, empty()), "(?:)?"}, {repeat(0, 1, repeat(0, 1, a)), "(?:a?)?"}, {repeat(0, -1, group(a)), "(a)*"}, {repeat(2, 2, dot()), ".{2}"}, {repeat(2, 2, set('0', '9')), "[0-9]{2}"}, {repeat(0, -1, one('*')), `\**`},
	} {
		if s, e := syntax.Text(x.n); s != x.s || e != api.OK {
			t.Errorf("%v: %q %d, not %q", x.n, s, e, x.s)
		}
		checkTree(t, x.n)
	}
	for s, want := range map[string]string{"(?:ab)c": "(?:ab)c", "(?:a)b": "ab", "a{1,}": "a+", `\d{2,2}`: "[0-9]{2}", "(?:a|b)??": "(?:a|b)??", `\x{e9}`: `\x{E9}`, `[\x{0}-\x{10FFFF}]`: ".", "a{0,}?": "a*?", `\_`: "_"} {
		n, _ := syntax.Parse(s)
		if got, e := syntax.Text(n); got != want || e != api.OK {
			t.Errorf("%q: %q %d, not %q", s, got, e, want)
		}
	}
}

// P7.3: the text of each code point, alone and in a class.
func TestTextOfEachPoint(t *testing.T) {
	for c := range 0x110000 {
		if c >= 0xd800 && c < 0xe000 {
			continue
		}
		n := one(rune(c))
		want := fmt.Sprintf(`\x{%X}`, c)
		if c > 32 && c < 127 {
			want = string(rune(c))
			if strings.Contains(reserved, want) {
				want = `\` + want
			}
		}
		s, e := syntax.Text(n)
		back, f := syntax.Parse(s)
		if s != want || e != api.OK || f != api.OK || !isSame(back, n) {
			t.Fatalf("%d: %q %d, %v %d", c, s, e, back, f)
		}
	}
}

// P7.3 and P7.5: each way of saying how many times, up to some numbers, and at the greatest ones.
func TestTextOfTimes(t *testing.T) {
	numbers := []int{-1, 0, 1, 2, 3, 9, 10, 11, 99, 100, 998, 999, 1000}
	for _, least := range numbers {
		for _, most := range numbers {
			for _, n := range []Node{repeat(least, most, one('a')), lazy(least, most, group(one('a')))} {
				if !checkTree(t, n) {
					continue
				}
				s, _ := syntax.Text(n)
				if back, e := syntax.Parse(s); e != api.OK || !isSame(back, n) {
					t.Errorf("%v: %q %v %d", n, s, back, e)
				}
			}
		}
	}
}

// P7.3, R2 and Limits: texts of just as many bytes as there may be, and of one more.
func TestLongTexts(t *testing.T) {
	many := func(n Node, k int) []Node { return slices.Repeat([]Node{n}, k) }
	a := one('a')
	ranges := func(k int) Node {
		n := Node{Kind: 2}
		for i := range k {
			n.Set = append(n.Set, class.Range{Lo: 256 + 2*i, Hi: 256 + 2*i})
		}
		return n
	}
	for _, x := range []struct {
		n    Node
		size int
	}{
		{cat(many(a, 1024)...), 1024}, {cat(many(a, 1025)...), 1025}, {alt(many(empty(), 1025)...), 1024}, {alt(many(empty(), 1026)...), 1025}, {cat(many(empty(), 256)...), 1024}, {cat(append(many(empty(), 256), a)...), 1025}, {group(cat(many(a, 1022)...)), 1024}, {group(cat(many(a, 1023)...)), 1025},
		{repeat(0, -1, cat(many(a, 1019)...)), 1024}, {repeat(0, -1, cat(many(a, 1020)...)), 1025}, {lazy(0, -1, cat(many(a, 1018)...)), 1024}, {lazy(0, -1, cat(many(a, 1019)...)), 1025}, {cat(many(one(233), 170)...), 1020}, {cat(append(many(one(233), 170), many(a, 4)...)...), 1024}, {cat(append(many(one(233), 170), many(a, 5)...)...), 1025},
		{ranges(146), 1024}, {cat(ranges(145), many(a, 7)[0]), 1018}, {cat(append(many(a, 1), ranges(146))...), 1025}, {cat(many(a, 1<<17)...), 1 << 17}, {alt(many(empty(), 1<<17)...), 1<<17 - 1}, {cat(many(cat(a, a), 1<<16)...), 6 << 16}, {alt(cat(many(a, 1024)...), empty()), 1025}, {alt(cat(many(a, 1023)...), empty()), 1024}, {cat(alt(cat(many(a, 1019)...), empty()), empty()), 1028},
	} {
		s, e := syntax.Text(x.n)
		if x.size > 1024 && (s != "" || e != api.ErrLong) || x.size <= 1024 && (len(s) != x.size || e != api.OK) {
			t.Errorf("%d: %d bytes, %d", x.size, len(s), e)
		}
		if len(textOf(x.n)) != x.size {
			t.Error(x.size, len(textOf(x.n)))
		}
		checkTree(t, x.n)
	}
	// What is not right is that, however long it is.
	if s, e := syntax.Text(cat(append(many(a, 5000), Node{})...)); s != "" || e != syntax.ErrTree {
		t.Error(len(s), e)
	}
}

// P7.4: lengths of each kind; the examples of the chapter.
func TestLengths(t *testing.T) {
	a := one('a')
	thousands := func(k int) Node { return around(a, k, func(n Node) Node { return repeat(1000, 1000, n) }) }
	for _, x := range []struct {
		n           Node
		least, most int
	}{
		{empty(), 0, 0}, {a, 1, 1}, {dot(), 1, 1}, {Node{Kind: 2}, 1, 1}, {cat(a, a, empty()), 2, 2}, {alt(a, cat(a, a), a), 1, 2}, {alt(cat(a, a), a), 1, 2}, {alt(cat(a, a), cat(a, a, a)), 2, 3}, {alt(empty(), a), 0, 1}, {alt(a, empty()), 0, 1}, {alt(repeat(3, 3, a), repeat(0, -1, a)), 0, -1}, {alt(repeat(2, -1, a), repeat(3, 3, a)), 2, -1}, {group(cat(a, a)), 2, 2}, {group(repeat(4, -1, a)), 4, -1},
		{repeat(0, -1, a), 0, -1}, {repeat(3, -1, cat(a, a)), 6, -1}, {repeat(0, 1, a), 0, 1}, {repeat(2, 3, a), 2, 3}, {repeat(2, 5, alt(a, cat(a, a))), 2, 10}, {repeat(0, 0, a), 0, 0}, {repeat(0, 0, repeat(0, -1, a)), 0, 0}, {repeat(0, 0, repeat(7, -1, a)), 0, 0}, {repeat(0, 1, repeat(7, -1, a)), 0, -1}, {repeat(1, 1, repeat(7, -1, a)), 7, -1}, {repeat(5, 5, repeat(7, -1, a)), 35, -1}, {repeat(0, 1, empty()), 0, 0}, {cat(repeat(1, -1, a), a), 2, -1}, {cat(a, repeat(0, -1, a)), 1, -1}, {cat(repeat(0, 0, repeat(0, -1, a)), a), 1, 1}, {repeat(1, 1, repeat(0, 0, repeat(1, -1, a))), 0, 0},
		{thousands(3), 1000000000, 1000000000}, {cat(thousands(3), thousands(2)), 1001000000, 1001000000}, {cat(thousands(3), thousands(3)), 1 << 30, 1 << 30}, {thousands(4), 1 << 30, 1 << 30}, {thousands(39), 1 << 30, 1 << 30}, {repeat(0, 2, thousands(3)), 0, 1 << 30}, {repeat(1, 2, thousands(3)), 1000000000, 1 << 30}, {repeat(1, -1, thousands(5)), 1 << 30, -1}, {repeat(2, -1, thousands(38)), 1 << 30, -1}, {around(a, 39, func(n Node) Node { return repeat(1, -1, n) }), 1, -1}, {around(a, 39, func(n Node) Node { return repeat(2, -1, n) }), 1 << 30, -1}, {around(a, 29, func(n Node) Node { return repeat(2, 2, n) }), 1 << 29, 1 << 29}, {around(a, 30, func(n Node) Node { return repeat(2, 2, n) }), 1 << 30, 1 << 30}, {around(a, 31, func(n Node) Node { return repeat(2, 2, n) }), 1 << 30, 1 << 30},
		{cat(around(a, 30, func(n Node) Node { return repeat(2, 2, n) }), a), 1 << 30, 1 << 30}, {alt(thousands(4), a), 1, 1 << 30}, {repeat(0, 0, thousands(5)), 0, 0}, {alt(thousands(4), thousands(3)), 1000000000, 1 << 30},
	} {
		if least, most, e := syntax.Lengths(x.n); least != x.least || most != x.most || e != api.OK {
			t.Errorf("%v: %d %d %d, not %d %d", x.n, least, most, e, x.least, x.most)
		}
		checkTree(t, x.n)
	}
	for s, want := range map[string][3]int{"a|bc*": {1, -1, 0}, "(a|)x{2,3}?": {2, 4, 1}, "((a)(?:b)|(c{5}))": {2, 5, 3}} {
		n, _ := syntax.Parse(s)
		least, most, e := syntax.Lengths(n)
		k, f := syntax.Groups(n)
		nullable, g := syntax.Nullable(n)
		if (want != [3]int{least, most, k}) || nullable || e != api.OK || f != api.OK || g != api.OK {
			t.Error(s, least, most, k, nullable)
		}
	}
}

// P7.5: texts are read back, and the text of what a pattern is read as has the same tree.
func TestTextsAreReadBack(t *testing.T) {
	r := rand.New(rand.NewSource(75))
	read := 0
	for range 40000 {
		n := anyTree(r, 1+r.Intn(7))
		if r.Intn(2) == 0 {
			n, _ = syntax.Parse(spelt(r, n))
		}
		s, e := syntax.Text(n)
		if e != api.OK {
			continue
		}
		read++
		back, e := syntax.Parse(s)
		again, f := syntax.Text(back)
		if !isSame(back, n) || !syntax.Right(back) || again != s || e != api.OK || f != api.OK {
			t.Fatalf("%v: %q, %v %d, %q %d", n, s, back, e, again, f)
		}
		least, _, _ := syntax.Lengths(n)
		if nullable, _ := syntax.Nullable(n); nullable != (least == 0) {
			t.Fatalf("%v: %d %t", n, least, nullable)
		}
	}
	if read < 20000 {
		t.Error("too few texts:", read)
	}
}

// twice returns a tree in which parts of parts are the same memory: of depth n, it has 2^n - 1 nodes.
func twice(n Node, depth int, f func(l ...Node) Node) Node {
	return around(n, depth-1, func(n Node) Node { return f(n, n) })
}

// R1: trees whose parts share memory have more nodes than can be gone through.
func TestPartsThatShareMemory(t *testing.T) {
	for _, x := range []struct {
		n           Node
		least, most int
		text        api.Errno
	}{
		{twice(one('a'), 40, cat), 1 << 30, 1 << 30, api.ErrLong}, {twice(one('a'), 40, alt), 1, 1, api.ErrLong}, {twice(empty(), 40, alt), 0, 0, api.ErrLong}, {twice(empty(), 40, cat), 0, 0, api.ErrLong}, {twice(one('a'), 30, cat), 1 << 29, 1 << 29, api.ErrLong}, {repeat(0, -1, twice(one('a'), 39, cat)), 0, -1, api.ErrLong}, {twice(repeat(0, -1, one('a')), 39, cat), 0, -1, api.ErrLong}, {twice(one('a'), 8, cat), 128, 128, api.OK}, {twice(alt(empty(), one('a')), 39, cat), 0, 1 << 30, api.ErrLong},
	} {
		least, most, e := syntax.Lengths(x.n)
		nullable, f := syntax.Nullable(x.n)
		groups, g := syntax.Groups(x.n)
		_, h := syntax.Text(x.n)
		if !syntax.Right(x.n) || least != x.least || most != x.most || nullable != (x.least == 0) || groups != 0 || e != api.OK || f != api.OK || g != api.OK || h != x.text {
			t.Error(least, most, nullable, groups, e, f, g, h)
		}
	}
	for _, n := range []Node{
		twice(one('a'), 41, cat), twice(group(one('a')), 39, cat), twice(group(one('a')), 6, alt), twice(one('a'), 1000, cat), twice(group(one('a')), 1000, cat), twice(group(one('a')), 100000, cat), twice(Node{}, 40, cat), twice(cat(one('a')), 40, alt), repeat(0, -1, twice(empty(), 39, cat)), group(twice(repeat(0, 2, empty()), 38, cat)),
	} {
		if _, e := syntax.Text(n); syntax.Right(n) || e != syntax.ErrTree {
			t.Error(n.Kind)
		}
	}
	if n, e := syntax.Groups(twice(group(one('a')), 5, cat)); n != 16 || e != api.OK {
		t.Error(n, e)
	}
	// Parts that are gone through already stand one deeper, too.
	n := around(one('a'), 38, optional)
	checkTree(t, cat(n, n))
	checkTree(t, cat(n, optional(n)))
	checkTree(t, alt(n, cat(n, n)))
	a, b := twice(one('a'), 1000, cat), twice(one('a'), 1000, cat)
	if c := twice(one('b'), 1000, cat); !syntax.Same(a, b) || !syntax.Same(a, a) || syntax.Same(a, c) || syntax.Same(a, twice(one('a'), 999, cat)) || syntax.Same(a, twice(one('a'), 1000, alt)) {
		t.Error("trees of 2^1000 nodes")
	}
	// One list of parts, of which nodes of different kinds say different things.
	l := []Node{one('a'), cat(one('a'), one('a')), empty()}
	both := cat(cat(l...), alt(l...), alt(l[:2]...), cat(l[1:]...))
	if least, most, e := syntax.Lengths(both); least != 6 || most != 9 || e != api.OK {
		t.Error(least, most, e)
	}
	checkTree(t, both)
	if syntax.Same(cat(l[0], alt(l[:2]...)), cat(l[0], alt(l...))) || syntax.Same(cat(alt(l[:2]...), alt(l[:2]...)), cat(alt(l[:2]...), alt(l[1:]...))) {
		t.Error("lists that begin at one place, or end there")
	}
}

// R1: nodes that are parts of themselves have no end.
func TestPartsOfThemselves(t *testing.T) {
	ring := func(kind uint8, size, parts int) Node {
		l := make([][]Node, size)
		for i := range l {
			l[i] = make([]Node, parts)
		}
		for i := range l {
			for j := range l[i] {
				l[i][j] = Node{Kind: kind, Subs: l[(i+1)%size]}
			}
		}
		return l[0][0]
	}
	wide := make([]Node, 1<<18)
	for i := range wide {
		wide[i] = one('a')
	}
	wide[len(wide)-1] = Node{Kind: 3, Subs: wide}
	for _, n := range []Node{ring(6, 1, 1), ring(3, 1, 2), ring(4, 3, 5), ring(5, 2, 1), ring(6, 5000, 1), ring(3, 5000, 2), ring(0, 1, 1), cat(one('a'), ring(3, 1, 2)), wide[0], wide[len(wide)-1]} {
		right := n.Kind == 2
		_, e := syntax.Text(n)
		_, f := syntax.Nullable(n)
		_, g := syntax.Groups(n)
		_, _, h := syntax.Lengths(n)
		if syntax.Right(n) != right || (e == api.OK) != right || f != e || g != e || h != e || !right && e != syntax.ErrTree {
			t.Error(n.Kind, e, f, g, h)
		}
		if !syntax.Same(n, n) || syntax.Same(n, Node{}) || syntax.Same(n, group(n)) && n.Kind != 6 {
			t.Error(n.Kind)
		}
	}
	if !syntax.Same(ring(6, 2, 1), ring(6, 3, 1)) || !syntax.Same(ring(3, 4, 2), ring(3, 7, 2)) || syntax.Same(ring(3, 2, 2), ring(3, 2, 3)) || syntax.Same(ring(3, 2, 2), ring(4, 2, 2)) || syntax.Same(ring(6, 3, 1), around(empty(), 5000, group)) {
		t.Error("rings of nodes")
	}
}

// R1: trees that are far too deep.
func TestDeepTrees(t *testing.T) {
	for _, depth := range []int{41, 1023, 1024, 1025, 1 << 16, 1 << 18} {
		n, m := around(one('a'), depth-1, optional), around(one('b'), depth-1, optional)
		_, e := syntax.Text(n)
		_, f := syntax.Nullable(n)
		_, g := syntax.Groups(n)
		_, _, h := syntax.Lengths(n)
		if syntax.Right(n) || e != syntax.ErrTree || f != e || g != e || h != e {
			t.Error(depth, e, f, g, h)
		}
		if !syntax.Same(n, around(one('a'), depth-1, optional)) || syntax.Same(n, m) || syntax.Same(n, optional(n)) {
			t.Error(depth)
		}
	}
}

// lists calls f with all lists of a tree.
func lists(n *Node, ranges func(l []class.Range), nodes func(l []Node)) {
	for i := range n.Subs {
		lists(&n.Subs[i], ranges, nodes)
	}
	ranges(n.Set)
	nodes(n.Subs)
}

// R3 and R4: results share no memory with other results, nor within one.
func TestNothingShared(t *testing.T) {
	const s = `..\d\d\w(a)(a)a*a*[a-c][a-c]\W\Wé|b|(?:c|d)|[^a][^a]\n`
	want, e := syntax.Parse(s)
	want = copyOf(want)
	n, f := syntax.Parse(s)
	other, _ := syntax.Parse(s)
	if e != api.OK || f != api.OK || !isSame(n, want) {
		t.Fatal(n, e, f)
	}
	// Each list is filled, with all it has room for, and must have kept that when all of them are.
	next := 0
	var ranges [][]class.Range
	var nodes [][]Node
	lists(&n, func(l []class.Range) { ranges = append(ranges, l[:cap(l)]) }, func(l []Node) { nodes = append(nodes, l[:cap(l)]) })
	for _, l := range ranges {
		for i := range l {
			next++
			l[i] = class.Range{Lo: next, Hi: next}
		}
	}
	for _, l := range nodes {
		for i := range l {
			next++
			l[i] = Node{Min: next}
		}
	}
	seen := 0
	for _, l := range ranges {
		for i := range l {
			if seen++; l[i].Lo != seen {
				t.Fatal("ranges are shared")
			}
		}
	}
	for _, l := range nodes {
		for i := range l {
			if seen++; l[i].Min != seen {
				t.Fatal("nodes are shared")
			}
		}
	}
	if again, _ := syntax.Parse(s); seen == 0 || !isSame(other, want) || !isSame(again, want) {
		t.Error(again)
	}
}

// R3: arguments, and what they have room for, stay as they were.
func TestNothingChanged(t *testing.T) {
	made := func() Node {
		room := append(make([]Node, 0, 8), group(repeat(0, 1, one('b'))), one('a'), alt(empty(), set('a', 'c', 'x', 'x')), Node{Kind: 77}, Node{Kind: 78})
		room[1].Set = append(make([]class.Range, 0, 4), room[1].Set[0], class.Range{Lo: 7, Hi: 5})[:1]
		return Node{Kind: 3, Subs: room[:3]}
	}
	n, want := made(), made()
	for range 2 {
		text, e := syntax.Text(n)
		least, most, f := syntax.Lengths(n)
		groups, g := syntax.Groups(n)
		nullable, h := syntax.Nullable(n)
		if !syntax.Right(n) || !syntax.Same(n, want) || text != "(b?)a(?:|[a-cx])" || least != 1 || most != 3 || groups != 1 || nullable || e != api.OK || f != api.OK || g != api.OK || h != api.OK {
			t.Error(text, least, most, groups, nullable)
		}
	}
	n.Subs, want.Subs = n.Subs[:5], want.Subs[:5]
	n.Subs[1].Set, want.Subs[1].Set = n.Subs[1].Set[:2], want.Subs[1].Set[:2]
	if !isSame(n, want) {
		t.Error(n)
	}
}

// R5: nil is as good as empty, in each field of each kind.
func TestNilIsEmpty(t *testing.T) {
	a := one('a')
	for _, n := range []Node{empty(), a, {Kind: 2}, cat(a, a), alt(a, empty()), repeat(2, 3, a), group(a), {}} {
		full := n
		if len(n.Set) == 0 {
			full.Set = []class.Range{}
		}
		if len(n.Subs) == 0 {
			full.Subs = []Node{}
		}
		s, e := syntax.Text(n)
		x, f := syntax.Text(full)
		if s != x || e != f || syntax.Right(n) != syntax.Right(full) || !syntax.Same(n, full) || !syntax.Same(full, n) {
			t.Errorf("%v: %q %d, %q %d", n, s, e, x, f)
		}
		checkTree(t, full)
	}
}
