package match_test

import (
	"fmt"
	"math"
	"math/rand"
	"regexp"
	"slices"
	"strings"
	"sync"
	"testing"
	"unicode/utf8"
	"unsafe"

	"gauger/api"
	"gauger/class"
	"gauger/match"
	"gauger/prog"
	"gauger/syntax"
	"gauger/ways"
)

// Inst, Prog, Regex and Span are these types, by shorter names.
type (
	Inst  = prog.Inst
	Prog  = prog.Prog
	Regex = match.Regex
	Span  = match.Span
)

// ranges returns the ranges of Lo and Hi, in turn.
func ranges(l ...int) []class.Range {
	var all []class.Range
	for i := 0; i < len(l); i += 2 {
		all = append(all, class.Range{Lo: l[i], Hi: l[i+1]})
	}
	return all
}

// The instructions.
func take(l ...int) Inst { return Inst{Op: 1, Set: ranges(l...)} }

func split(x, y int) Inst { return Inst{Op: 2, X: x, Y: y} }

func jump(x int) Inst { return Inst{Op: 3, X: x} }

func save(x int) Inst { return Inst{Op: 4, X: x} }

func end() Inst { return Inst{Op: 5} }

// with returns a program.
func with(groups int, l ...Inst) Prog { return Prog{Insts: l, Groups: groups} }

// spans returns the spans of From and To, in turn.
func spans(l ...int) []Span {
	var all []Span
	for i := 0; i < len(l); i += 2 {
		all = append(all, Span{l[i], l[i+1]})
	}
	return all
}

// made returns the Regex of a pattern.
func made(t *testing.T, pattern string) *Regex {
	t.Helper()
	r, e := match.New(pattern)
	if e != api.OK {
		t.Fatalf("%.200q: New returned the error %d", pattern, e)
	}
	return r
}

// compiled returns the program of a pattern.
func compiled(t *testing.T, pattern string) Prog {
	t.Helper()
	n, e := syntax.Parse(pattern)
	p, f := prog.Compile(n)
	if e+f != api.OK {
		t.Fatalf("%.200q has no program: %d, %d", pattern, e, f)
	}
	return p
}

// checkRun holds Run of a right program and a valid string against the spans that are wanted: none, if it does not match.
func checkRun(t *testing.T, p Prog, s string, want []Span) {
	t.Helper()
	l, is, e := match.Run(p, s)
	if !slices.Equal(l, want) || is != (len(want) > 0) || e != api.OK {
		t.Fatalf("%v in %.100q: Run is %v %t %d, not %v", p, s, l, is, e, want)
	}
}

// checkMatch holds Match, Is and Run of a pattern against the spans that are wanted in a string: none, if it does not match.
func checkMatch(t *testing.T, pattern, s string, want []Span) {
	t.Helper()
	r := made(t, pattern)
	l, is, e := r.Match(s)
	if !slices.Equal(l, want) || is != (len(want) > 0) || e != api.OK {
		t.Fatalf("%.200q in %.100q: Match is %v %t %d, not %v", pattern, s, l, is, e, want)
	}
	if r.Is(s) != is {
		t.Fatalf("%.200q in %.100q: Is is not %t", pattern, s, is)
	}
	checkRun(t, compiled(t, pattern), s, want)
}

// P10.1: patterns, and how many groups they have.
func TestNew(t *testing.T) {
	for _, x := range []struct {
		pattern string
		groups  int
	}{
		{"", 0}, {"a", 0}, {"()", 1}, {"(a*)(a*)", 2}, {"(a|(b))*", 2}, {"(?:a|ab)(c|bcd)?(d*)", 2}, {"(?:a)", 0}, {`\(a\)[(]`, 0}, {"(a){3}", 1}, {"(a){0}", 1}, {"((a){0}|(b))(c)", 4}, {"é€|\x00", 0}, {strings.Repeat("(", 30) + strings.Repeat(")", 30), 30}, {strings.Repeat("(é)", 30), 30}, {strings.Repeat("a", 999), 0}, {"a{999}", 0}, {strings.Repeat("(?:)", 256), 0}, {strings.Repeat("a{0}", 255) + "bbbb", 0},
	} {
		r := made(t, x.pattern)
		if r.Pattern() != x.pattern || r.Groups() != x.groups {
			t.Errorf("%.100q: the pattern is %.100q with %d groups, not %d", x.pattern, r.Pattern(), r.Groups(), x.groups)
		}
	}
}

// checkNone holds a Regex that is none against what it has to say.
func checkNone(t *testing.T, r *Regex) {
	t.Helper()
	if r.Pattern() != "" || r.Groups() != 0 {
		t.Errorf("%q with %d groups", r.Pattern(), r.Groups())
	}
	for _, s := range []string{"", "a", "\xff", strings.Repeat("a", 65537), strings.Repeat("\xff", 70000)} {
		if l, is, e := r.Match(s); len(l) > 0 || is || e != api.ErrNil || r.Is(s) {
			t.Errorf("%.10q: %v %t %d %t", s, l, is, e, r.Is(s))
		}
	}
}

// P10.1 and R2: what is no pattern, or has a program that is too long.
func TestNewErrors(t *testing.T) {
	long := strings.Repeat("a", 1000)
	for _, x := range []struct {
		pattern string
		wrong   api.Errno
	}{
		{strings.Repeat("a", 1025), api.ErrLong}, {strings.Repeat("(", 1025), api.ErrLong}, {strings.Repeat("(a*)*", 205), api.ErrLong}, {strings.Repeat("()", 513), api.ErrLong}, {strings.Repeat("\xff", 100000), api.ErrLong},
		{"(", syntax.ErrText}, {"a**", syntax.ErrText}, {"^a", syntax.ErrText}, {"]", syntax.ErrText}, {"a{1001}", syntax.ErrText}, {"\xff", syntax.ErrText}, {"a\xc3", syntax.ErrText}, {long + "(", syntax.ErrText}, {"(a*)*(", syntax.ErrText}, {strings.Repeat("()", 31) + "(", syntax.ErrText},
		{"(a*)*", syntax.ErrEmpty}, {"(a|){0,2}", syntax.ErrEmpty}, {long + "(?:)*", syntax.ErrEmpty}, {strings.Repeat("()", 31) + "()*", syntax.ErrEmpty},
		{strings.Repeat("()", 31), api.ErrMany}, {strings.Repeat("()", 31) + "a{1000}", api.ErrMany}, {strings.Repeat("(", 41) + strings.Repeat(")", 41), api.ErrMany}, {strings.Repeat("(a){0}", 31), api.ErrMany},
		{strings.Repeat("(?:b", 41) + strings.Repeat(")", 41), syntax.ErrDeep}, {strings.Repeat("(?:b", 41) + "a{1000}" + strings.Repeat(")", 41), syntax.ErrDeep},
		{"(?:x{100}){10}", api.ErrLong}, {long, api.ErrLong}, {strings.Repeat("a", 1024), api.ErrLong}, {"a{1000}", api.ErrLong}, {"a?{1}", syntax.ErrText}, {"a{0,500}", api.ErrLong}, {strings.Repeat("|", 500), api.ErrLong},
	} {
		r, e := match.New(x.pattern)
		if r != nil || e != x.wrong {
			t.Errorf("%.50q: New is %v %d, not %d", x.pattern, r, e, x.wrong)
		}
		checkNone(t, r)
	}
}

// anyOf returns one of some things.
func anyOf[E any](r *rand.Rand, l []E) E { return l[r.Intn(len(l))] }

// anyText returns as many of some things, one after the other.
func anyText(r *rand.Rand, k int, things ...string) string {
	s := ""
	for range k {
		s += anyOf(r, things)
	}
	return s
}

// P10.1: strings of all sorts, against layers 7 and 9.
func TestNewAgainstLayers(t *testing.T) {
	r := rand.New(rand.NewSource(101))
	found := map[api.Errno]int{}
	for range 60000 {
		s := anyText(r, r.Intn(9), "a", "b", "é", "(", ")", "(?:", "|", "*", "+?", "?", "{2}", "{0,3}", "{400}", "{30}", "[ab]", ".", `\d`, `\.`, "()", "(a)", "\xff")
		if r.Intn(20) == 0 {
			s = strings.Repeat(s, 1+r.Intn(60))
		}
		n, wrong := syntax.Parse(s)
		groups, _ := syntax.Groups(n)
		if wrong == api.OK {
			_, wrong = prog.Compile(n)
		}
		x, e := match.New(s)
		found[e]++
		if e != wrong || (x == nil) != (wrong != api.OK) {
			t.Fatalf("%q: New is %v %d, not %d", s, x, e, wrong)
		}
		if wrong == api.OK && (x.Pattern() != s || x.Groups() != groups) {
			t.Fatalf("%q: the pattern is %q with %d groups, not %d", s, x.Pattern(), x.Groups(), groups)
		}
	}
	for _, e := range []api.Errno{api.OK, api.ErrLong, syntax.ErrText, syntax.ErrEmpty, api.ErrMany} {
		if found[e] < 50 {
			t.Errorf("only %d strings with %d", found[e], e)
		}
	}
}

// P10.2 and P10.3: what groups take; the examples of the chapter.
func TestMatches(t *testing.T) {
	for _, x := range []struct {
		pattern, s string
		want       []Span
	}{
		{"(a*)(a*)", "aa", spans(0, 2, 0, 2, 2, 2)}, {"(a|(b))*", "ba", spans(0, 2, 1, 2, 0, 1)}, {"(?:a|ab)(c|bcd)?(d*)", "abcd", spans(0, 4, 1, 4, 4, 4)}, {"(?:a|ab)(c|bcd)?(d*)", "abc!", nil}, {"(x)|y", "y", spans(0, 1, -1, -1)},

		{"", "", spans(0, 0)}, {"", "a", nil}, {"()", "", spans(0, 0, 0, 0)}, {"()", "a", nil}, {"a", "a", spans(0, 1)}, {"a", "", nil}, {"a", "b", nil}, {"a", "aa", nil}, {"a", "ba", nil}, {"a", "ab", nil}, {"(a)", "a", spans(0, 1, 0, 1)}, {"[^\\x{0}-\\x{10FFFF}]", "a", nil}, {"([^\\x{0}-\\x{10FFFF}])*", "", spans(0, 0, -1, -1)},
		{"(a)(b)(c)", "abc", spans(0, 3, 0, 1, 1, 2, 2, 3)}, {"((a)b)(c)", "abc", spans(0, 3, 0, 2, 0, 1, 2, 3)}, {"a()b", "ab", spans(0, 2, 1, 1)}, {"(a(b(c)))", "abc", spans(0, 3, 0, 3, 1, 3, 2, 3)},
		// The first alternative that lets the whole string be taken.
		{"(a|ab)(c|bcd)(d*)", "abcd", spans(0, 4, 0, 1, 1, 4, 4, 4)}, {"(ab|a)(c|bcd)(d*)", "abcd", spans(0, 4, 0, 2, 2, 3, 3, 4)}, {"(a)|(a)", "a", spans(0, 1, 0, 1, -1, -1)}, {"(a)|(ab)", "ab", spans(0, 2, -1, -1, 0, 2)}, {"(ab)|(a)b", "ab", spans(0, 2, 0, 2, -1, -1)}, {"(a)b|(ab)", "ab", spans(0, 2, 0, 1, -1, -1)}, {"(|a)(|a)", "a", spans(0, 1, 0, 0, 0, 1)}, {"(a|)(a|)", "a", spans(0, 1, 0, 1, 1, 1)}, {"(x)|(y)|(z)", "z", spans(0, 1, -1, -1, -1, -1, 0, 1)}, {"(?:(a)|b|(c))(d)", "bd", spans(0, 2, -1, -1, -1, -1, 1, 2)},
		// As much as possible, and as little.
		{"(a*)(a?)", "aaa", spans(0, 3, 0, 3, 3, 3)}, {"(a*?)(a?)", "aaa", spans(0, 3, 0, 2, 2, 3)}, {"(a+?)(a*)", "aaa", spans(0, 3, 0, 1, 1, 3)}, {"(a+?)(a*?)", "aaa", spans(0, 3, 0, 1, 1, 3)}, {"(a??)(a?)", "a", spans(0, 1, 0, 0, 0, 1)}, {"(a?)(a??)", "a", spans(0, 1, 0, 1, 1, 1)}, {"(a{1,2})(a{1,2})", "aaa", spans(0, 3, 0, 2, 2, 3)}, {"(a{1,2}?)(a{1,2}?)", "aaa", spans(0, 3, 0, 1, 1, 3)}, {"(.*)(b.*)", "abab", spans(0, 4, 0, 3, 3, 4)}, {"(.*?)(b.*)", "abab", spans(0, 4, 0, 1, 1, 4)}, {"(a*)??", "a", spans(0, 1, 0, 1)}, {"(a*)??", "", spans(0, 0, -1, -1)}, {"(a*)?", "", spans(0, 0, 0, 0)},
		// The last time that a group was taken; a group stays taken, if it is not taken again.
		{"(a|b)*", "ab", spans(0, 2, 1, 2)}, {"(?:(a)|(b)|(c))*", "abc", spans(0, 3, 0, 1, 1, 2, 2, 3)}, {"(?:(a)|b)*", "ab", spans(0, 2, 0, 1)}, {"((a)|b){3}", "aab", spans(0, 3, 2, 3, 1, 2)}, {"(a(b)?)+", "aba", spans(0, 3, 2, 3, 1, 2)}, {"(a){0}(b)", "b", spans(0, 1, -1, -1, 0, 1)}, {"((a){0}){1}", "", spans(0, 0, 0, 0, -1, -1)}, {"(a)*", "", spans(0, 0, -1, -1)}, {"(a){2,3}", "aaa", spans(0, 3, 2, 3)}, {"(a){2,3}", "aaaa", nil}, {"(a){2,}", "a", nil},
		// Places are numbers of bytes.
		{"(é)(.)(€*)", "éx€€", spans(0, 9, 0, 2, 2, 3, 3, 9)}, {"(.)(.)", "\U0001f600\x00", spans(0, 5, 0, 4, 4, 5)}, {"(.)(.)", "é", nil}, {`(\xc3)(.*)`, "é", nil}, {"(\ufffd)(a)", "\ufffda", spans(0, 4, 0, 3, 3, 4)}, {"(.*)\n(.*)", "a\nb", spans(0, 3, 0, 1, 2, 3)}, {`([\x{D7FF}])([\x{E000}\x{10FFFF}]*)`, "\ud7ff\ue000\U0010ffff", spans(0, 10, 0, 3, 3, 10)},
		// What relabelling is used for.
		{"([^:]+)(?::(\\d+))?", "host:9100", spans(0, 9, 0, 4, 5, 9)}, {"([^:]+)(?::(\\d+))?", "host", spans(0, 4, 0, 4, -1, -1)}, {"__meta_(.+)", "__meta_x", spans(0, 8, 7, 8)}, {"(.*):(.*)", "a:b:c", spans(0, 5, 0, 3, 4, 5)}, {"web;.*", "web;x", spans(0, 5)}, {"web;.*", "web", nil},
	} {
		checkMatch(t, x.pattern, x.s, x.want)
	}
}

// P10.2: programs that are not those of trees.
func TestRuns(t *testing.T) {
	a, b, ab := take('a', 'a'), take('b', 'b'), take('a', 'b')
	for _, x := range []struct {
		p    Prog
		s    string
		want []Span
	}{
		{with(0, end()), "", spans(0, 0)}, {with(0, end()), "a", nil}, {with(2, end()), "", spans(0, 0, -1, -1, -1, -1)}, {with(0, jump(0)), "", nil}, {with(0, jump(0)), "a", nil}, {with(0, split(0, 0)), "", nil}, {with(0, split(0, 1), end()), "", spans(0, 0)}, {with(0, split(1, 0), end()), "", spans(0, 0)}, {with(0, a, jump(0)), "a", nil}, {with(0, split(1, 2), a, end()), "a", spans(0, 1)},
		// Notes that are made twice, in another order, alone, or behind the end.
		{with(1, save(1), save(0), end()), "", spans(0, 0, 0, 0)}, {with(1, save(1), a, save(0), end()), "a", spans(0, 1, 1, 0)}, {with(1, save(0), a, save(0), end()), "a", spans(0, 1, 1, -1)}, {with(1, a, save(1), end()), "a", spans(0, 1, -1, 1)}, {with(2, save(3), a, save(1), a, save(2), a, save(0), end()), "aaa", spans(0, 3, 3, 1, 2, 0)}, {with(1, end(), save(0), end()), "", spans(0, 0, -1, -1)}, {with(1, a, end(), save(0), jump(1)), "a", spans(0, 1, -1, -1)}, {with(1, save(0), a, save(1), jump(1)), "aa", nil}, {with(1, save(0), split(2, 4), a, jump(1), save(1), end()), "aa", spans(0, 2, 0, 2)},
		// The first of two ways to an instruction; what was noted on a way that leads back or nowhere is forgotten.
		{with(1, split(1, 2), save(0), end()), "", spans(0, 0, 0, -1)}, {with(1, split(2, 1), save(0), end()), "", spans(0, 0, -1, -1)}, {with(1, split(1, 3), save(1), jump(0), save(0), end()), "", spans(0, 0, 0, -1)}, {with(2, split(1, 3), save(1), jump(5), save(2), jump(5), a, end()), "a", spans(0, 1, -1, 0, -1, -1)}, {with(2, split(3, 1), save(1), jump(5), save(2), jump(5), a, end()), "a", spans(0, 1, -1, -1, 0, -1)}, {with(1, save(0), split(2, 4), save(0), b, a, end()), "a", spans(0, 1, 0, -1)}, {with(1, split(1, 4), a, save(0), jump(0), split(5, 6), end(), b, end()), "aa", spans(0, 2, 2, -1)}, {with(1, split(1, 5), save(0), a, b, end(), a, end()), "a", spans(0, 1, -1, -1)},
		{with(1, split(1, 3), a, jump(5), ab, save(0), end()), "a", spans(0, 1, -1, -1)}, {with(1, split(3, 1), a, jump(5), ab, save(0), end()), "a", spans(0, 1, 1, -1)}, {with(1, split(1, 3), a, jump(5), ab, save(0), end()), "b", spans(0, 1, 1, -1)},
		// Two threads of the same place have notes of their own; an end of one of them does not end the others.
		{with(1, split(1, 4), save(0), a, jump(7), save(1), a, end(), a, end()), "aa", spans(0, 2, 0, -1)}, {with(1, split(1, 4), save(0), a, jump(7), save(1), a, end(), a, end()), "a", spans(0, 1, -1, 0)}, {with(1, split(1, 2), end(), save(0), a, end()), "a", spans(0, 1, 0, -1)}, {with(1, split(1, 2), end(), save(0), end()), "", spans(0, 0, -1, -1)}, {with(0, a, end(), a, end()), "aa", nil}, {with(0, end(), end()), "", spans(0, 0)},
		// Each place forgets what was met at the one before.
		{with(1, split(1, 4), save(0), a, jump(0), save(1), end()), "aaa", spans(0, 3, 2, 3)}, {with(1, split(4, 1), save(0), a, jump(0), save(1), end()), "aaa", spans(0, 3, 2, 3)}, {with(0, split(1, 2), end(), a, split(1, 4), a, jump(0)), "aaaa", spans(0, 4)},
	} {
		if got, is := spansOf(x.p, x.s); !slices.Equal(got, x.want) || is != (len(x.want) > 0) {
			t.Errorf("%v in %q: the definition is %v %t, not %v", x.p, x.s, got, is, x.want)
		}
		checkRun(t, x.p, x.s, x.want)
	}
}

// A noted thread is the index of an instruction, with notes by their numbers: those that are not there are -1.
type noted struct {
	k     int
	notes map[int]int
}

// threadsOf are the threads with notes from some by the chapter: what is to be gone on with next lies on top of a pile.
func threadsOf(p Prog, pile []noted, place int) []noted {
	var found []noted
	met := map[int]bool{}
	slices.Reverse(pile)
	for len(pile) > 0 {
		x := pile[len(pile)-1]
		pile = pile[:len(pile)-1]
		if met[x.k] {
			continue
		}
		met[x.k] = true
		switch i := p.Insts[x.k]; i.Op {
		case 2:
			pile = append(pile, noted{i.Y, x.notes}, noted{i.X, x.notes})
		case 3:
			pile = append(pile, noted{i.X, x.notes})
		case 4:
			notes := map[int]int{}
			for number, at := range x.notes {
				notes[number] = at
			}
			notes[i.X] = place
			pile = append(pile, noted{x.k + 1, notes})
		default:
			found = append(found, x)
		}
	}
	return found
}

// spansOf are the spans of the run of a right program on a valid string by the chapter.
func spansOf(p Prog, s string) ([]Span, bool) {
	threads := threadsOf(p, []noted{{}}, 0)
	for at, c := range s {
		var next []noted
		for _, x := range threads {
			i := p.Insts[x.k]
			if i.Op == 1 && slices.ContainsFunc(i.Set, func(r class.Range) bool { return r.Lo <= int(c) && int(c) <= r.Hi }) {
				next = append(next, noted{x.k + 1, x.notes})
			}
		}
		threads = threadsOf(p, next, at+len(string(c)))
	}
	for _, x := range threads {
		if p.Insts[x.k].Op != 5 {
			continue
		}
		l := spans(0, len(s))
		for k := 1; k <= p.Groups; k++ {
			l = append(l, Span{x.at(2*k - 2), x.at(2*k - 1)})
		}
		return l, true
	}
	return nil, false
}

// at is the note of a number.
func (x noted) at(number int) int {
	if at, ok := x.notes[number]; ok {
		return at
	}
	return -1
}

// anyString returns a string of some points.
func anyString(r *rand.Rand, k int) string { return anyText(r, k, "a", "a", "a", "b", "b", "é") }

// anyProg returns a program that is right, with some instructions. Most of its splits lead to the next one, too.
func anyProg(r *rand.Rand, k int) Prog {
	all, a := ranges(0, 55295, 57344, 1114111), ranges('a', 'a')
	sets := [][]class.Range{all, all, all, a, a, ranges('a', 'b'), ranges('b', 'b'), ranges('a', 'a', 'é', 'é'), nil}
	p := Prog{Groups: r.Intn(4)}
	for len(p.Insts) < k {
		next := len(p.Insts) + 1
		switch x := r.Intn(14); {
		case next == k:
			p.Insts = append(p.Insts, anyOf(r, []Inst{end(), end(), jump(r.Intn(k)), split(r.Intn(k), r.Intn(k))}))
		case x < 5:
			p.Insts = append(p.Insts, Inst{Op: 1, Set: slices.Clone(anyOf(r, sets))})
		case x < 9:
			p.Insts = append(p.Insts, anyOf(r, []Inst{split(next, r.Intn(k)), split(r.Intn(k), next), split(r.Intn(k), r.Intn(k))}))
		case x < 10:
			p.Insts = append(p.Insts, anyOf(r, []Inst{jump(r.Intn(k)), end()}))
		case p.Groups > 0:
			p.Insts = append(p.Insts, save(r.Intn(2*p.Groups)))
		}
	}
	return p
}

// P10.2: many programs, against the chapter.
func TestRunsAgainstDefinition(t *testing.T) {
	r := rand.New(rand.NewSource(102))
	matching, known := map[bool]int{}, 0
	for i := range 300000 {
		p := anyProg(r, 1+r.Intn(12))
		if i%4 == 0 {
			p = anyProg(r, 20+r.Intn(40))
		}
		s := anyString(r, r.Intn(5))
		want, is := spansOf(p, s)
		checkRun(t, p, s, want)
		matching[is && len(s) > 0]++
		if slices.ContainsFunc(want, func(x Span) bool { return x.From > 0 && x.To > 0 }) {
			known++
		}
	}
	if matching[true] < 10000 || matching[false] < 10000 || known < 1500 {
		t.Error("too few programs of one sort:", matching, known)
	}
}

// P10.2: which code points a set takes.
func TestPoints(t *testing.T) {
	var many []class.Range
	for c := range 200 {
		many = append(many, class.Range{Lo: 3 * c, Hi: 3*c + c%2})
	}
	points := []rune{0, 1, 54, 96, 97, 98, 99, 100, 101, 102, 103, 104, 105, 596, 597, 598, 599, 55294, 55295, 57344, 57345, 65533, 1114110, 1114111}
	for c := range rune(700) {
		points = append(points, c)
	}
	for _, i := range []Inst{take(), take(0, 0), take(97, 97), take(97, 99, 101, 103), take(98, 98, 100, 100, 102, 102, 104, 104), take(0, 96, 98, 98, 100, 55295), take(0, 55295, 57344, 1114111), take(57344, 57344, 1114111, 1114111), {Op: 1, Set: many}} {
		p := with(1, save(0), i, save(1), end())
		for _, c := range points {
			want, _ := spansOf(p, string(c))
			checkRun(t, p, string(c), want)
		}
	}
}

// badTexts are strings that are not valid UTF-8, and none of them is too long.
func badTexts() []string {
	return []string{"\xff", "\x80", "a\x80", "\xc3", "aé\xc3", "\xe2\x82", "\xed\xa0\x80", "\xed\xbf\xbf", "\xc0\x80", "\xc1\xbf", "\xf4\x90\x80\x80", "\xf8\x88\x80\x80\x80", "\xef\xbf", "\xffa", "b\xff", strings.Repeat("a", 65535) + "\xc3", strings.Repeat("\xff", 65536)}
}

// wrongProgs are programs that are not right.
func wrongProgs() []Prog {
	a, set := take('a', 'a'), ranges('a', 'a')
	return []Prog{{}, {Groups: 1}, {Insts: []Inst{}}, with(-1, end()), with(31, end()), with(math.MinInt, end()), with(math.MaxInt, end()), with(0, a), with(1, end(), save(0)), with(0, Inst{}), with(0, Inst{Op: 6}), with(0, end(), Inst{}), with(0, take(2, 1), end()), with(0, take('a', 'a', 'b', 'b'), end()), with(0, Inst{Op: 1, Set: set, X: 1}, end()), with(0, split(2, 0), end()), with(0, split(0, -1), end()), with(0, jump(1)), with(0, jump(-1)), with(0, Inst{Op: 3, Y: 1}, end()), with(0, save(0), end()), with(1, save(2), end()), with(1, save(-1), end()), with(30, save(60), end()), with(0, Inst{Op: 5, X: 1}), with(0, Inst{Op: 5, Set: set}), with(0, append(slices.Repeat([]Inst{a}, 1000), end())...), with(0, slices.Repeat([]Inst{end()}, 100000)...)}
}

// P10.2, P10.3 and R2: each error, and which one goes first.
func TestErrors(t *testing.T) {
	long := strings.Repeat("a", 65537)
	longs := []string{long, long + "\xff", strings.Repeat("é", 32769), strings.Repeat("é", 32768) + "a", strings.Repeat("\xff", 65537), strings.Repeat("a", 65536) + "\xff", strings.Repeat("b", 200000)}
	for i, p := range wrongProgs() {
		for _, s := range slices.Concat([]string{"", "a"}, longs, badTexts()) {
			if l, is, e := match.Run(p, s); len(l) > 0 || is || e != prog.ErrProg {
				t.Errorf("the program %d in %.10q: %v %t %d", i, s, l, is, e)
			}
		}
	}
	fail := func(s string, wrong api.Errno) {
		for _, pattern := range []string{"", "a*", ".*", "(a)*|b", "c"} {
			r := made(t, pattern)
			if l, is, e := r.Match(s); len(l) > 0 || is || e != wrong || r.Is(s) {
				t.Errorf("%q in %.10q: Match is %v %t %d, not %d", pattern, s, l, is, e, wrong)
			}
			if l, is, e := match.Run(compiled(t, pattern), s); len(l) > 0 || is || e != wrong {
				t.Errorf("%q in %.10q: Run is %v %t %d, not %d", pattern, s, l, is, e, wrong)
			}
		}
		if l, is, e := match.Run(with(0, jump(0)), s); len(l) > 0 || is || e != wrong {
			t.Errorf("an idle program in %.10q: %v %t %d, not %d", s, l, is, e, wrong)
		}
	}
	for _, s := range longs {
		fail(s, api.ErrLong)
	}
	for _, s := range badTexts() {
		fail(s, prog.ErrText)
	}
}

// R8: what is no object.
func TestNone(t *testing.T) {
	var none *Regex
	checkNone(t, none)
	checkNone(t, new(Regex))
	checkNone(t, &Regex{})
}

// P10.4: quoted texts; the examples of the chapter.
func TestQuote(t *testing.T) {
	for _, x := range [][2]string{
		{"a.b", `a\.b`}, {"é", `\x{E9}`}, {"", ""}, {"a", "a"}, {"abc", "abc"}, {`\.[](){}*+?|^$`, `\\\.\[\]\(\)\{\}\*\+\?\|\^\$`}, {"!\"#%&',-/0:;<=>@AZ_`az~", "!\"#%&',-/0:;<=>@AZ_`az~"}, {" ", `\x{20}`}, {"\x00\n\x1f\x7f", `\x{0}\x{A}\x{1F}\x{7F}`}, {"\u0080\u07ff\u0800\ud7ff\ue000\ufffd\uffff", `\x{80}\x{7FF}\x{800}\x{D7FF}\x{E000}\x{FFFD}\x{FFFF}`}, {"\U00010000\U000abcde\U0010ffff", `\x{10000}\x{ABCDE}\x{10FFFF}`}, {"a b.c", `a\x{20}b\.c`}, {`\x{41}`, `\\x\{41\}`}, {"(?:a)", `\(\?:a\)`}, {"a{2}", `a\{2\}`}, {"[^a-z]", `\[\^a-z\]`},
	} {
		if s, e := match.Quote(x[0]); s != x[1] || e != api.OK {
			t.Errorf("%q: the quoted text is %q %d, not %q", x[0], s, e, x[1])
		}
	}
}

// quotedPoint is the text of a code point by layer 7.
func quotedPoint(c rune) string {
	switch {
	case strings.ContainsRune(`\.[](){}*+?|^$`, c):
		return `\` + string(c)
	case 33 <= c && c <= 126:
		return string(c)
	}
	return fmt.Sprintf(`\x{%X}`, c)
}

// P10.4: all code points, and strings of several.
func TestQuoteAgainstDefinition(t *testing.T) {
	for c := range rune(utf8.MaxRune + 1) {
		if !utf8.ValidRune(c) {
			continue
		}
		if s, e := match.Quote(string(c)); s != quotedPoint(c) || e != api.OK {
			t.Fatalf("%d: the quoted text is %q %d, not %q", c, s, e, quotedPoint(c))
		}
	}
	r := rand.New(rand.NewSource(103))
	for range 20000 {
		s := anyText(r, r.Intn(20), "a", "b", "-", "0", ".", "*", "\\", "{", "}", "[", "]", " ", "é", "€", "\U0001f600", "\x00")
		want := ""
		for _, c := range s {
			want += quotedPoint(c)
		}
		if got, e := match.Quote(s); got != want || e != api.OK {
			t.Fatalf("%q: the quoted text is %q %d, not %q", s, got, e, want)
		}
	}
}

// P10.4 and R2: texts of 1024 bytes and of more, and strings that are not valid, however long they are.
func TestQuoteErrors(t *testing.T) {
	for _, s := range []string{strings.Repeat("a", 1024), strings.Repeat(".", 512), strings.Repeat("a", 1022) + ".", strings.Repeat("é", 170) + "aaaa", strings.Repeat("€", 128), "a" + strings.Repeat("é", 169) + "(((bbb"} {
		want := ""
		for _, c := range s {
			want += quotedPoint(c)
		}
		if got, e := match.Quote(s); got != want || e != api.OK {
			t.Errorf("%.10q of %d bytes: %.10q %d", s, len(s), got, e)
		}
		for _, more := range []string{s + "a", s + ".", "é" + s, s + "€", s + s} {
			if got, e := match.Quote(more); got != "" || e != api.ErrLong {
				t.Errorf("%.10q of %d bytes: %.10q %d, not too long", more, len(more), got, e)
			}
		}
		if got, e := match.Quote(s + s + "\xff"); got != "" || e != prog.ErrText {
			t.Errorf("%.10q of %d bytes and a bad one: %.10q %d", s, len(s), got, e)
		}
	}
	for _, s := range badTexts() {
		if got, e := match.Quote(s); got != "" || e != prog.ErrText {
			t.Errorf("%.10q: %.10q %d", s, got, e)
		}
	}
	for _, x := range []struct {
		s     string
		wrong api.Errno
	}{{strings.Repeat("a", 1025), api.ErrLong}, {strings.Repeat("a", 1023) + ".", api.ErrLong}, {strings.Repeat("a", 1<<24), api.ErrLong}, {strings.Repeat("a", 1<<24) + "\xff", prog.ErrText}} {
		if got, e := match.Quote(x.s); got != "" || e != x.wrong {
			t.Errorf("%d bytes: %.10q %d, not %d", len(x.s), got, e, x.wrong)
		}
	}
}

// P10.5: the pattern of a quoted text matches this string alone.
func TestQuotedMatchesItself(t *testing.T) {
	r := rand.New(rand.NewSource(104))
	things := []string{"a", "b", "-", "0", ".", "*", "+", "?", "|", "^", "$", "\\", "{", "}", "[", "]", "(", ")", " ", "é", "€", "\U0001f600", "\x00", "\n"}
	for range 5000 {
		s := anyText(r, r.Intn(12), things...)
		pattern, e := match.Quote(s)
		if e != api.OK {
			t.Fatalf("%q: %d", s, e)
		}
		checkMatch(t, pattern, s, spans(0, len(s)))
		x := made(t, pattern)
		at := r.Intn(len(s) + 1)
		for !utf8.RuneStart((s + "x")[at]) {
			at--
		}
		_, n := utf8.DecodeRuneInString(s[at:])
		thing := anyOf(r, things)
		for _, other := range []string{pattern, s + thing, thing + s, s[:at] + thing + s[at:], s[:at] + thing + s[at+n:], s[:at] + s[at+n:], s + s, strings.ToUpper(s), ""} {
			if x.Is(other) != (other == s) {
				t.Fatalf("the quoted text %q: Is of %q is %t", pattern, other, x.Is(other))
			}
		}
	}
}

// anyPattern returns a pattern of at most some depth, if no repetition in it is of something nullable.
func anyPattern(r *rand.Rand, depth int) string {
	if depth <= 1 {
		return anyOf(r, []string{"a", "a", "a", "b", "b", "é", ".", "[ab]", "[^a]", "(?:)", "()", "(a)"})
	}
	part := func() string { return anyPattern(r, depth-1) }
	switch r.Intn(7) {
	case 0, 1:
		return part() + part()
	case 2:
		return "(?:" + part() + "|" + part() + ")"
	case 3:
		return "(" + part() + "|" + part() + "|" + part() + ")"
	case 4:
		return "(" + part() + ")"
	}
	return "(?:" + part() + ")" + anyOf(r, []string{"*", "*", "+", "?", "?", "{2}", "{1,2}", "{0,3}", "{2,}", "{1}", "{0}", "{2,5}"}) + anyOf(r, []string{"", "", "?"})
}

// P10.5: the spans are those of the first way of the tree that takes the whole string, and those of the library's regular expressions.
func TestAgainstWays(t *testing.T) {
	r := rand.New(rand.NewSource(105))
	matching, several := map[bool]int{}, 0
	for range 60000 {
		pattern, s := anyPattern(r, 2+r.Intn(4)), anyString(r, r.Intn(9))
		n, e := syntax.Parse(pattern)
		if e != api.OK {
			continue
		}
		l, is, e := ways.Whole(n, s)
		if e != api.OK {
			continue
		}
		var want []Span
		if is {
			want = spans(0, len(s))
		}
		for _, x := range l {
			want = append(want, Span(x))
		}
		checkMatch(t, pattern, s, want)
		checkLibrary(t, pattern, s, want)
		matching[is]++
		if k, _ := ways.Count(n, s); k > 1 && len(want) > 1 {
			several++
		}
	}
	if matching[true] < 5000 || matching[false] < 5000 || several < 2000 {
		t.Error("too few patterns of one sort:", matching, several)
	}
}

// checkLibrary holds the spans that are wanted against the library's regular expressions.
func checkLibrary(t *testing.T, pattern, s string, want []Span) {
	t.Helper()
	x, err := regexp.Compile(`(?s)\A(?:` + pattern + `)\z`)
	if err != nil {
		t.Fatalf("%q: %v", pattern, err)
	}
	if got := spans(x.FindStringSubmatchIndex(s)...); !slices.Equal(got, want) {
		t.Fatalf("%q in %q: the library has %v, not %v", pattern, s, got, want)
	}
}

// P10.5 and Limits: the longest strings, the longest programs, and patterns of which there are more ways than can be gone through.
func TestLongestRuns(t *testing.T) {
	const most = 65536
	s := strings.Repeat("a", most)
	groups := func(k int, from, to int) []Span { return slices.Repeat(spans(from, to), k) }
	checkMatch(t, ".*", s, spans(0, most))
	checkMatch(t, "(.)*", s, spans(0, most, most-1, most))
	checkMatch(t, "(?:a|a)*b", s, nil)
	checkMatch(t, "((?:(?:a+)+)+)(.)", s, spans(0, most, 0, most-1, most-1, most))
	checkMatch(t, "(a*)(a*)(a*)(a*)b", s, nil)
	checkMatch(t, "(a*)(a*)(a*)(a*)b", s[1:]+"b", append(spans(0, most, 0, most-1), groups(3, most-1, most-1)...))
	checkMatch(t, "(a*?)(a*?)(a*)", s, spans(0, most, 0, 0, 0, 0, 0, most))
	checkMatch(t, "(.*)(.{0,490})", s, spans(0, most, 0, most, most, most))
	checkMatch(t, strings.Repeat("(", 30)+".*.{0,450}"+strings.Repeat(")", 30), s, groups(31, 0, most))
	checkMatch(t, strings.Repeat("(.*)", 30), s, append(groups(2, 0, most), groups(29, most, most)...))
	checkMatch(t, "(?:"+strings.Repeat("(.)?", 29)+"(.))*", s, append(spans(0, most), chain(most)...))
	checkMatch(t, strings.Repeat("a?", 332)+"(a{332})", strings.Repeat("a", 332), spans(0, 332, 0, 332))
	checkMatch(t, strings.Repeat("a?", 332)+"(a{332})", strings.Repeat("a", 664), spans(0, 664, 332, 664))
	checkMatch(t, strings.Repeat("a?", 332)+"(a{332})", strings.Repeat("a", 665), nil)
	checkMatch(t, "(é*)(b)", strings.Repeat("é", most/2-1)+"b", spans(0, most-1, 0, most-2, most-2, most-1))
	checkMatch(t, strings.Repeat("a", 999), strings.Repeat("a", 999), spans(0, 999))
	// All of a thousand instructions are met, one after the other.
	var l []Inst
	for i := range 999 {
		l = append(l, save(i%60))
	}
	checkRun(t, with(30, append(l, end())...), "", groups(31, 0, 0))
	for i := range 998 {
		l[i] = jump((i + 2) % 1000)
	}
	l[998] = jump(1)
	checkRun(t, with(0, append(l[:999], end())...), "", spans(0, 0))
	// At each place there are 500 threads, 30 groups, and as many splits that lead to all of them.
	l = nil
	for i := range 499 {
		l = append(l, split(2*i+1, 2*i+2), take('a', 'a'))
	}
	checkRun(t, with(30, append(l, split(0, 999), end())...), s, append(spans(0, most), groups(30, -1, -1)...))
}

// chain returns the spans of 30 groups in turn that take one byte each, all but the last of them only if there is one left, at the end of a string of some length.
func chain(length int) []Span {
	var l []Span
	full := length / 30 * 30
	left := length - full
	for k := range 30 {
		from := full - 30 + k
		switch {
		case k < left-1:
			from = full + k
		case k == 29 && left > 0:
			from = length - 1
		}
		l = append(l, Span{from, from + 1})
	}
	return l
}

// copyOf returns a program that shares no memory with the one it is equal to, with what lies behind the ends of its lists.
func copyOf(p Prog) Prog {
	p.Insts = slices.Clone(p.Insts[:cap(p.Insts)])
	for i := range p.Insts {
		set := p.Insts[i].Set
		p.Insts[i].Set = slices.Clone(set[:cap(set)])
	}
	return p
}

// isSame tells whether programs are equal.
func isSame(p, q Prog) bool {
	return p.Groups == q.Groups && slices.EqualFunc(p.Insts, q.Insts, func(i, j Inst) bool {
		return i.Op == j.Op && i.X == j.X && i.Y == j.Y && slices.Equal(i.Set, j.Set)
	})
}

// R3 and R4: programs stay as they are, so does what lies behind the ends of their lists, and spans have memory of their own.
func TestArgumentsStay(t *testing.T) {
	r := rand.New(rand.NewSource(106))
	for range 20000 {
		p, s := anyProg(r, 1+r.Intn(9)), anyString(r, r.Intn(6))
		p.Insts = append(p.Insts, jump(-7))[:len(p.Insts)]
		for k := range p.Insts {
			i := &p.Insts[k]
			i.Set = append(i.Set, class.Range{Lo: 1, Hi: 2})[:len(i.Set)]
		}
		before := copyOf(p)
		want, _ := spansOf(p, s)
		for range 2 {
			l, _, _ := match.Run(p, s)
			if !slices.Equal(l, want) || !isSame(copyOf(p), before) {
				t.Fatalf("%v in %q: %v, not %v, or the program is not %v", p, s, l, want, before)
			}
			wipe(l)
		}
	}
}

// wipe writes over all spans that a list has room for.
func wipe(l []Span) {
	l = l[:cap(l)]
	for i := range l {
		l[i] = Span{-7, -7}
	}
}

// R3 and R4: a Regex answers the same again, whatever it was asked before, and whatever is done with its answers, or with the program of its pattern.
func TestSameAgain(t *testing.T) {
	r := rand.New(rand.NewSource(107))
	patterns := []string{"", "(a*)(b*)", "(a|(b))*", "((.)(.)?)*", "(?:(a)|(é))+?b*", "(x)|.*"}
	var objects []*Regex
	for _, x := range append(patterns, patterns...) {
		objects = append(objects, made(t, x))
	}
	for range 20000 {
		k, s := r.Intn(len(objects)), anyString(r, r.Intn(6))
		x := objects[k]
		if r.Intn(10) == 0 {
			s = anyOf(r, badTexts())
		}
		l, is, e := x.Match(s)
		var want []Span
		wrong := api.OK
		if utf8.ValidString(s) {
			want, _ = spansOf(compiled(t, x.Pattern()), s)
		} else {
			wrong = prog.ErrText
		}
		if !slices.Equal(l, want) || is != (len(want) > 0) || e != wrong || x.Is(s) != is {
			t.Fatalf("%q in %.10q: %v %t %d, not %v %d", x.Pattern(), s, l, is, e, want, wrong)
		}
		wipe(l)
		if x.Pattern() != patterns[k%len(patterns)] || x.Groups() != strings.Count(strings.ReplaceAll(x.Pattern(), "(?:", ""), "(") {
			t.Fatalf("%q with %d groups", x.Pattern(), x.Groups())
		}
	}
}

// R3: strings of results have memory of their own.
func TestStringsAreNew(t *testing.T) {
	text := strings.Repeat("a(b)", 3)
	pattern := text[4:8]
	known := map[*byte]bool{unsafe.StringData(pattern): true}
	x := made(t, pattern)
	quoted, e := match.Quote(pattern[:1])
	for _, s := range []string{x.Pattern(), x.Pattern(), made(t, x.Pattern()).Pattern(), quoted} {
		if known[unsafe.StringData(s)] || e != api.OK {
			t.Errorf("%q has memory of an argument, or of another result", s)
		}
		known[unsafe.StringData(s)] = true
	}
	room := []byte("a(b)c")
	y := made(t, unsafe.String(&room[0], 4))
	copy(room, "xxxxx")
	if y.Pattern() != "a(b)" || !y.Is("ab") || y.Is("xx") {
		t.Errorf("the pattern is %q", y.Pattern())
	}
}

// R4: a Regex can be asked by several goroutines at once, as nothing that is asked changes it.
func TestManyAtOnce(t *testing.T) {
	x := made(t, "((?:a|é)*)(b+)?(.*)")
	var all sync.WaitGroup
	for k := range 8 {
		all.Go(func() {
			s := strings.Repeat("aé", k) + strings.Repeat("b", k%3) + "x"
			want := spans(0, len(s), 0, 3*k, 3*k, 3*k+k%3, 3*k+k%3, len(s))
			if k%3 == 0 {
				want[2] = Span{-1, -1}
			}
			for range 500 {
				l, is, e := x.Match(s)
				if !slices.Equal(l, want) || !is || e != api.OK || x.Pattern() == "" || x.Groups() != 3 {
					t.Errorf("%q: %v %t %d, not %v", s, l, is, e, want)
					return
				}
			}
		})
	}
	all.Wait()
}

// R5: lists that are nil are like empty ones.
func TestEmptyLists(t *testing.T) {
	for _, set := range [][]class.Range{nil, {}} {
		p := with(1, Inst{Op: 2, X: 1, Y: 2, Set: set}, Inst{Op: 1, Set: set}, Inst{Op: 4, Set: set}, Inst{Op: 3, X: 4, Set: set}, Inst{Op: 5, Set: set})
		checkRun(t, p, "", spans(0, 0, 0, -1))
		checkRun(t, p, "a", nil)
	}
}
