package template_test

import (
	"fmt"
	"math"
	"math/rand"
	"regexp"
	"slices"
	"strconv"
	"strings"
	"sync"
	"testing"
	"unicode/utf8"
	"unsafe"

	"gauger/api"
	"gauger/match"
	"gauger/prog"
	"gauger/template"
)

// Part, Regex and Span are these types, by shorter names.
type (
	Part  = template.Part
	Regex = match.Regex
	Span  = match.Span
)

// The parts.
func text(s string) Part { return Part{Kind: 1, Text: s} }

func group(k int) Part { return Part{Kind: 2, Group: k} }

func name(s string) Part { return Part{Kind: 3, Text: s} }

// parts returns a list of parts.
func parts(l ...Part) []Part { return l }

// spans returns the spans of From and To, in turn.
func spans(l ...int) []Span {
	var all []Span
	for i := 0; i < len(l); i += 2 {
		all = append(all, Span{From: l[i], To: l[i+1]})
	}
	return all
}

// shown returns the beginning of how a value is printed.
func shown(v any) string { return fmt.Sprintf("%.200s", fmt.Sprint(v)) }

// made returns the Regex of a pattern.
func made(t *testing.T, pattern string) *Regex {
	t.Helper()
	r, e := match.New(pattern)
	if e != api.OK {
		t.Fatalf("%.200q: New returned the error %d", pattern, e)
	}
	return r
}

// parsed returns the parts of a template.
func parsed(t *testing.T, s string) []Part {
	t.Helper()
	l, e := template.Parse(s)
	if e != api.OK {
		t.Fatalf("%.200q: Parse returned the error %d", s, e)
	}
	return l
}

// checkParts holds Parse of a template against the parts that are wanted, and these against Right, Text and Most.
func checkParts(t *testing.T, s string, want []Part) {
	t.Helper()
	l, e := template.Parse(s)
	if !slices.Equal(l, want) || e != api.OK {
		t.Fatalf("%.100q: the parts are %v %d, not %v", s, l, e, want)
	}
	checkRight(t, want)
}

// checkRight holds Right, Text and Most of right parts against the chapter.
func checkRight(t *testing.T, l []Part) {
	t.Helper()
	if !template.Right(l) {
		t.Fatalf("%v are not right", l)
	}
	want, wrong := textOf(l), api.OK
	if len(want) > 1024 {
		want, wrong = "", api.ErrLong
	}
	if s, e := template.Text(l); s != want || e != wrong {
		t.Fatalf("%v: the text is %.100q %d, not %.100q %d", l, s, e, want, wrong)
	}
	most := -1
	for _, p := range l {
		if p.Kind == 2 && p.Group > most {
			most = p.Group
		}
	}
	if k, e := template.Most(l); k != most || e != api.OK {
		t.Fatalf("%v: Most is %d %d, not %d", l, k, e, most)
	}
}

// The pieces of a template by the chapter, words, and those of them that are numbers.
var (
	pieces  = regexp.MustCompile(`(?s)\$\$|\$\{[0-9A-Za-z_]+\}|\$[0-9A-Za-z_]+|.`)
	words   = regexp.MustCompile(`^[0-9A-Za-z_]+$`)
	numbers = regexp.MustCompile(`^(?:0|[1-9][0-9]{0,2})$`)
)

// partsOf are the parts of a valid template by the chapter.
func partsOf(s string) []Part {
	var l []Part
	texts := ""
	flush := func() {
		if texts != "" {
			l = append(l, text(texts))
		}
		texts = ""
	}
	for _, piece := range pieces.FindAllString(s, -1) {
		word := strings.Trim(piece, "${}")
		switch {
		case piece == "$$":
			texts += "$"
		case len(piece) == 1 || piece[0] != '$':
			texts += piece
		case numbers.MatchString(word):
			flush()
			k, _ := strconv.Atoi(word)
			l = append(l, group(k))
		default:
			flush()
			l = append(l, name(word))
		}
	}
	flush()
	return l
}

// textOf is the text of parts by the chapter.
func textOf(l []Part) string {
	var s strings.Builder
	for _, p := range l {
		switch p.Kind {
		case 1:
			s.WriteString(strings.Join(strings.Split(p.Text, "$"), "$$"))
		case 2:
			fmt.Fprintf(&s, "${%d}", p.Group)
		case 3:
			fmt.Fprintf(&s, "${%s}", p.Text)
		}
	}
	return s.String()
}

// isRight tells by the chapter whether parts are those of a template: there is none but their text.
func isRight(l []Part) bool {
	s := textOf(l)
	return utf8.ValidString(s) && slices.Equal(partsOf(s), l)
}

func TestConstants(t *testing.T) {
	if template.KindText != 1 || template.KindGroup != 2 || template.KindName != 3 {
		t.Error("kinds")
	}
	if template.MaxTemplate != 1024 || template.MaxResult != 1024 || template.MaxGroup != 999 {
		t.Error("limits")
	}
	if template.ErrParts != 110 || template.ErrText != 111 {
		t.Error("errors")
	}
}

// P11.1 and P11.2: the parts of templates, and their texts; the examples of the chapter.
func TestParse(t *testing.T) {
	for _, x := range []struct {
		s    string
		want []Part
	}{
		{"$1-${2}x$$", parts(group(1), text("-"), group(2), text("x$"))}, {"$1x", parts(name("1x"))}, {"${1}x", parts(group(1), text("x"))}, {"$01", parts(name("01"))}, {"$-${}${a", parts(text("$-${}${a"))}, {"$2[$1]$0$7$x", parts(group(2), text("["), group(1), text("]"), group(0), group(7), name("x"))},

		{"", nil}, {"a", parts(text("a"))}, {"a b\n\x00é€\U0001f600", parts(text("a b\n\x00é€\U0001f600"))}, {"{1}", parts(text("{1}"))}, {"{}", parts(text("{}"))}, {"\\1", parts(text("\\1"))},
		// A $ that is text.
		{"$", parts(text("$"))}, {"$$", parts(text("$"))}, {"$$$", parts(text("$$"))}, {"$$$$", parts(text("$$"))}, {"a$", parts(text("a$"))}, {"a$$b", parts(text("a$b"))}, {"$ a", parts(text("$ a"))}, {"$.", parts(text("$."))}, {"$é", parts(text("$é"))}, {"$\x00", parts(text("$\x00"))}, {"$\U0001f600", parts(text("$\U0001f600"))}, {"$\u0661", parts(text("$\u0661"))}, {"$\uff11", parts(text("$\uff11"))},
		{"$$1", parts(text("$1"))}, {"$$$1", parts(text("$"), group(1))}, {"$$$$1", parts(text("$$1"))}, {"$$$$$1", parts(text("$$"), group(1))}, {"$${1}", parts(text("${1}"))}, {"$$${1}", parts(text("$"), group(1))}, {"$1$", parts(group(1), text("$"))}, {"$1$$", parts(group(1), text("$"))}, {"$a$", parts(name("a"), text("$"))}, {"${a}$", parts(name("a"), text("$"))},
		// Braces that do not hold a word, or are not closed.
		{"${", parts(text("${"))}, {"$}", parts(text("$}"))}, {"${}", parts(text("${}"))}, {"${1", parts(text("${1"))}, {"${a", parts(text("${a"))}, {"${1a_", parts(text("${1a_"))}, {"${{1}}", parts(text("${{1}}"))}, {"${-1}", parts(text("${-1}"))}, {"${+1}", parts(text("${+1}"))}, {"${ 1}", parts(text("${ 1}"))}, {"${1 }", parts(text("${1 }"))}, {"${a-b}", parts(text("${a-b}"))}, {"${é}", parts(text("${é}"))}, {"${aé}", parts(text("${aé}"))}, {"${a.}", parts(text("${a.}"))}, {"${1{", parts(text("${1{"))}, {"$({1})", parts(text("$({1})"))}, {"$ {1}", parts(text("$ {1}"))}, {"$}1{", parts(text("$}1{"))}, {"${${1}", parts(text("${"), group(1))}, {"${a${1}}", parts(text("${a"), group(1), text("}"))}, {"${1$2}", parts(text("${1"), group(2), text("}"))}, {"${$$1}", parts(text("${$1}"))}, {"${1$", parts(text("${1$"))}, {"$${", parts(text("${"))}, {"$${$1", parts(text("${"), group(1))},
		// What follows a group or a name.
		{"${1}1", parts(group(1), text("1"))}, {"$1}", parts(group(1), text("}"))}, {"$1{2}", parts(group(1), text("{2}"))}, {"${1}}", parts(group(1), text("}"))}, {"${a}b", parts(name("a"), text("b"))}, {"$a-b", parts(name("a"), text("-b"))}, {"$1é", parts(group(1), text("é"))}, {"$aé", parts(name("a"), text("é"))}, {"$1.5", parts(group(1), text(".5"))}, {"$1$2", parts(group(1), group(2))}, {"$1${2}$3", parts(group(1), group(2), group(3))}, {"$1$1", parts(group(1), group(1))}, {"$a$b", parts(name("a"), name("b"))}, {"${a}${b}", parts(name("a"), name("b"))}, {"a$1b$2c", parts(text("a"), name("1b"), name("2c"))}, {"a${1}b${2}c", parts(text("a"), group(1), text("b"), group(2), text("c"))},
		// Words that are numbers, and that are not.
		{"$0", parts(group(0))}, {"$9", parts(group(9))}, {"$10", parts(group(10))}, {"$99", parts(group(99))}, {"$100", parts(group(100))}, {"$999", parts(group(999))}, {"$1000", parts(name("1000"))}, {"$00", parts(name("00"))}, {"$000", parts(name("000"))}, {"$007", parts(name("007"))}, {"$0999", parts(name("0999"))}, {"$12345678901234567890", parts(name("12345678901234567890"))}, {"$18446744073709551617", parts(name("18446744073709551617"))}, {"$1_0", parts(name("1_0"))}, {"$_1", parts(name("_1"))}, {"$_", parts(name("_"))}, {"$0x1", parts(name("0x1"))}, {"$1e1", parts(name("1e1"))}, {"$a1", parts(name("a1"))}, {"$Az09_", parts(name("Az09_"))},
		{"${0}", parts(group(0))}, {"${00}", parts(name("00"))}, {"${01}", parts(name("01"))}, {"${999}", parts(group(999))}, {"${1000}", parts(name("1000"))}, {"${1x}", parts(name("1x"))}, {"${_}", parts(name("_"))}, {"${Az09_}", parts(name("Az09_"))},
	} {
		if l := partsOf(x.s); !slices.Equal(l, x.want) {
			t.Errorf("%q: the definition has %v, not %v", x.s, l, x.want)
		}
		checkParts(t, x.s, x.want)
	}
}

// P11.1: each byte behind a $, behind a word, and within braces; each number.
func TestWords(t *testing.T) {
	for c := range rune(0x250) {
		for _, s := range []string{"$" + string(c), "$a" + string(c), "$" + string(c) + "a", "${" + string(c) + "}", "${a" + string(c) + "}", "${" + string(c) + "1}", "${1" + string(c), "$1" + string(c) + "b", string(c) + "$1"} {
			checkParts(t, s, partsOf(s))
		}
	}
	for k := range 1200 {
		word := strconv.Itoa(k)
		for _, s := range []string{word, "0" + word, "00" + word, word + "0", "1" + word + "000", "_" + word, word + "a"} {
			checkParts(t, "$"+s, partsOf("$"+s))
			checkParts(t, "${"+s+"}", partsOf("${"+s+"}"))
			if want := !numbers.MatchString(s); template.Right(parts(name(s))) != want {
				t.Errorf("the name %q is right: %t", s, !want)
			}
		}
		if want := k <= 999; template.Right(parts(group(k))) != want {
			t.Errorf("the group %d is right: %t", k, !want)
		}
	}
}

// anyOf returns one of some things.
func anyOf[E any](r *rand.Rand, l []E) E { return l[r.Intn(len(l))] }

// anyTemplate returns as many pieces of templates, one after the other.
func anyTemplate(r *rand.Rand, k int) string {
	s := ""
	for range k {
		s += anyOf(r, []string{"$", "$", "$", "$$", "${", "${", "{", "}", "}", "$1", "$2", "${1}", "${0}", "${10}", "${x}", "0", "1", "9", "99", "a", "_", "B", "-", " ", "é", "€", "\x00", "ab"})
	}
	return s
}

// P11.1 and P11.2: all short templates, and many longer ones, against the chapter.
func TestParseAgainstDefinition(t *testing.T) {
	const bytes = "$${}10a-"
	for length := range 7 {
		for k := range int(math.Pow(7, float64(length))) {
			s := ""
			for range length {
				s += bytes[1+k%7 : 2+k%7]
				k /= 7
			}
			checkParts(t, s, partsOf(s))
		}
	}
	r := rand.New(rand.NewSource(111))
	kinds := map[int]int{}
	for range 100000 {
		s := anyTemplate(r, r.Intn(16))
		l := partsOf(s)
		checkParts(t, s, l)
		for _, p := range l {
			kinds[int(p.Kind)]++
		}
		kinds[10+min(len(l), 6)]++
	}
	for _, k := range []int{1, 2, 3, 10, 11, 12, 13, 14, 15, 16} {
		if kinds[k] < 2000 {
			t.Errorf("only %d of the sort %d", kinds[k], k)
		}
	}
}

// badTexts are strings that are not valid UTF-8.
func badTexts() []string {
	return []string{"\xff", "\x80", "a\x80", "\xc3", "aé\xc3", "\xe2\x82", "\xed\xa0\x80", "\xed\xbf\xbf", "\xc0\x80", "\xc1\xbf", "\xf4\x90\x80\x80", "\xf8\x88\x80\x80\x80", "\xef\xbf", "\xffa", "b\xff"}
}

// P11.1 and R2: templates that are too long, or not valid, and which error goes first.
func TestParseErrors(t *testing.T) {
	long := strings.Repeat("a", 1024)
	for _, s := range []string{long, strings.Repeat("$1", 512), strings.Repeat("$$", 512), strings.Repeat("é", 512), strings.Repeat("$", 1024), "$" + long[1:], "${" + long[3:] + "}", "${" + long[2:], strings.Repeat("${", 512), strings.Repeat("${a", 341) + "}", strings.Repeat("${1}", 256), strings.Repeat("$1-", 341) + "$", "$" + strings.Repeat("1", 1023), "$" + strings.Repeat("0", 1023)} {
		if len(s) != 1024 {
			t.Fatalf("%.10q has %d bytes", s, len(s))
		}
		checkParts(t, s, partsOf(s))
	}
	for _, s := range []string{long + "a", strings.Repeat("$1", 513), strings.Repeat("é", 513), strings.Repeat("$", 1025), strings.Repeat("a", 1<<24), long + "\xff", "\xff" + long, long[1:] + "é", strings.Repeat("\xff", 1025), strings.Repeat("\xff", 100000)} {
		if l, e := template.Parse(s); len(l) > 0 || e != api.ErrLong {
			t.Errorf("%.10q of %d bytes: %v %d, not too long", s, len(s), l, e)
		}
	}
	for _, bad := range badTexts() {
		for _, s := range []string{bad, "$" + bad, "$1" + bad, "${" + bad + "}", "${1}" + bad + "$2", bad + "$1", long[len(bad):] + bad} {
			if l, e := template.Parse(s); len(l) > 0 || e != template.ErrText {
				t.Errorf("%.10q: %v %d, not ErrText", s, l, e)
			}
		}
	}
}

// wrongParts are parts that are not right.
func wrongParts() [][]Part {
	l := [][]Part{
		parts(Part{}), parts(text("")), parts(name("")), parts(Part{Kind: 4}), parts(Part{Kind: 255}), parts(Part{Kind: 4, Text: "a"}), parts(Part{Text: "a"}), parts(Part{Group: 1}), parts(Part{Kind: 0, Text: "a", Group: 1}), parts(Part{Kind: 5, Group: 1}),
		parts(Part{Kind: 1, Text: "a", Group: 1}), parts(Part{Kind: 1, Text: "a", Group: -1}), parts(Part{Kind: 1, Group: 1}), parts(Part{Kind: 2, Text: "a", Group: 1}), parts(Part{Kind: 2, Text: "1", Group: 1}), parts(Part{Kind: 2, Text: "a"}), parts(Part{Kind: 3, Text: "a", Group: 1}), parts(Part{Kind: 3, Text: "a", Group: math.MinInt}),
		parts(group(-1)), parts(group(1000)), parts(group(math.MinInt)), parts(group(math.MaxInt)), parts(group(1 << 32)), parts(group(1<<32 + 1)),
		parts(name("0")), parts(name("7")), parts(name("10")), parts(name("999")), parts(name("-")), parts(name("a-")), parts(name("-1")), parts(name("+1")), parts(name(" 1")), parts(name("a b")), parts(name("é")), parts(name("aé")), parts(name("a}")), parts(name("{a}")), parts(name("$a")), parts(name("a$")), parts(name("a\x00")), parts(name("\xff")), parts(name("a\x80")), parts(name("1.0")), parts(name("a/b")), parts(name("a:b")), parts(name("@")), parts(name("[")), parts(name("`")),
		parts(text("a"), text("b")), parts(text("$"), text("$")), parts(group(1), text("a"), text("b")), parts(text("a"), text("b"), group(1)), parts(text("a"), group(1), text("b"), text("b")), parts(text("a"), text("")), parts(text("\xe2"), text("\x82\xac")),
		parts(group(1), Part{}), parts(Part{}, group(1)), parts(text("a"), group(1), name("7")), slices.Repeat(parts(text("a")), 3000), append(slices.Repeat(parts(group(1), text("a")), 3000), text("b")), parts(text(strings.Repeat("a", 5000)), Part{}), parts(name(strings.Repeat("a", 5000) + "-")),
	}
	for _, bad := range badTexts() {
		l = append(l, parts(text(bad)), parts(group(1), text("a"+bad)), parts(text(bad), group(1)))
	}
	return l
}

// P11.1 to P11.4 and R2: parts that are not right have ErrParts, before all else.
func TestWrongParts(t *testing.T) {
	none, some := (*Regex)(nil), made(t, "a*")
	long := strings.Repeat("a", 65537)
	for i, l := range wrongParts() {
		if isRight(l) {
			t.Fatalf("%d, %v: right", i, shown(l))
		}
		if template.Right(l) {
			t.Errorf("%d, %v: Right", i, shown(l))
		}
		if s, e := template.Text(l); s != "" || e != template.ErrParts {
			t.Errorf("%d, %v: the text is %.10q %d", i, shown(l), s, e)
		}
		if k, e := template.Most(l); k != 0 || e != template.ErrParts {
			t.Errorf("%d, %v: Most is %d %d", i, shown(l), k, e)
		}
		for _, x := range [][]Span{nil, spans(0, 1), spans(0, 7), spans(1, 0), spans(-1, -1), spans(0, 1, 0, 1, -1, 1)} {
			if s, e := template.Expand(l, "a", x); s != "" || e != template.ErrParts {
				t.Errorf("%d, %v: Expand with %v is %.10q %d", i, shown(l), x, s, e)
			}
		}
		for _, r := range []*Regex{some, none, {}} {
			for _, s := range []string{"", "a", "b", "\xff", long} {
				if got, is, e := template.Replace(r, l, s); got != "" || is || e != template.ErrParts {
					t.Errorf("%d, %v: Replace in %.10q is %.10q %t %d", i, shown(l), s, got, is, e)
				}
			}
		}
	}
}

// anyParts returns as many parts, of which some may not be right.
func anyParts(r *rand.Rand, k int) []Part {
	var l []Part
	for range k {
		p := anyOf(r, []Part{text("a"), text("$"), text("é-"), text("${1}"), text("1"), text("\x00}"), group(0), group(1), group(2), group(10), group(999), name("a"), name("x_1"), name("01"), name("1000"), name("_")})
		switch r.Intn(25) {
		case 0:
			p.Kind = anyOf(r, []uint8{0, 1, 2, 3, 4, 128, 255})
		case 1:
			p.Text = anyOf(r, []string{"", "a", "1", "0", "é", "\xc3", "\xa9", "a-", "00", "$"})
		case 2:
			p.Group = anyOf(r, []int{0, 1, 3, 99, 999, 1000, -1, math.MinInt, math.MaxInt})
		}
		l = append(l, p)
	}
	return l
}

// P11.1, P11.2 and P11.5: lists of parts of all sorts, against the chapter; the text of right ones has these parts.
func TestRightAgainstDefinition(t *testing.T) {
	r := rand.New(rand.NewSource(112))
	right := map[bool]int{}
	for range 200000 {
		l := anyParts(r, r.Intn(7))
		want := isRight(l)
		right[want && len(l) > 1]++
		if template.Right(l) != want {
			t.Fatalf("%v: Right is %t", l, !want)
		}
		if !want {
			if s, e := template.Text(l); s != "" || e != template.ErrParts {
				t.Fatalf("%v: the text is %q %d", l, s, e)
			}
			continue
		}
		checkParts(t, textOf(l), l)
	}
	if right[true] < 20000 || right[false] < 20000 {
		t.Error("too few parts of one sort:", right)
	}
}

// P11.2 and R2: texts of 1024 bytes and of more, and the greatest groups.
func TestLongParts(t *testing.T) {
	a := func(k int) string { return strings.Repeat("a", k) }
	for _, l := range [][]Part{
		parts(text(a(1024))), parts(text(strings.Repeat("$", 512))), parts(text(strings.Repeat("é", 512))), slices.Repeat(parts(group(1)), 256), parts(name(a(1021))), append(slices.Repeat(parts(group(999)), 170), text("aaaa")), parts(text(a(500)), group(7), text(a(520))), parts(text(a(500)), group(77), text(strings.Repeat("$", 259)+"a")), append(slices.Repeat(parts(name("a"), text("$")), 170), group(1)), append(parts(text("aaaa")), slices.Repeat(parts(group(10), name("xx")), 102)...),
	} {
		l := slices.Concat(l)
		if n := len(textOf(l)); n != 1024 {
			t.Fatalf("%d bytes", n)
		}
		checkParts(t, textOf(l), l)
	}
	for _, l := range [][]Part{
		parts(text(a(1025))), parts(text(strings.Repeat("$", 512) + "a")), parts(text(strings.Repeat("$", 513))), parts(text(strings.Repeat("$", 1024))), parts(text(a(1<<24) + "$")), slices.Repeat(parts(group(1)), 257), slices.Repeat(parts(group(0)), 100000), parts(name(a(1022))), parts(name(a(1 << 20))), parts(text(a(1021)), group(1)), parts(group(1), text(a(1021))), parts(name("x"), text(a(1021))), parts(text(a(1024)), group(3), text("b"), group(2)), parts(name(strings.Repeat("0", 1<<20))), parts(name(strings.Repeat("9", 1<<20))),
	} {
		checkRight(t, l)
		if s, e := template.Text(l); s != "" || e != api.ErrLong {
			t.Errorf("%.20q: the text is %.10q %d, not too long", textOf(l), s, e)
		}
	}
	for _, x := range []struct {
		l    []Part
		most int
	}{
		{nil, -1}, {parts(text("9")), -1}, {parts(name("1x")), -1}, {parts(text("$5"), name("1000"), text("7")), -1}, {parts(group(0)), 0}, {parts(group(0), group(0)), 0}, {parts(group(3), group(5), group(4)), 5}, {parts(group(5), group(3)), 5}, {parts(group(3), group(5)), 5}, {parts(name("a"), group(0), text("9")), 0}, {parts(group(9), group(10)), 10}, {parts(group(999), group(1)), 999},
	} {
		if k, e := template.Most(x.l); k != x.most || e != api.OK {
			t.Errorf("%v: Most is %d %d, not %d", x.l, k, e, x.most)
		}
	}
}

// P11.5: different parts have different texts: all lists of at most four of some parts.
func TestTextsDiffer(t *testing.T) {
	some := parts(text("a"), text("$"), text("1"), text("{"), text("}"), text("${1}"), text("$$"), group(0), group(1), group(11), name("a"), name("1a"), name("01"), name("_"))
	known := map[string][]Part{}
	lists := [][]Part{nil}
	for k := 0; k < len(lists); k++ {
		l := lists[k]
		s, e := template.Text(l)
		if other, is := known[s]; is || e != api.OK {
			t.Fatalf("%v: the text %q %d, as %v", l, s, e, other)
		}
		known[s] = l
		checkParts(t, s, l)
		for _, p := range some {
			if more := append(slices.Clone(l), p); len(more) <= 4 && template.Right(more) {
				lists = append(lists, more)
			}
		}
	}
	if len(lists) < 10000 {
		t.Error("only", len(lists), "lists")
	}
}

// expandOf is what right parts expand to by the chapter, with right spans.
func expandOf(l []Part, s string, x []Span) string {
	all := ""
	for _, p := range l {
		if p.Kind == 1 {
			all += p.Text
		}
		for k, span := range x {
			if p == group(k) && span.From >= 0 {
				all += string([]byte(s)[span.From:span.To])
			}
		}
	}
	return all
}

// checkExpand holds Expand against what is wanted, or against ErrLong if that is too long.
func checkExpand(t *testing.T, l []Part, s string, x []Span, want string) {
	t.Helper()
	wrong := api.OK
	if len(want) > 1024 {
		want, wrong = "", api.ErrLong
	}
	if got, e := template.Expand(l, s, x); got != want || e != wrong {
		t.Fatalf("%v with %.100q and %v: Expand is %.100q %d, not %.100q %d", shown(l), s, shown(x), got, e, want, wrong)
	}
}

// P11.3: what parts expand to; the examples of the chapter.
func TestExpand(t *testing.T) {
	three := spans(0, 5, 0, 2, -1, -1)
	for _, x := range []struct {
		template, s string
		spans       []Span
		want        string
	}{
		{"$2[$1]$0$7$x", "abcde", three, "[ab]abcde"},

		{"", "abcde", three, ""}, {"", "", nil, ""}, {"x", "abcde", three, "x"}, {"x", "", nil, "x"}, {"$0", "", nil, ""}, {"$1", "abcde", nil, ""}, {"$1$0", "abcde", spans(1, 2), "b"}, {"$0$0", "abcde", three, "abcdeabcde"}, {"$2", "abcde", three, ""}, {"$3", "abcde", three, ""}, {"$999", "abcde", three, ""}, {"$$1", "abcde", three, "$1"}, {"${1}x", "abcde", three, "abx"}, {"$1x", "abcde", three, ""}, {"$01", "abcde", three, ""}, {"$é${", "abcde", three, "$é${"}, {"<$name>", "abcde", three, "<>"}, {"${1000}$-", "abcde", three, "$-"},
		// Spans of any sort that is right: nothing, the end, all, in any order, and of bytes that are no text.
		{"$0|$1|$2|$3", "abc", spans(0, 0, 3, 3, 0, 3, 1, 2), "||abc|b"}, {"$0|$1", "abc", spans(2, 3, 0, 1), "c|a"}, {"$0$1", "é", spans(0, 1, 1, 2), "é"}, {"$0", "é", spans(1, 2), "\xa9"}, {"$0-$1", "\xff\x00", spans(0, 1, 1, 2), "\xff-\x00"}, {"$0$1$0", "", spans(0, 0, -1, -1), ""}, {"$1", "$2x", spans(-1, -1, 0, 2), "$2"}, {"$0", "$0${1}", spans(0, 6), "$0${1}"},
	} {
		l := parsed(t, x.template)
		if got := expandOf(l, x.s, x.spans); got != x.want {
			t.Errorf("%q: the definition is %q, not %q", x.template, got, x.want)
		}
		checkExpand(t, l, x.s, x.spans, x.want)
	}
	many := slices.Repeat(spans(-1, -1), 1002)
	many[998], many[999], many[1000], many[1001] = Span{From: 0, To: 1}, Span{From: 1, To: 2}, Span{From: 2, To: 3}, Span{From: 3, To: 4}
	for k := 998; k <= 1000; k++ {
		checkExpand(t, parsed(t, "$998$999$1000$1001"), "abcd", many[:k], "ab"[:k-998])
	}
	checkExpand(t, parsed(t, "$998$999$1000$1001"), "abcd", many, "ab")
}

// P11.3 and R2: each span that is not right has ErrArg, whether a group needs it or not, and whatever parts expand to.
func TestWrongSpans(t *testing.T) {
	long := parts(text(strings.Repeat("a", 1025)))
	for from := -3; from <= 6; from++ {
		for to := -3; to <= 6; to++ {
			right := from == -1 && to == -1 || 0 <= from && from <= to && to <= 4
			checkSpan(t, "abcd", Span{From: from, To: to}, right)
			if _, e := template.Expand(long, "abcd", spans(0, 4, from, to)); e == api.ErrLong != right {
				t.Errorf("%d to %d: %d for a text that is too long", from, to, e)
			}
		}
	}
	for _, x := range spans(math.MinInt, math.MinInt, math.MinInt, -1, -1, math.MinInt, math.MinInt, math.MaxInt, math.MaxInt, math.MaxInt, math.MaxInt, math.MinInt, 0, math.MaxInt, 0, math.MinInt, math.MaxInt, 0, math.MinInt, 0, -1, math.MaxInt, math.MaxInt, -1, 0, -1, -1, 0, 0, 1<<32, 1<<32, 1<<32) {
		checkSpan(t, "abcd", x, false)
		checkSpan(t, "", x, false)
	}
	checkSpan(t, "", Span{From: 0, To: 0}, true)
	checkSpan(t, "", Span{From: -1, To: -1}, true)
	checkSpan(t, "é", Span{From: 0, To: 3}, false)
}

// checkSpan holds Expand with a span, at several indices, against whether it is right.
func checkSpan(t *testing.T, s string, x Span, right bool) {
	t.Helper()
	none, all := Span{From: -1, To: -1}, Span{From: 0, To: len(s)}
	for _, l := range [][]Part{nil, parts(text("a")), parts(group(0)), parts(group(1)), parts(group(2), name("a")), parts(group(0), group(1), group(2), group(3))} {
		for _, list := range [][]Span{{x}, {x, none}, {none, x}, {all, x, all}, {all, none, x}, append(slices.Repeat([]Span{all}, 1500), x)} {
			if right {
				checkExpand(t, l, s, list, expandOf(l, s, list))
			} else if got, e := template.Expand(l, s, list); got != "" || e != api.ErrArg {
				t.Errorf("%v with %v: Expand is %q %d, not ErrArg", l, x, got, e)
			}
		}
	}
}

// P11.3: results of 1024 bytes and of more.
func TestLongResults(t *testing.T) {
	s := strings.Repeat("a", 1<<20)
	for _, x := range []struct {
		l     []Part
		spans []Span
	}{
		{parts(group(0)), spans(0, 1024)}, {parts(group(0)), spans(1<<20-1024, 1<<20)}, {parts(group(0), group(0)), spans(7, 519)}, {parts(text(s[:1024])), nil}, {parts(text(s[:512]), group(0)), spans(0, 512)}, {parts(group(0), text(s[:512])), spans(0, 512)}, {parts(text(s[:1024]), group(0), name("x"), group(1), group(2)), spans(5, 5, -1, -1)}, {slices.Repeat(parts(group(0)), 1024), spans(9, 10)}, {slices.Repeat(parts(group(0), group(1), name("a")), 1024), spans(9, 10, -1, -1)}, {parts(text(strings.Repeat("$", 1024))), nil}, {parts(text(strings.Repeat("é", 512))), nil},
	} {
		want := expandOf(x.l, s, x.spans)
		if len(want) != 1024 {
			t.Fatal(len(want), "bytes")
		}
		checkExpand(t, x.l, s, x.spans, want)
		for _, more := range []Part{text("b"), group(0)} {
			last := x.l[len(x.l)-1]
			list := append(slices.Clone(x.spans), slices.Repeat(spans(-1, -1), 4)...)
			list[3] = Span{From: 0, To: 1}
			switch {
			case more.Kind == 1 && last.Kind == 1:
				more = group(3)
			case more.Kind == 2:
				more = group(3)
			}
			for _, l := range [][]Part{append(slices.Clone(x.l), more), append(slices.Clone(x.l), group(3), text("cc"), group(3)), append(parts(group(3)), x.l...)} {
				if got, e := template.Expand(l, s, list); got != "" || e != api.ErrLong {
					t.Errorf("%v: Expand is %.10q %d, not too long", shown(l), got, e)
				}
			}
		}
	}
	for _, x := range [][]Part{parts(group(0)), slices.Repeat(parts(group(0)), 2000), parts(text(s)), parts(group(0), text(s), group(0))} {
		if got, e := template.Expand(x, s, spans(0, 1<<20)); got != "" || e != api.ErrLong {
			t.Errorf("Expand is %.10q %d, not too long", got, e)
		}
	}
	// A template may be longer than what it expands to, and parts may be those of one that is too long.
	checkExpand(t, slices.Repeat(parts(group(2), name("a"), group(1)), 50000), s, spans(0, 1<<20, 3, 3), "")
	checkExpand(t, parts(name(s), text("b"), name(s+"_")), "", nil, "b")
}

// anySpans returns some right spans of a string.
func anySpans(r *rand.Rand, k int, s string) []Span {
	var l []Span
	for range k {
		from := r.Intn(len(s) + 1)
		l = append(l, anyOf(r, spans(-1, -1, from, from+r.Intn(len(s)+1-from), from, from+r.Intn(len(s)+1-from))))
	}
	return l
}

// together returns both lists of parts, one after the other, as the parts of a template.
func together(l, m []Part) []Part {
	l, m = slices.Clone(l), slices.Clone(m)
	if len(l) > 0 && len(m) > 0 && l[len(l)-1].Kind == 1 && m[0].Kind == 1 {
		m[0].Text = l[len(l)-1].Text + m[0].Text
		l = l[:len(l)-1]
	}
	return append(l, m...)
}

// P11.3 and P11.5: many parts and spans, against the chapter and the library; two lists one after the other; templates without a $.
func TestExpandAgainstDefinition(t *testing.T) {
	r := rand.New(rand.NewSource(113))
	// The library takes letters other than ASCII into words.
	other := regexp.MustCompile(`\$\{?\w*é`)
	nothing := regexp.MustCompile("")
	taken, plain := 0, 0
	for range 100000 {
		s := anyTemplate(r, r.Intn(9))
		x := anySpans(r, r.Intn(6), s)
		template1, template2 := anyTemplate(r, r.Intn(8)), anyTemplate(r, r.Intn(8))
		l, m := parsed(t, template1), parsed(t, template2)
		one, two := expandOf(l, s, x), expandOf(m, s, x)
		checkExpand(t, l, s, x, one)
		checkExpand(t, together(l, m), s, x, one+two)
		if !strings.Contains(template1, "$") {
			plain++
			checkExpand(t, l, s, x, template1)
		}
		var ends []int
		for _, span := range x {
			ends = append(ends, span.From, span.To)
		}
		if other.MatchString(template1) {
			continue
		}
		if want := string(nothing.ExpandString(nil, template1, s, ends)); one != want {
			t.Fatalf("%q with %q and %v: %q, and by the library %q", template1, s, x, one, want)
		}
		if one != string(nothing.ExpandString(nil, template1, "", nil)) {
			taken++
		}
	}
	if taken < 5000 || plain < 5000 {
		t.Error("too few of one sort:", taken, plain)
	}
}

// checkReplace holds Replace against what is wanted: a text, true if the pattern matches, and an error.
func checkReplace(t *testing.T, r *Regex, l []Part, s, want string, is bool, wrong api.Errno) {
	t.Helper()
	if got, ok, e := template.Replace(r, l, s); got != want || ok != is || e != wrong {
		t.Fatalf("%.100q with %v in %.100q: Replace is %.100q %t %d, not %.100q %t %d", r.Pattern(), shown(l), s, got, ok, e, want, is, wrong)
	}
}

// P11.4: what is put in the place of a whole string; the examples of the chapter.
func TestReplace(t *testing.T) {
	for _, x := range []struct {
		pattern, template, s, want string
		is                         bool
	}{
		{"(.*):(.*)", "$2", "a:b", "b", true},

		{"(.*):(.*)", "$2:$1", "a:b", "b:a", true}, {"(.*):(.*)", "$2", "ab", "", false}, {"(.*):(.*)", "$0", "a:b", "a:b", true}, {"(.*):(.*)", "$3${4}x", "a:b", "x", true}, {"(.*)", "$1", "", "", true}, {"(.*)", "", "abc", "", true}, {"", "x", "", "x", true}, {"", "x", "a", "", false}, {"a", "x", "ab", "", false}, {"b", "x", "ab", "", false}, {"(a)|(b)", "[$1][$2]", "a", "[a][]", true}, {"(a)|(b)", "[$1][$2]", "b", "[][b]", true}, {"(a|(b))*", "$1$2$0", "ba", "abba", true}, {"(?:a|ab)(c|bcd)?(d*)", "$1-$2", "abcd", "bcd-", true}, {"(.)(.)", "$2$1$$${1}", "é€", "€é$é", true}, {"(.*)", "$1", "$1$2", "$1$2", true}, {"([^:]+)(?::\\d+)?", "${1}:9100", "host:80", "host:9100", true}, {"([^:]+)(?::\\d+)?", "$1:9100", "host", "host:9100", true}, {"(a)", "$1a", "a", "", true}, {"(a)", "$a", "a", "", true},
	} {
		checkReplace(t, made(t, x.pattern), parsed(t, x.template), x.s, x.want, x.is, api.OK)
	}
	thirty := strings.Repeat("(.)", 30)
	checkReplace(t, made(t, thirty), parsed(t, "$30$29$1$31"), strings.Repeat("-", 28)+"ab", "ba-", true, api.OK)
}

// P11.4, R2 and R8: the errors of Replace, and which one goes first.
func TestReplaceErrors(t *testing.T) {
	a := func(k int) string { return strings.Repeat("a", k) }
	right := [][]Part{nil, parts(text("x")), parts(group(0)), parts(group(0), group(1), name("a")), parts(text(a(1025)))}
	strs := append(badTexts(), "", "a", "b", a(65537), a(65537)+"\xff", strings.Repeat("\xff", 70000), a(65535)+"\xc3")
	var none *Regex
	for _, l := range right {
		for _, s := range strs {
			checkReplace(t, none, l, s, "", false, api.ErrNil)
			checkReplace(t, &Regex{}, l, s, "", false, api.ErrNil)
		}
		for _, pattern := range []string{"", "(a*)", ".*", "b"} {
			r := made(t, pattern)
			for _, s := range []string{a(65537), a(65537) + "\xff", strings.Repeat("\xff", 70000), strings.Repeat("é", 32769)} {
				checkReplace(t, r, l, s, "", false, api.ErrLong)
			}
			for _, s := range append(badTexts(), a(65535)+"\xc3") {
				checkReplace(t, r, l, s, "", false, prog.ErrText)
			}
		}
		checkReplace(t, made(t, "b*"), l, a(65536), "", false, api.OK)
		checkReplace(t, made(t, "b"), l, a(2000), "", false, api.OK)
		checkReplace(t, made(t, "b"), l, "a", "", false, api.OK)
	}
	all := made(t, "(a*)")
	checkReplace(t, all, parts(group(0)), a(1024), a(1024), true, api.OK)
	checkReplace(t, all, parts(group(1)), a(1025), "", false, api.ErrLong)
	checkReplace(t, all, parts(group(1), text("x")), a(1023), a(1023)+"x", true, api.OK)
	checkReplace(t, all, parts(group(1), text("x")), a(1024), "", false, api.ErrLong)
	checkReplace(t, all, parts(text(a(1025))), "a", "", false, api.ErrLong)
	checkReplace(t, all, parts(group(2), name("a"), text("x")), a(65536), "x", true, api.OK)
	checkReplace(t, all, parts(group(1)), a(65536), "", false, api.ErrLong)
}

// P11.4: many patterns and templates, against layer 10 and the library.
func TestReplaceAgainstLayers(t *testing.T) {
	r := rand.New(rand.NewSource(114))
	matching := map[bool]int{}
	for range 40000 {
		pattern := ""
		for range 1 + r.Intn(4) {
			pattern += anyOf(r, []string{"(a*)", "(b)?", "(a|b)", "(?:(a)|(b))+", ".", "(.*?)", "b*", "(.{2})", "(é|a)?"})
		}
		s, changed := "", anyTemplate(r, r.Intn(8))
		for range r.Intn(6) {
			s += anyOf(r, []string{"a", "a", "b", "é"})
		}
		x, l := made(t, pattern), parsed(t, changed)
		list, is, _ := x.Match(s)
		matching[is]++
		want := ""
		if is {
			want = expandOf(l, s, list)
		}
		checkReplace(t, x, l, s, want, is, api.OK)
		library := regexp.MustCompile(`(?s)\A(?:` + pattern + `)\z`)
		if strings.Contains(changed, "é") {
			continue
		}
		if found := library.FindStringSubmatchIndex(s); want != string(library.ExpandString(nil, changed, s, found)) && is || is != (found != nil) {
			t.Fatalf("%q with %q in %q: %q %t, not so in the library", pattern, changed, s, want, is)
		}
	}
	if matching[true] < 5000 || matching[false] < 5000 {
		t.Error("too few of one sort:", matching)
	}
}

// R3 and R4: parts and spans stay as they are, so does what lies behind their ends, and the same is answered again.
func TestArgumentsStay(t *testing.T) {
	r := rand.New(rand.NewSource(115))
	x := made(t, "(a*)(b)?.*")
	for range 20000 {
		l := append(anyParts(r, r.Intn(6)), Part{Kind: 9, Text: "behind", Group: 7}, text("z"))
		s := strings.Repeat("a", r.Intn(4)) + strings.Repeat("b", r.Intn(3))
		list := append(anySpans(r, r.Intn(4), s), Span{From: -7, To: 7}, Span{From: 7, To: -7})
		lBefore, listBefore := slices.Clone(l), slices.Clone(list)
		short, shortSpans := l[:len(l)-2], list[:len(list)-2]
		type answers struct {
			right, is           bool
			text, expand, other string
			most                int
			errors              [4]api.Errno
		}
		var got [2]answers
		for i := range got {
			g := &got[i]
			g.right = template.Right(short)
			g.text, g.errors[0] = template.Text(short)
			g.most, g.errors[1] = template.Most(short)
			g.expand, g.errors[2] = template.Expand(short, s, shortSpans)
			g.other, g.is, g.errors[3] = template.Replace(x, short, s)
			if !slices.Equal(l, lBefore) || !slices.Equal(list, listBefore) {
				t.Fatalf("%v and %v are not %v and %v any more", l, list, lBefore, listBefore)
			}
		}
		if got[0] != got[1] || got[0].right != isRight(short) {
			t.Fatalf("%v: %v, then %v", short, got[0], got[1])
		}
	}
}

// R3: strings and lists of results have memory of their own.
func TestResultsAreNew(t *testing.T) {
	s := strings.Repeat("text$${name}$", 2) + "a_name-last"
	from := uintptr(unsafe.Pointer(unsafe.StringData(s)))
	known := map[uintptr]bool{}
	check := func(x string) {
		t.Helper()
		for i := range len(x) {
			at := uintptr(unsafe.Pointer(unsafe.StringData(x))) + uintptr(i)
			if known[at] || from <= at && at < from+uintptr(len(s)) {
				t.Fatalf("%q has memory of an argument, or of another result", x)
			}
			known[at] = true
		}
	}
	l, m := parsed(t, s), parsed(t, s)
	want := slices.Clone(l)
	for _, p := range append(slices.Clone(l), m...) {
		check(p.Text)
	}
	for _, one := range [][]Part{l, parsed(t, "abc"), parsed(t, "$abc")} {
		first, e := template.Text(one)
		again, f := template.Text(one)
		if e+f != api.OK {
			t.Fatal(e, f)
		}
		check(first)
		check(again)
	}
	single := parsed(t, "abc")
	check(single[0].Text)
	for range 2 {
		expanded, e := template.Expand(single, s, nil)
		check(expanded)
		taken, f := template.Expand(parts(group(0)), s, spans(0, len(s)))
		check(taken)
		replaced, is, g := template.Replace(made(t, "(.*)last"), parts(group(1)), s)
		check(replaced)
		if e+f+g != api.OK || !is || expanded != "abc" || taken != s || replaced+"last" != s {
			t.Fatalf("%q %q %q", expanded, taken, replaced)
		}
	}
	l = l[:cap(l)]
	for i := range l {
		l[i] = Part{Kind: 7}
	}
	if !slices.Equal(m, want) || !slices.Equal(parsed(t, s), want) {
		t.Errorf("%v", m)
	}
	room := []byte("a$bc$1x")
	own := parsed(t, unsafe.String(&room[0], len(room)))
	copy(room, "xxxxxxx")
	if !slices.Equal(own, parts(text("a"), name("bc"), name("1x"))) {
		t.Errorf("%v", own)
	}
}

// R4: the same parts and the same Regex can be used by several goroutines at once.
func TestManyAtOnce(t *testing.T) {
	x, l := made(t, "(a*)(b)?(.*)"), parsed(t, "$3${1}$$-$2$x")
	var all sync.WaitGroup
	for k := range 8 {
		all.Go(func() {
			a, b := strings.Repeat("a", k), strings.Repeat("b", k%2)
			for range 300 {
				got, is, e := template.Replace(x, l, a+b+"c")
				if want := "c" + a + "$-" + b; got != want || !is || e != api.OK {
					t.Errorf("%q %t %d, not %q", got, is, e, want)
					return
				}
			}
		})
	}
	all.Wait()
}

// R5: lists that are nil are like empty ones.
func TestEmptyLists(t *testing.T) {
	for _, l := range [][]Part{nil, {}} {
		checkParts(t, "", l)
		for _, x := range [][]Span{nil, {}} {
			checkExpand(t, l, "a", x, "")
			checkExpand(t, parts(group(0), text("x")), "a", x, "x")
		}
		checkReplace(t, made(t, "a"), l, "a", "", true, api.OK)
		checkReplace(t, made(t, "a"), l, "b", "", false, api.OK)
	}
}
