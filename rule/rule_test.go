package rule_test

import (
	"crypto/md5"
	"encoding/binary"
	"fmt"
	"math"
	"math/rand"
	"net/url"
	"regexp"
	"slices"
	"sort"
	"strconv"
	"strings"
	"sync"
	"testing"
	"unicode/utf8"
	"unsafe"

	"gauger/api"
	"gauger/label"
	"gauger/match"
	"gauger/rule"
)

// Rule and Ready are these types, by shorter names.
type (
	Rule  = rule.Rule
	Ready = rule.Ready
)

// of returns labels of names and values, in turn.
func of(l ...string) api.Labels {
	var all api.Labels
	for i := 0; i < len(l); i += 2 {
		all = append(all, api.Label{Name: l[i], Value: l[i+1]})
	}
	return all
}

// many returns k labels with the value v and names that begin with a prefix, in order.
func many(prefix string, k int) api.Labels {
	var all api.Labels
	for i := range k {
		all = append(all, api.Label{Name: fmt.Sprintf("%s%03d", prefix, i), Value: "v"})
	}
	return all
}

// shown returns the beginning of how a value is printed.
func shown(v any) string { return fmt.Sprintf("%.300s", fmt.Sprintf("%+v", v)) }

// same tells whether rules are equal.
func same(a, b Rule) bool {
	return a.Action == b.Action && slices.Equal(a.Sources, b.Sources) && a.Separator == b.Separator && a.Pattern == b.Pattern && a.Target == b.Target && a.Replacement == b.Replacement && a.Modulus == b.Modulus
}

// The actions by the chapter: their names, and the first letters of the fields that they use.
var (
	names = []string{"", "replace", "keep", "drop", "hashmod", "labelmap", "labeldrop", "labelkeep", "lowercase", "uppercase"}
	uses  = []string{"", "fsptr", "fsp", "fsp", "fstm", "pr", "p", "p", "fst", "fst"}
)

// using tells whether an action uses the field with a letter.
func using(action uint8, letter string) bool { return strings.Contains(uses[action], letter) }

// rightName is what the chapter of label says of names.
var rightName = regexp.MustCompile(`\A[a-zA-Z_][a-zA-Z0-9_]{0,127}\z`)

// isTemplate is what the chapter of template says of templates.
func isTemplate(s string) bool { return len(s) <= 1024 && utf8.ValidString(s) }

// patterns has which strings are patterns, as layer 10 tells it.
var patterns sync.Map

func isPattern(s string) bool {
	if is, known := patterns.Load(s); known {
		return is.(bool)
	}
	_, e := match.New(s)
	patterns.Store(s, e == api.OK)
	return e == api.OK
}

// checked is what is wrong with a rule by the chapter.
func checked(r Rule) api.Errno {
	if r.Action < 1 || r.Action > 9 {
		return rule.ErrAction
	}
	for letter, zero := range map[string]bool{"f": len(r.Sources) == 0, "s": r.Separator == "", "p": r.Pattern == "", "t": r.Target == "", "r": r.Replacement == "", "m": r.Modulus == 0} {
		if !zero && !using(r.Action, letter) {
			return rule.ErrUnused
		}
	}
	if len(r.Sources) > 8 {
		return api.ErrMany
	}
	for _, s := range r.Sources {
		if !rightName.MatchString(s) {
			return rule.ErrSource
		}
	}
	target := rightName.MatchString(r.Target)
	if r.Action == rule.Replace {
		target = r.Target != "" && isTemplate(r.Target)
	}
	switch {
	case len(r.Separator) > 16 || !utf8.ValidString(r.Separator):
		return rule.ErrSeparator
	case using(r.Action, "p") && !isPattern(r.Pattern):
		return rule.ErrPattern
	case using(r.Action, "t") && !target:
		return rule.ErrTarget
	case !isTemplate(r.Replacement):
		return rule.ErrReplacement
	case using(r.Action, "m") && (r.Modulus <= 0 || r.Modulus > 2147483648):
		return rule.ErrModulus
	}
	return api.OK
}

// textOf is the text of a right rule by the chapter.
func textOf(r Rule) string {
	s := names[r.Action]
	for _, letter := range uses[r.Action] {
		switch letter {
		case 'f':
			s += " from=" + strings.Join(r.Sources, ",")
		case 's':
			s += " sep=" + hidden(r.Separator)
		case 'p':
			s += " match=" + hidden(r.Pattern)
		case 't':
			s += " to=" + hidden(r.Target)
		case 'r':
			s += " with=" + hidden(r.Replacement)
		case 'm':
			s += fmt.Sprint(" mod=", r.Modulus)
		}
	}
	return s
}

// hidden is a string as it stands in texts.
func hidden(s string) string {
	all := ""
	for i := range len(s) {
		if s[i] <= ' ' || s[i] == '%' || s[i] >= 127 {
			all += fmt.Sprintf("%%%02X", s[i])
		} else {
			all += s[i : i+1]
		}
	}
	return all
}

// The texts of rules by the chapter, with all values; and digits of bytes that need none.
var (
	texts    = textsOf()
	needless = regexp.MustCompile(`%(?:2[1-46-9A-F]|[3-6][0-9A-F]|7[0-9A-E])`)
)

func textsOf() []*regexp.Regexp {
	words := map[rune]string{'f': " from=([^ %]*)", 's': " sep=VALUE", 'p': " match=VALUE", 't': " to=VALUE", 'r': " with=VALUE", 'm': " mod=([1-9][0-9]{0,9})"}
	l := []*regexp.Regexp{regexp.MustCompile(`\Anothing at all\z.`)}
	for k := 1; k < len(names); k++ {
		s := names[k]
		for _, letter := range uses[k] {
			s += words[letter]
		}
		l = append(l, regexp.MustCompile(`\A`+strings.ReplaceAll(s, "VALUE", `((?:[!-$&-~]|%[0-9A-F]{2})*)`)+`\z`))
	}
	return l
}

// readOf is the right rule of which a string is the text, by the chapter, and true.
func readOf(s string) (Rule, bool) {
	for k, text := range texts {
		found := text.FindStringSubmatch(s)
		if found == nil || needless.MatchString(s) {
			continue
		}
		r := Rule{Action: uint8(k)}
		for i, letter := range uses[k] {
			value, err := url.PathUnescape(found[i+1])
			if err != nil {
				panic(err)
			}
			switch letter {
			case 'f':
				r.Sources = strings.Split(value, ",")
				if value == "" {
					r.Sources = nil
				}
			case 's':
				r.Separator = value
			case 'p':
				r.Pattern = value
			case 't':
				r.Target = value
			case 'r':
				r.Replacement = value
			case 'm':
				r.Modulus, _ = strconv.Atoi(value)
			}
		}
		return r, checked(r) == api.OK
	}
	return Rule{}, false
}

// isRight tells whether labels are right by the chapter of label.
func isRight(l api.Labels) bool {
	for i, x := range l {
		if !rightName.MatchString(x.Name) || x.Value == "" || len(x.Value) > 1024 || !utf8.ValidString(x.Value) || i > 0 && x.Name <= l[i-1].Name {
			return false
		}
	}
	return len(l) <= 64
}

// joinedOf is what is joined of labels by the chapter.
func joinedOf(r Rule, l api.Labels) string {
	s := ""
	for i, name := range r.Sources {
		if i > 0 {
			s += r.Separator
		}
		for _, x := range l {
			if x.Name == name {
				s += x.Value
			}
		}
	}
	return s
}

// The pieces of a template by its chapter, and words that are numbers.
var (
	pieces  = regexp.MustCompile(`(?s)\$\$|\$\{[0-9A-Za-z_]+\}|\$[0-9A-Za-z_]+|.`)
	numbers = regexp.MustCompile(`\A(?:0|[1-9][0-9]{0,2})\z`)
)

// expanded is what a template expands to with the ends of groups in a string.
func expanded(s, in string, ends []int) string {
	var all strings.Builder
	for _, piece := range pieces.FindAllString(s, -1) {
		word := strings.Trim(piece, "${}")
		switch {
		case piece == "$$":
			all.WriteString("$")
		case len(piece) == 1 || piece[0] != '$':
			all.WriteString(piece)
		case numbers.MatchString(word):
			k, _ := strconv.Atoi(word)
			if 2*k < len(ends) && ends[2*k] >= 0 {
				all.WriteString(in[ends[2*k]:ends[2*k+1]])
			}
		}
	}
	return all.String()
}

// library has the patterns of rules as regular expressions of the library.
var library sync.Map

func whole(pattern string) *regexp.Regexp {
	if x, known := library.Load(pattern); known {
		return x.(*regexp.Regexp)
	}
	x := regexp.MustCompile(`(?s)\A(?:` + pattern + `)\z`)
	library.Store(pattern, x)
	return x
}

// applied is what a rule makes of labels by the chapter.
func applied(r Rule, l api.Labels) (api.Labels, bool, api.Errno) {
	if e := checked(r); e != api.OK {
		return nil, false, e
	}
	if !isRight(l) {
		return nil, false, label.ErrLabels
	}
	values := map[string]string{}
	for _, x := range l {
		values[x.Name] = x.Value
	}
	joined, is := joinedOf(r, l), whole(r.Pattern).MatchString
	switch r.Action {
	case rule.Replace:
		ends := whole(r.Pattern).FindStringSubmatchIndex(joined)
		if ends == nil {
			break
		}
		name, value := expanded(r.Target, joined, ends), expanded(r.Replacement, joined, ends)
		if len(name) > 1024 || rightName.MatchString(name) && len(value) > 1024 {
			return nil, false, api.ErrLong
		}
		if rightName.MatchString(name) {
			values[name] = value
		}
	case rule.Keep, rule.Drop:
		if is(joined) != (r.Action == rule.Keep) {
			return nil, false, api.OK
		}
	case rule.HashMod:
		sum := md5.Sum([]byte(joined))
		values[r.Target] = fmt.Sprint(binary.BigEndian.Uint64(sum[8:]) % uint64(r.Modulus))
	case rule.LabelMap:
		for _, x := range l {
			ends := whole(r.Pattern).FindStringSubmatchIndex(x.Name)
			name := expanded(r.Replacement, x.Name, ends)
			if ends != nil && len(name) > 1024 {
				return nil, false, api.ErrLong
			}
			if ends != nil && rightName.MatchString(name) {
				values[name] = x.Value
			}
		}
	case rule.LabelDrop, rule.LabelKeep:
		for _, x := range l {
			if is(x.Name) == (r.Action == rule.LabelDrop) {
				delete(values, x.Name)
			}
		}
	case rule.Lowercase, rule.Uppercase:
		if len(joined) > 1024 {
			return nil, false, api.ErrLong
		}
		values[r.Target] = cased(joined, r.Action == rule.Lowercase)
	}
	return ordered(values)
}

// cased is a string in small letters, or in capital ones.
func cased(s string, small bool) string {
	for k := range 26 {
		from, to := string(rune('a'+k)), string(rune('A'+k))
		if small {
			from, to = to, from
		}
		s = strings.Join(strings.Split(s, from), to)
	}
	return s
}

// ordered are the labels of values, if they are not too many.
func ordered(values map[string]string) (api.Labels, bool, api.Errno) {
	var l api.Labels
	for name, value := range values {
		if value != "" {
			l = append(l, api.Label{Name: name, Value: value})
		}
	}
	if len(l) > 64 {
		return nil, false, api.ErrMany
	}
	sort.Slice(l, func(i, j int) bool { return l[i].Name < l[j].Name })
	return l, true, api.OK
}

// checkRule holds Check, Text, Read, New and Rule of a rule against the chapter.
func checkRule(t *testing.T, r Rule) {
	t.Helper()
	want := checked(r)
	if e := rule.Check(r); e != want {
		t.Fatalf("%s: Check is %d, not %d", shown(r), e, want)
	}
	s, e := rule.Text(r)
	x, f := rule.New(r)
	if e != want || f != want || (x == nil) != (want != api.OK) {
		t.Fatalf("%s: Text has %d, and New %d, %v; not %d", shown(r), e, f, x != nil, want)
	}
	if want != api.OK {
		if s != "" {
			t.Fatalf("%s: the text is %.100q together with an error", shown(r), s)
		}
		return
	}
	if text := textOf(r); s != text {
		t.Fatalf("%s: the text is %.300q, not %.300q", shown(r), s, text)
	}
	if again, e := rule.Read(s); !same(again, r) || e != api.OK {
		t.Fatalf("%.300q: %s %d, not %s", s, shown(again), e, shown(r))
	}
	if again := x.Rule(); !same(again, r) {
		t.Fatalf("%s: the rule is %s", shown(r), shown(again))
	}
}

// checkApply holds Apply and Join of a rule and labels against the chapter, and returns what Apply returned.
func checkApply(t *testing.T, r Rule, l api.Labels) (api.Labels, bool, api.Errno) {
	t.Helper()
	want, kept, wrong := applied(r, l)
	got, is, e := rule.Apply(r, l)
	if !slices.Equal(got, want) || is != kept || e != wrong {
		t.Fatalf("%s makes of %s: %s %t %d, not %s %t %d", shown(r), shown(l), shown(got), is, e, shown(want), kept, wrong)
	}
	if x, _ := rule.New(r); x != nil {
		got, is, e := x.Apply(l)
		if !slices.Equal(got, want) || is != kept || e != wrong {
			t.Fatalf("a Ready of %s makes of %s: %s %t %d, not %s %t %d", shown(r), shown(l), shown(got), is, e, shown(want), kept, wrong)
		}
	}
	joined, wrong := "", checked(r)
	switch {
	case wrong != api.OK:
	case !isRight(l):
		wrong = label.ErrLabels
	default:
		joined = joinedOf(r, l)
	}
	if s, f := rule.Join(r, l); s != joined || f != wrong {
		t.Fatalf("%s joins of %s: %.100q %d, not %.100q %d", shown(r), shown(l), s, f, joined, wrong)
	}
	if !isRight(got) {
		t.Fatalf("%s makes of %s: %s, which are not right", shown(r), shown(l), shown(got))
	}
	return got, is, e
}

// read returns the rule of a text.
func read(t *testing.T, s string) Rule {
	t.Helper()
	r, e := rule.Read(s)
	if want, is := readOf(s); !is || !same(r, want) || e != api.OK {
		t.Fatalf("%.300q: %s %d, not %s (%t)", s, shown(r), e, shown(want), is)
	}
	checkRule(t, r)
	return r
}

func TestConstants(t *testing.T) {
	if rule.Replace != 1 || rule.Keep != 2 || rule.Drop != 3 || rule.HashMod != 4 || rule.LabelMap != 5 || rule.LabelDrop != 6 || rule.LabelKeep != 7 || rule.Lowercase != 8 || rule.Uppercase != 9 {
		t.Error("actions")
	}
	if rule.MaxSources != 8 || rule.MaxSeparator != 16 || rule.MaxModulus != 2147483648 {
		t.Error("limits")
	}
	if rule.ErrAction != 120 || rule.ErrUnused != 121 || rule.ErrSource != 122 || rule.ErrSeparator != 123 || rule.ErrPattern != 124 || rule.ErrTarget != 125 || rule.ErrReplacement != 126 || rule.ErrModulus != 127 || rule.ErrText != 128 {
		t.Error("errors")
	}
}

// P12.1: the names of actions.
func TestName(t *testing.T) {
	for action := range 256 {
		want := ""
		if action < len(names) {
			want = names[action]
		}
		if s := rule.Name(uint8(action)); s != want {
			t.Errorf("%d has the name %q, not %q", action, s, want)
		}
		checkRule(t, Rule{Action: uint8(action)})
		checkRule(t, Rule{Action: uint8(action), Target: "a"})
		checkRule(t, Rule{Action: uint8(action), Target: "a", Modulus: 1})
	}
}

// P12.2 to P12.4: the examples of the chapter.
func TestExamples(t *testing.T) {
	host := Rule{Action: rule.Replace, Sources: []string{"__address__"}, Pattern: "([^:]+):.*", Target: "host", Replacement: "$1"}
	web := Rule{Action: rule.Keep, Sources: []string{"job", "instance"}, Separator: ";", Pattern: "web;.*"}
	for _, x := range []struct {
		r       Rule
		text    string
		l, want api.Labels
		kept    bool
	}{
		{host, "replace from=__address__ sep= match=([^:]+):.* to=host with=$1", of("__address__", "a:80"), of("__address__", "a:80", "host", "a"), true},
		{host, "replace from=__address__ sep= match=([^:]+):.* to=host with=$1", of("__address__", "a"), of("__address__", "a"), true},
		{web, "keep from=job,instance sep=; match=web;.*", of("instance", "x", "job", "web"), of("instance", "x", "job", "web"), true},
		{web, "keep from=job,instance sep=; match=web;.*", of("instance", "web", "job", "x"), nil, false},
		{Rule{Action: rule.HashMod, Target: "h", Modulus: 8}, "hashmod from= sep= to=h mod=8", nil, of("h", "6"), true},
		{Rule{Action: rule.HashMod, Target: "h", Modulus: 1 << 31}, "hashmod from= sep= to=h mod=2147483648", nil, of("h", strconv.Itoa(0xecf8427e&0x7fffffff)), true},
		{Rule{Action: rule.LabelMap, Pattern: "__meta_(.+)", Replacement: "m_$1"}, "labelmap match=__meta_(.+) with=m_$1", of("__meta_x", "1"), of("__meta_x", "1", "m_x", "1"), true},
		{Rule{Action: rule.Lowercase, Sources: []string{"A"}, Target: "b"}, "lowercase from=A sep= to=b", of("A", "XéY"), of("A", "XéY", "b", "xéy"), true},
	} {
		checkRule(t, x.r)
		if r := read(t, x.text); !same(r, x.r) {
			t.Errorf("%q: %s", x.text, shown(r))
		}
		if l, kept, e := checkApply(t, x.r, x.l); !slices.Equal(l, x.want) || kept != x.kept || e != api.OK {
			t.Errorf("%s makes of %v: %v %t %d, not %v %t", shown(x.r), x.l, l, kept, e, x.want, x.kept)
		}
	}
	if s, e := rule.Join(web, of("instance", "x", "job", "web")); s != "web;x" || e != api.OK {
		t.Errorf("%q %d is joined", s, e)
	}
}

// repeated returns a name k times.
func repeated(name string, k int) []string { return slices.Repeat([]string{name}, k) }

// What the fields of rules can be: right for all actions or for some, and wrong.
var (
	someSources      = [][]string{nil, {}, {"a"}, {"b", "a", "b"}, {""}, {"a", "1a"}, repeated("a", 8), repeated("a", 9), append(repeated("a", 8), "a-")}
	someSeparators   = []string{"", ";", "\xff"}
	somePatterns     = []string{"", "(.*)", "("}
	someTargets      = []string{"", "a", "$1", "a\xff"}
	someReplacements = []string{"", "$1", "\xff"}
	someModuli       = []int{0, 1, -1, 1 << 31, 1<<31 + 1}
)

// P12.1 and R2: each of these fields with each other.
func TestCheckAll(t *testing.T) {
	found := map[api.Errno]int{}
	for action := range uint8(11) {
		for _, names := range someSources {
			for _, separator := range someSeparators {
				for _, pattern := range somePatterns {
					for _, target := range someTargets {
						for _, replacement := range someReplacements {
							for _, modulus := range someModuli {
								r := Rule{action, names, separator, pattern, target, replacement, modulus}
								checkRule(t, r)
								found[checked(r)]++
							}
						}
					}
				}
			}
		}
	}
	for _, e := range []api.Errno{api.OK, api.ErrMany, 120, 121, 122, 123, 124, 125, 126, 127} {
		if found[e] < 10 {
			t.Errorf("%d rules have the error %d", found[e], e)
		}
	}
}

// P12.2, P12.3 and R2: the errors of Check go before those of labels.
func TestErrorsOfApply(t *testing.T) {
	wrong := []api.Labels{of("a", ""), of("b", "1", "a", "1"), of("a", "1", "a", "2"), of("1", "1"), of("", "1"), of("a", "\xff"), of("a", strings.Repeat("x", 1025)), of("a-", "x"), of("a", "1", "b", "\x80"), many("a", 65)}
	right := []api.Labels{nil, {}, of("a", "1"), of("a", "1", "b", "é"), of("a", strings.Repeat("x", 1024)), many("a", 64)}
	for action := range uint8(11) {
		for _, r := range []Rule{{Action: action}, {Action: action, Target: "a"}, {Action: action, Target: "a", Modulus: 9}, {Action: action, Sources: []string{"a"}, Target: "b"}, {Action: action, Pattern: "("}, {Action: action, Sources: []string{"a", ""}}, {Action: action, Sources: repeated("a", 9)}, {Action: action, Separator: "\xff"}, {Action: action, Replacement: "\xff"}, {Action: action, Modulus: 7}, {Action: action, Target: "\xff"}, {Action: action, Pattern: "b*", Replacement: "b"}} {
			for _, l := range append(slices.Clone(wrong), right...) {
				checkApply(t, r, l)
			}
		}
	}
}

// P12.1: fields at their limits, and beyond.
func TestLimits(t *testing.T) {
	a := func(k int) string { return strings.Repeat("a", k) }
	long := a(1 << 22)
	rules := 0
	both := func(action uint8, right, wrong Rule, e api.Errno) {
		t.Helper()
		right.Action, wrong.Action = action, action
		checkRule(t, right)
		checkRule(t, wrong)
		if f, g := rule.Check(right), rule.Check(wrong); f != api.OK || g != e {
			t.Errorf("%s and %s: %d and %d, not OK and %d", shown(right), shown(wrong), f, g, e)
		}
		rules++
	}
	for action := uint8(1); action <= 9; action++ {
		base := Rule{}
		if using(action, "t") {
			base.Target = "t"
		}
		if using(action, "m") {
			base.Modulus = 5
		}
		with := func(change func(r *Rule)) Rule {
			r := base
			change(&r)
			return r
		}
		from := func(l ...string) Rule { return with(func(r *Rule) { r.Sources = l }) }
		between := func(s string) Rule { return with(func(r *Rule) { r.Separator = s }) }
		matching := func(s string) Rule { return with(func(r *Rule) { r.Pattern = s }) }
		to := func(s string) Rule { return with(func(r *Rule) { r.Target = s }) }
		replaced := func(s string) Rule { return with(func(r *Rule) { r.Replacement = s }) }
		mod := func(k int) Rule { return with(func(r *Rule) { r.Modulus = k }) }
		if using(action, "f") {
			both(action, from(repeated("a", 8)...), from(repeated("a", 9)...), api.ErrMany)
			both(action, from(), from(repeated("", 9)...), api.ErrMany)
			both(action, from(a(128)), from(a(129)), rule.ErrSource)
			both(action, from("_", "Z", "job", "__name__", "a1", "job"), from("a", "b", "c", "d", "e", "f", "g", ""), rule.ErrSource)
			for _, s := range []string{"1", "a:b", "a-b", "é", "a,b", "a%", " a", "a ", "$a", "\xff", "a\n", long} {
				both(action, from("a"), from("a", s), rule.ErrSource)
				both(action, from("a"), from(s, "a"), rule.ErrSource)
			}
			both(action, between(a(16)), between(a(17)), rule.ErrSeparator)
			both(action, between(strings.Repeat("é", 8)), between(strings.Repeat("é", 8)+"a"), rule.ErrSeparator)
			both(action, between("\x00\n %,="), between(long), rule.ErrSeparator)
			for _, bad := range []string{"\xff", "\x80", "a\xc3", "\xed\xa0\x80", "\xc0\x80", "\xf4\x90\x80\x80"} {
				both(action, between("\U0010ffff"), between(bad), rule.ErrSeparator)
			}
		}
		if using(action, "p") {
			both(action, matching(""), matching("("), rule.ErrPattern)
			both(action, matching(a(999)), matching(a(1000)), rule.ErrPattern)
			both(action, matching("["+a(1022)+"]"), matching("["+a(1023)+"]"), rule.ErrPattern)
			both(action, matching("(?:x{100}){9}"), matching("(?:x{100}){10}"), rule.ErrPattern)
			both(action, matching(strings.Repeat("(a)", 30)), matching(strings.Repeat("(a)", 31)), rule.ErrPattern)
			for _, bad := range []string{"\xff", "(a*)*", "a**", "^a", "a$", "(?i)a", "]", "a{2,1}", long, strings.Repeat("(", 2000)} {
				both(action, matching("a|b*"), matching(bad), rule.ErrPattern)
			}
		}
		if action == rule.Replace {
			both(action, to("$"), to(""), rule.ErrTarget)
			both(action, to("a-b"), to("\xff"), rule.ErrTarget)
			both(action, to(a(1024)), to(a(1025)), rule.ErrTarget)
			both(action, to(strings.Repeat("$1", 512)), to(strings.Repeat("$1", 513)), rule.ErrTarget)
			both(action, to("1"), to(long), rule.ErrTarget)
		} else if using(action, "t") {
			both(action, to(a(128)), to(a(129)), rule.ErrTarget)
			for _, bad := range []string{"", "1", "$1", "a-", "a:b", "é", "\xff", long} {
				both(action, to("_A1"), to(bad), rule.ErrTarget)
			}
		}
		if using(action, "r") {
			both(action, replaced(""), replaced("\xff"), rule.ErrReplacement)
			both(action, replaced(a(1024)), replaced(a(1025)), rule.ErrReplacement)
			both(action, replaced("$1${x}$"), replaced("a\xe2\x82"), rule.ErrReplacement)
			both(action, replaced(strings.Repeat("é", 512)), replaced(long), rule.ErrReplacement)
		}
		if using(action, "m") {
			both(action, mod(1), mod(0), rule.ErrModulus)
			both(action, mod(1<<31), mod(1<<31+1), rule.ErrModulus)
			both(action, mod(1<<31-1), mod(-1), rule.ErrModulus)
			both(action, mod(1<<31-1), mod(math.MinInt), rule.ErrModulus)
			both(action, mod(1<<31-1), mod(math.MaxInt), rule.ErrModulus)
			both(action, mod(7), mod(1<<32+7), rule.ErrModulus)
		}
		// Fields that are not used: the same error whatever they are.
		for _, letter := range "fsptrm" {
			if using(action, string(letter)) {
				continue
			}
			for _, s := range []string{"a", "$1", "(", "\xff"} {
				unused := map[rune]Rule{'f': from(s), 's': between(s), 'p': matching(s), 't': to(s), 'r': replaced(s), 'm': mod(-1)}[letter]
				both(action, from(), unused, rule.ErrUnused)
			}
			unused := map[rune]Rule{'f': from(repeated("", 9)...), 's': between(long), 'p': matching(long), 't': to(long), 'r': replaced(long), 'm': mod(1)}[letter]
			both(action, from(), unused, rule.ErrUnused)
		}
		both(action, with(func(r *Rule) { r.Sources = []string{} }), from(repeated("a", 100000)...), map[bool]api.Errno{true: api.ErrMany, false: rule.ErrUnused}[using(action, "f")])
	}
	if rules < 200 {
		t.Error("only", rules)
	}
}

// P12.2: what is joined.
func TestJoin(t *testing.T) {
	l := of("a", "1", "b", "é", "c", ";")
	for _, x := range []struct {
		names     []string
		separator string
		want      string
	}{
		{nil, ";", ""}, {nil, "", ""}, {[]string{"a"}, ";", "1"}, {[]string{"x"}, ";", ""}, {[]string{"a", "b"}, ";", "1;é"}, {[]string{"b", "a"}, ";", "é;1"}, {[]string{"a", "b"}, "", "1é"}, {[]string{"a", "x", "b"}, "-", "1--é"}, {[]string{"x", "x"}, "€", "€"}, {[]string{"x", "x", "y"}, "ab", "abab"}, {[]string{"a", "a", "a"}, " ", "1 1 1"}, {[]string{"c", "c"}, ";", ";;;"}, {repeated("b", 8), ";", "é;é;é;é;é;é;é;é"}, {[]string{"A"}, "", ""}, {repeated("x", 8), "", ""},
	} {
		for action := uint8(1); action <= 9; action++ {
			r, want := Rule{Action: action}, ""
			if using(action, "f") {
				r.Sources, r.Separator, want = x.names, x.separator, x.want
			}
			if using(action, "t") {
				r.Target = "t"
			}
			if using(action, "m") {
				r.Modulus = 3
			}
			if s, e := rule.Join(r, l); s != want || e != api.OK {
				t.Errorf("%v with %q: %q %d, not %q", x.names, x.separator, s, e, want)
			}
			checkApply(t, r, l)
		}
	}
	// The longest one, and the longest one that a pattern matches.
	full := of("a", strings.Repeat("x", 1024), "b", strings.Repeat("é", 512))
	r := Rule{Action: rule.Keep, Sources: []string{"a", "b", "a", "b", "a", "b", "a", "b"}, Separator: strings.Repeat("-", 16), Pattern: "((x+|é+)-*)*"}
	if s, e := rule.Join(r, full); len(s) != 8*1024+7*16 || e != api.OK {
		t.Errorf("%d bytes, %d", len(s), e)
	}
	if l, kept, e := checkApply(t, r, full); !slices.Equal(l, full) || !kept || e != api.OK {
		t.Errorf("%s %t %d", shown(l), kept, e)
	}
}

// P12.3: what each action does.
func TestApply(t *testing.T) {
	for _, x := range []struct {
		text    string
		l, want api.Labels
		kept    bool
	}{
		// Replace: what matches, and what is set.
		{"replace from=a,b sep=; match=(.*);(.*) to=c with=$2-$1", of("a", "1", "b", "2"), of("a", "1", "b", "2", "c", "2-1"), true},
		{"replace from=a sep= match=(.*) to=a with=x$1", of("a", "1"), of("a", "x1"), true},
		{"replace from=a sep= match=(.*) to=b with=x$1", of("a", "1", "b", "2", "c", "3"), of("a", "1", "b", "x1", "c", "3"), true},
		{"replace from=a sep= match=1 to=b with=x", of("a", "11"), of("a", "11"), true},
		{"replace from=a sep= match=1 to=b with=x", of("a", "21"), of("a", "21"), true},
		{"replace from=a sep= match= to=b with=x", of("c", "1"), of("b", "x", "c", "1"), true},
		{"replace from= sep= match= to=b with=x", nil, of("b", "x"), true},
		{"replace from= sep= match=a to=b with=x", nil, nil, true},
		{"replace from=a sep= match=.* to=a with=", of("a", "1", "b", "2"), of("b", "2"), true},
		{"replace from=a sep= match=.* to=a with=$1$x", of("a", "1", "b", "2"), of("b", "2"), true},
		{"replace from=a sep= match=.* to=none with=", of("a", "1", "b", "2"), of("a", "1", "b", "2"), true},
		{"replace from=a sep= match=.* to=b with=$0%20%25%C3%A9$$", of("a", "1"), of("a", "1", "b", "1 %é$"), true},
		{"replace from=a sep= match=(x)|(y) to=b with=[$1][$2]", of("a", "y"), of("a", "y", "b", "[][y]"), true},
		{"replace from=a sep= match=.%0A. to=b with=x", of("a", "1\n2"), of("a", "1\n2", "b", "x"), true},
		// Replace: targets that expand.
		{"replace from=a sep= match=(.*) to=$1 with=v", of("a", "x"), of("a", "x", "x", "v"), true},
		{"replace from=a sep= match=(.*) to=$1 with=v", of("a", "x-"), of("a", "x-"), true},
		{"replace from=a sep= match=(.*) to=$1 with=v", of("a", "é"), of("a", "é"), true},
		{"replace from=a sep= match=(.*) to=$1 with=v", of("a", "1x"), of("a", "1x"), true},
		{"replace from=a sep= match=(.*) to=_$1 with=v", of("a", "1x"), of("_1x", "v", "a", "1x"), true},
		{"replace from=a sep= match=(.*) to=$2 with=v", of("a", "1x"), of("a", "1x"), true},
		{"replace from=a sep= match=(.*) to=$x with=v", of("a", "1x"), of("a", "1x"), true},
		{"replace from=a,b sep=_ match=(.*)_(.*) to=${1}_$2 with=$0", of("a", "x", "b", "y"), of("a", "x", "b", "y", "x_y", "x_y"), true},
		{"replace from=a sep= match=(.*) to=$1 with=", of("a", "b", "b", "2"), of("a", "b"), true},
		{"replace from=a sep= match=(.*) to=a-b with=v", of("a", "b"), of("a", "b"), true},
		{"replace from=a sep= match=(.*) to=$$ with=v", of("a", "b"), of("a", "b"), true},
		{"replace from=a sep= match=(.*) to=$1" + strings.Repeat("b", 127) + " with=v", of("a", "b"), of("a", "b"), true},
		{"replace from=a sep= match=(.*) to=${1}" + strings.Repeat("b", 127) + " with=v", of("a", "b"), of("a", "b", strings.Repeat("b", 128), "v"), true},
		{"replace from=a sep= match=(.*) to=${1}" + strings.Repeat("b", 128) + " with=v", of("a", "b"), of("a", "b"), true},
		// Keep and Drop.
		{"keep from=a sep= match=x|y", of("a", "x", "b", "1"), of("a", "x", "b", "1"), true},
		{"keep from=a sep= match=x|y", of("a", "xy"), nil, false},
		{"keep from=a sep= match=x|y", nil, nil, false},
		{"keep from=a sep= match=", nil, nil, true},
		{"keep from= sep= match=.*", of("a", "1"), of("a", "1"), true},
		{"keep from=a,b sep=, match=1,2", of("a", "1", "b", "2"), of("a", "1", "b", "2"), true},
		{"drop from=a sep= match=x|y", of("a", "x", "b", "1"), nil, false},
		{"drop from=a sep= match=x|y", of("a", "xy"), of("a", "xy"), true},
		{"drop from=a sep= match=x|y", nil, nil, true},
		{"drop from=a sep= match=", nil, nil, false},
		{"drop from=a sep= match=", of("a", "1"), of("a", "1"), true},
		{"drop from=a,b sep= match=12", of("a", "1", "b", "2"), nil, false},
		// HashMod.
		{"hashmod from=a sep= to=h mod=1", of("a", "x"), of("a", "x", "h", "0"), true},
		{"hashmod from=a sep= to=a mod=1", of("a", "x"), of("a", "0"), true},
		{"hashmod from= sep= to=h mod=16", of("a", "x"), of("a", "x", "h", "14"), true},
		{"hashmod from=x sep= to=h mod=16", of("a", "x"), of("a", "x", "h", "14"), true},
		{"hashmod from=x,y sep= to=h mod=256", of("a", "x"), of("a", "x", "h", "126"), true},
		// LabelMap.
		{"labelmap match=(.)x with=$1", of("ax", "1", "bx", "2", "x", "3"), of("a", "1", "ax", "1", "b", "2", "bx", "2", "x", "3"), true},
		{"labelmap match=(.).* with=$1", of("a1", "1", "a2", "2", "a3", "3"), of("a", "3", "a1", "1", "a2", "2", "a3", "3"), true},
		{"labelmap match=a with=b", of("a", "1", "b", "2"), of("a", "1", "b", "1"), true},
		{"labelmap match=(a|b) with=${1}b", of("a", "1", "ab", "2", "b", "3"), of("a", "1", "ab", "1", "b", "3", "bb", "3"), true},
		{"labelmap match=a(.*) with=$1", of("a", "1", "aa", "2", "aaa", "3"), of("a", "2", "aa", "3", "aaa", "3"), true},
		{"labelmap match=(.*) with=7$1", of("a", "1"), of("a", "1"), true},
		{"labelmap match=(.*) with=a-$1", of("a", "1"), of("a", "1"), true},
		{"labelmap match=(.*) with=$0", of("a", "1", "b", "2"), of("a", "1", "b", "2"), true},
		{"labelmap match=(.*) with=", of("a", "1"), of("a", "1"), true},
		{"labelmap match= with=x", of("a", "1"), of("a", "1"), true},
		{"labelmap match=.* with=x", of("a", "1", "b", "2"), of("a", "1", "b", "2", "x", "2"), true},
		{"labelmap match=.* with=x", nil, nil, true},
		{"labelmap match=(.*) with=" + strings.Repeat("b", 127) + "$1", of("a", "1", "cc", "2"), of("a", "1", strings.Repeat("b", 127)+"a", "1", "cc", "2"), true},
		// LabelDrop and LabelKeep.
		{"labeldrop match=a.*", of("a", "1", "ab", "2", "b", "3", "ba", "4"), of("b", "3", "ba", "4"), true},
		{"labelkeep match=a.*", of("a", "1", "ab", "2", "b", "3", "ba", "4"), of("a", "1", "ab", "2"), true},
		{"labeldrop match=.*", of("a", "1", "b", "2"), nil, true},
		{"labelkeep match=.*", of("a", "1", "b", "2"), of("a", "1", "b", "2"), true},
		{"labeldrop match=", of("a", "1", "b", "2"), of("a", "1", "b", "2"), true},
		{"labelkeep match=", of("a", "1", "b", "2"), nil, true},
		{"labelkeep match=a|b", nil, nil, true},
		// Lowercase and Uppercase.
		{"lowercase from=a sep= to=b", of("a", "AZaz@[`{é09É"), of("a", "AZaz@[`{é09É", "b", "azaz@[`{é09É"), true},
		{"uppercase from=a sep= to=b", of("a", "AZaz@[`{é09É"), of("a", "AZaz@[`{é09É", "b", "AZAZ@[`{é09É"), true},
		{"lowercase from=a,b sep=-X- to=a", of("a", "A", "b", "B"), of("a", "a-x-b", "b", "B"), true},
		{"uppercase from=a,b sep=-x- to=a", of("a", "a", "b", "b"), of("a", "A-X-B", "b", "b"), true},
		{"lowercase from=none sep= to=a", of("a", "X", "b", "Y"), of("b", "Y"), true},
		{"uppercase from= sep= to=a", of("a", "x", "b", "y"), of("b", "y"), true},
		{"uppercase from=b,b sep=; to=c", of("a", "x"), of("a", "x", "c", ";"), true},
	} {
		if l, kept, e := checkApply(t, read(t, x.text), x.l); !slices.Equal(l, x.want) || kept != x.kept || e != api.OK {
			t.Errorf("%q makes of %v: %v %t %d, not %v %t", x.text, x.l, l, kept, e, x.want, x.kept)
		}
	}
}

// P12.3: each code point in small and in capital letters.
func TestLetters(t *testing.T) {
	for c := rune(1); c <= utf8.MaxRune; c++ {
		if c > 0x3000 && c%997 > 0 || !utf8.ValidRune(c) {
			continue
		}
		l := of("a", string(c)+"-"+string(c))
		checkApply(t, Rule{Action: rule.Lowercase, Sources: []string{"a"}, Target: "b"}, l)
		checkApply(t, Rule{Action: rule.Uppercase, Sources: []string{"a"}, Target: "b"}, l)
	}
}

// checkLong holds Apply against an error, or against a label that it sets.
func checkLong(t *testing.T, text string, l api.Labels, name, value string, wrong api.Errno) {
	t.Helper()
	r := read(t, text)
	got, kept, e := checkApply(t, r, l)
	if e != wrong || kept != (e == api.OK) || kept && label.Get(got, name) != value {
		t.Errorf("%.100q makes of %s: %s %t %d, not %.20q=%.20q %d", text, shown(l), shown(got), kept, e, name, value, wrong)
	}
}

// P12.3 and R2: what is too long, and in which order it is looked at.
func TestTooLong(t *testing.T) {
	a := func(k int) string { return strings.Repeat("a", k) }
	l := of("b", a(1023), "c", a(1024), "k", a(128))
	// Replacements, and targets before them.
	checkLong(t, "replace from=b sep= match=(.*) to=x with=-$1", l, "x", "-"+a(1023), api.OK)
	checkLong(t, "replace from=c sep= match=(.*) to=x with=-$1", l, "", "", api.ErrLong)
	checkLong(t, "replace from=c,b sep= match=(.*) to=x with=$1", l, "", "", api.ErrLong)
	checkLong(t, "replace from=c,b sep= match=(.*) to=x with=v", l, "x", "v", api.OK)
	checkLong(t, "replace from=c,b sep= match=(b*) to=x with=v$1", l, "x", "", api.OK)
	checkLong(t, "replace from=b sep= match=(.*) to=1${1} with=$1$1", l, "", "", api.OK)
	checkLong(t, "replace from=c sep= match=(.*) to=$1 with=$1$1", l, "", "", api.OK)
	checkLong(t, "replace from=c sep= match=(.*) to=-${1} with=$1$1", l, "", "", api.ErrLong)
	checkLong(t, "replace from=b sep= match=(.*) to=-${1} with=$1$1", l, "-"+a(1023), "", api.OK)
	checkLong(t, "replace from=b sep= match=(.*) to=x-y with=$1$1", l, "x", "", api.OK)
	checkLong(t, "replace from=b sep= match=(.*) to=$2 with=$1$1", l, "x", "", api.OK)
	checkLong(t, "replace from=k sep= match=(.*) to=$1 with=$1$1$1$1$1$1$1$1", l, a(128), strings.Repeat(a(128), 8), api.OK)
	checkLong(t, "replace from=k sep= match=(.*) to=$1 with=$1$1$1$1$1$1$1$1-", l, "", "", api.ErrLong)
	checkLong(t, "replace from=k sep= match=(.*) to=${1}x with=$1$1$1$1$1$1$1$1-", l, "", "", api.OK)
	// What a pattern does not match is not expanded.
	checkLong(t, "replace from=c sep= match=b* to=$0$0 with=$0$0", l, "x", "", api.OK)
	// Names of labels.
	checkLong(t, "labelmap match=(.*) with=$1$1$1$1$1$1$1$1", l, "bbbbbbbb", a(1023), api.OK)
	checkLong(t, "labelmap match=(.*) with=$1$1$1$1$1$1$1${1}b", l, "", "", api.OK)
	checkLong(t, "labelmap match=(.*) with=$1$1$1$1$1$1$1$1b", l, "", "", api.OK)
	checkLong(t, "labelmap match=(.*) with=$1$1$1$1$1$1$1$1-", l, "", "", api.OK)
	long := of("b", "1", strings.Repeat("c", 128), "2", "d", "3")
	checkLong(t, "labelmap match=(.*) with=$1$1$1$1$1$1$1${1}", long, "bbbbbbbb", "1", api.OK)
	checkLong(t, "labelmap match=(.*) with=$1$1$1$1$1$1$1${1}_", long, "", "", api.ErrLong)
	checkLong(t, "labelmap match=(c*) with=1$1$1$1$1$1$1$1${1}", long, "", "", api.ErrLong)
	checkLong(t, "labelmap match=(b|d) with=$1$1$1$1$1$1$1${1}_", long, "bbbbbbbb_", "1", api.OK)
	// What is joined.
	for _, name := range []string{"lowercase", "uppercase"} {
		change := map[string]func(string) string{"lowercase": strings.ToLower, "uppercase": strings.ToUpper}[name]
		checkLong(t, name+" from=b,x sep=B to=x", l, "x", change(a(1023)+"B"), api.OK)
		checkLong(t, name+" from=c,x sep=B to=x", l, "", "", api.ErrLong)
		checkLong(t, name+" from=c,x sep= to=x", l, "x", change(a(1024)), api.OK)
		checkLong(t, name+" from=b,x sep=%C3%A9 to=x", l, "", "", api.ErrLong)
		checkLong(t, name+" from=b,b,b,b,b,b,b,b sep=---------------- to=x", l, "", "", api.ErrLong)
	}
	checkLong(t, "hashmod from=c,c,c,c,c,c,c,c sep=---------------- to=x mod=1", l, "x", "0", api.OK)
}

// P12.3 and R2: labels that become too many, after all that is too long.
func TestTooMany(t *testing.T) {
	full := many("k", 64)
	most := many("k", 63)
	for _, x := range []struct {
		text string
		e    api.Errno
	}{
		{"replace from=k000 sep= match=v to=x with=y", api.ErrMany}, {"replace from=k000 sep= match=v to=k063 with=y", api.OK}, {"replace from=k000 sep= match=v to=x with=", api.OK}, {"replace from=k000 sep= match=w to=x with=y", api.OK}, {"replace from=k000 sep= match=v to=x-y with=y", api.OK}, {"replace from=k000,k001 sep= match=.* to=x with=" + strings.Repeat("$0", 512), api.ErrMany}, {"replace from=k000,k001,k002 sep= match=.* to=x with=" + strings.Repeat("$0", 512), api.ErrLong},
		{"keep from=k000 sep= match=v", api.OK}, {"drop from=k000 sep= match=w", api.OK},
		{"hashmod from= sep= to=x mod=7", api.ErrMany}, {"hashmod from= sep= to=k000 mod=7", api.OK},
		{"labelmap match=(.*) with=$1", api.OK}, {"labelmap match=(.*)1 with=x$1", api.ErrMany}, {"labelmap match=k063 with=k000", api.OK}, {"labelmap match=k063 with=k064", api.ErrMany}, {"labelmap match=k064 with=k065", api.OK}, {"labelmap match=k000 with=1", api.OK}, {"labelmap match=.* with=x", api.ErrMany}, {"labelmap match=(.*) with=" + strings.Repeat("$1", 300), api.ErrLong},
		{"labeldrop match=", api.OK}, {"labelkeep match=.*", api.OK},
		{"lowercase from=k000 sep= to=x", api.ErrMany}, {"lowercase from=k000 sep= to=k000", api.OK}, {"lowercase from=x sep= to=x", api.OK}, {"lowercase from=k000 sep= to=k064", api.ErrMany}, {"uppercase from=k000 sep= to=x", api.ErrMany}, {"uppercase from=k000,k001 sep= to=k063", api.OK}, {"uppercase from=x sep= to=k001", api.OK},
	} {
		r := read(t, x.text)
		if l, kept, e := checkApply(t, r, full); e != x.e || kept != (e == api.OK) {
			t.Errorf("%q: %s %t %d, not %d", x.text, shown(l), kept, e, x.e)
		}
		checkApply(t, r, most)
		checkApply(t, r, nil)
	}
	// Too long goes first, wherever it stands.
	l := append(slices.Clone(full[:63]), api.Label{Name: strings.Repeat("z", 128), Value: "v"})
	checkLong(t, "labelmap match=(k.*|z*) with=x$1$1$1$1$1$1$1$1$1", l, "", "", api.ErrLong)
	checkLong(t, "labelmap match=(k.*|z*) with=x$1$1$1$1$1$1$1", l, "", "", api.ErrMany)
	values := api.Labels{{Name: "a", Value: strings.Repeat("a", 1024)}}
	checkLong(t, "uppercase from=a,a sep= to=x", append(values, full[:63]...), "", "", api.ErrLong)
	checkLong(t, "uppercase from=a sep= to=x", append(values, full[:63]...), "", "", api.ErrMany)
}

// anyOf returns one of some things.
func anyOf[E any](r *rand.Rand, l []E) E { return l[r.Intn(len(l))] }

// anyText returns at most k of some pieces, one after the other.
func anyText(r *rand.Rand, k int, pieces ...string) string {
	s := ""
	for range r.Intn(k + 1) {
		s += anyOf(r, pieces)
	}
	return s
}

// someNames are names that rules and labels have.
var someNames = []string{"a", "b", "ab", "A", "_", "a1", "job", "__address__", "x"}

// anyTarget returns a name, or, for Replace, a template.
func anyTarget(r *rand.Rand, action uint8) string {
	if action != rule.Replace || r.Intn(2) == 0 {
		return anyOf(r, someNames)
	}
	return anyText(r, 4, "$1", "$2", "${1}", "${0}", "$$", "_", "a", "job", "-", "$x") + anyOf(r, []string{"a", "$1", "$0", "${2}", "_"})
}

// anyRule returns a rule that is right.
func anyRule(r *rand.Rand) Rule {
	x := Rule{Action: uint8(1 + r.Intn(9))}
	if using(x.Action, "f") {
		for range r.Intn(4) {
			x.Sources = append(x.Sources, anyOf(r, someNames))
		}
		x.Separator = anyText(r, 3, ";", "-", "a", "é", " ", "%", "\n", "\x00", "\x7f", "~", ",", "=")
	}
	if using(x.Action, "p") {
		x.Pattern = anyOf(r, []string{"", "", ".*", "(.*)", "a", "x"}) + anyText(r, 4, "(a*)", "(a|b)", "(.)?", ".", "b?", "[^;]*", "(?:x|(y))*", `\d`, "_*", "é", "(.*?)", "%", " ")
	}
	if using(x.Action, "t") {
		x.Target = anyTarget(r, x.Action)
	}
	if using(x.Action, "r") && r.Intn(3) == 0 {
		x.Replacement = anyText(r, 2, "a", "b", "_") + "$1"
	} else if using(x.Action, "r") {
		x.Replacement = anyText(r, 4, "$1", "$2", "${1}", "$0", "$$", "${x}", "a", "b", "_", "-", "é", " ", "%", "\t", "1")
	}
	if using(x.Action, "m") {
		x.Modulus = anyOf(r, []int{1, 2, 7, 8, 100, 1 << 16, 1<<31 - 1, 1 << 31, 1 + r.Intn(1<<31)})
	}
	return x
}

// anyLabels returns labels, which are nearly always right.
func anyLabels(r *rand.Rand) api.Labels {
	var l api.Labels
	for _, name := range []string{"A", "_", "__address__", "a", "a1", "ab", "b", "job", "x"} {
		if r.Intn(2) == 0 {
			l = append(l, api.Label{Name: name, Value: anyOf(r, []string{"a", "b", "x", "é", "1"}) + anyText(r, 3, "a", "b", "A", "x", "y", ";", "-", ":80", "é", "_", "1", " ", "\n")})
		}
	}
	if r.Intn(50) == 0 {
		l = append(l, api.Label{Name: "a", Value: anyOf(r, []string{"a", "", "\xff"})})
	}
	return l
}

// P12.1 to P12.6: many rules and labels, against the chapter.
func TestAgainstDefinition(t *testing.T) {
	r := rand.New(rand.NewSource(121))
	known := map[string]Rule{}
	type sort struct {
		action  uint8
		changed bool
		kept    bool
		e       api.Errno
	}
	found := map[sort]int{}
	for range 60000 {
		x, l := anyRule(r), anyLabels(r)
		checkRule(t, x)
		got, kept, e := checkApply(t, x, l)
		found[sort{x.Action, !slices.Equal(got, l), kept, e}]++
		text, _ := rule.Text(x)
		if before, is := known[text]; is && !same(before, x) {
			t.Fatalf("%q is the text of %s and of %s", text, shown(before), shown(x))
		}
		known[text] = x
		checkConsequences(t, x, l, got, kept, e)
	}
	for action := uint8(1); action <= 9; action++ {
		dropping := action == rule.Keep || action == rule.Drop
		if found[sort{action, true, !dropping, api.OK}] < 500 || found[sort{action, false, true, api.OK}] < 5 || found[sort{action, true, false, label.ErrLabels}] < 20 {
			t.Errorf("too few of one sort: %v", found)
		}
	}
}

// checkConsequences holds what Apply returned against P12.6.
func checkConsequences(t *testing.T, x Rule, l, got api.Labels, kept bool, e api.Errno) {
	t.Helper()
	if e != api.OK {
		return
	}
	other := x
	switch x.Action {
	case rule.Keep, rule.Drop:
		other.Action = rule.Keep + rule.Drop - x.Action
		again, is, f := checkApply(t, other, l)
		if is == kept || f != api.OK || is && !slices.Equal(again, l) || kept && !slices.Equal(got, l) {
			t.Fatalf("%s and %s keep %s: %t %t", shown(x), shown(other), shown(l), kept, is)
		}
	case rule.LabelDrop, rule.LabelKeep:
		other.Action = rule.LabelDrop + rule.LabelKeep - x.Action
		rest, _, _ := checkApply(t, other, l)
		if all, f := label.Merge(got, rest); !slices.Equal(all, l) || f != api.OK || len(got)+len(rest) != len(l) {
			t.Fatalf("%s leaves of %s: %s, and the other %s", shown(x), shown(l), shown(got), shown(rest))
		}
	case rule.LabelMap:
	default:
		changed := func(name string) bool { return label.Get(got, name) != label.Get(l, name) }
		if slices.ContainsFunc(x.Sources, changed) {
			return
		}
		if again, is, f := checkApply(t, x, got); !slices.Equal(again, got) || !is || f != api.OK {
			t.Fatalf("%s makes of %s: %s, and of these %s", shown(x), shown(l), shown(got), shown(again))
		}
	}
}

// P12.4: strings with all bytes, and their texts.
func TestTextsOfBytes(t *testing.T) {
	for c := range rune(0x300) {
		for _, s := range []string{string(c), "a" + string(c), string(c) + "1", "%" + string(c), string(c) + "%", "%2" + string(c), string(c) + string(c) + "0"} {
			r := Rule{Action: rule.Replace, Separator: s, Target: s, Replacement: s}
			checkRule(t, r)
			if isPattern(s) {
				r.Pattern = s
				checkRule(t, r)
				checkRule(t, Rule{Action: rule.LabelMap, Pattern: s, Replacement: s})
			}
		}
	}
	if s, _ := rule.Text(Rule{Action: rule.LabelMap, Replacement: "\x00\x1f !%&~\x7f\u0080é€"}); s != "labelmap match= with=%00%1F%20!%25&~%7F%C2%80%C3%A9%E2%82%AC" {
		t.Errorf("%q", s)
	}
}

// checkText holds Read of a string against the chapter.
func checkText(t *testing.T, s string) {
	t.Helper()
	want, is := readOf(s)
	wrong := rule.ErrText
	if is {
		wrong = api.OK
	} else {
		want = Rule{}
	}
	if r, e := rule.Read(s); !same(r, want) || e != wrong {
		t.Fatalf("%.300q: %s %d, not %s %d", s, shown(r), e, shown(want), wrong)
	}
	if is && textOf(want) != s {
		t.Fatalf("%q is read as %s", s, shown(want))
	}
}

// P12.4: strings that are no texts of rules.
func TestWrongTexts(t *testing.T) {
	for _, s := range []string{
		"", " ", "replace", "Keep", "KEEP from= sep= match=", "nothing", "nothing match=", "labeldrop", "labeldrop ", "labeldrop match", "labeldropmatch=", "labeldrop  match=", " labeldrop match=", "labeldrop match= ", "labeldrop match==\n", "labeldrop match=a b", "labeldrop match=a match=a", "labeldrop MATCH=a", "labeldrop from= sep= match=a", "labeldrop with=a", "labeldrop match:a", "labeldrop =a", "labeldrop\tmatch=a", "labeldrop match=a\n", "labeldrop match=a\x00", "labeldrop match=(", "labeldrop match=é", "labeldrop match=\xff",
		"keep from= sep= match", "keep sep= from= match=", "keep from= match= sep=", "keep from= sep=", "keep from=, sep= match=", "keep from=a, sep= match=", "keep from=,a sep= match=", "keep from=a,,b sep= match=", "keep from=1 sep= match=", "keep from=a-b sep= match=", "keep from=%61 sep= match=", "keep from=a%2Cb sep= match=", "keep from=a,a,a,a,a,a,a,a,a sep= match=", "keep from=a b sep= match=", "keep from== sep= match=", "keep from= sep= match= to=", "keep from= sep=12345678901234567 match=",
		"labelmap match= with=%", "labelmap match= with=%2", "labelmap match= with=%%", "labelmap match= with=%2%", "labelmap match= with=%25%", "labelmap match= with=%25%2", "labelmap match= with=%c3%a9", "labelmap match= with=%C3%a9", "labelmap match= with=%0a", "labelmap match= with=%0G", "labelmap match= with=%G0", "labelmap match= with=%FF", "labelmap match= with=%C3", "labelmap match= with=%41", "labelmap match= with=%21", "labelmap match= with=%7E", "labelmap match= with=%+1", "labelmap match= with=%-1", "labelmap match= with=% 1", "labelmap match= with=%zz", "labelmap match= with=%ED%A0%80",
		"hashmod from= sep= to=a mod=", "hashmod from= sep= to=a mod=0", "hashmod from= sep= to=a mod=01", "hashmod from= sep= to=a mod=+1", "hashmod from= sep= to=a mod=-1", "hashmod from= sep= to=a mod=1.0", "hashmod from= sep= to=a mod=1e1", "hashmod from= sep= to=a mod=0x1", "hashmod from= sep= to=a mod=1_0", "hashmod from= sep= to=a mod=2147483649", "hashmod from= sep= to=a mod=18446744073709551617", "hashmod from= sep= to=a mod=%31", "hashmod from= sep= to=a mod=a", "hashmod from= sep= to= mod=1", "hashmod from= sep= to=$1 mod=1", "hashmod from= sep= to=%61 mod=1", "hashmod from= sep= to=a mod= 1", "hashmod from= sep= to=a mod=1 ", "hashmod from= sep= match= to=a mod=1",
		"replace from= sep= match= to= with=", "lowercase from= sep= to=", "uppercase from= sep= to=a-", "lowercase from= sep=", "lowercase from= sep= to=a with=", "replace from= sep= match= to=a", "replace from= sep= to=a with=", "replace from= sep= match= to=a with= mod=1",
	} {
		if _, is := readOf(s); is {
			t.Fatalf("%q is a text", s)
		}
		checkText(t, s)
	}
	for _, s := range []string{"labeldrop match==", "labeldrop match=match=a", "keep from= sep== match==", "keep from=a,b,c,d,e,f,g,h sep=,,%20 match=", "labelmap match= with=%20%25%00%7F", "labelmap match= with=from=a", "hashmod from= sep= to=a mod=2147483648", "hashmod from= sep=%25 to=a mod=10"} {
		read(t, s)
	}
	for _, s := range []string{strings.Repeat("a", 1<<24), "labeldrop match=" + strings.Repeat("a", 1<<24), "keep from=" + strings.Repeat(",", 1<<24) + " sep= match=", "keep from=" + strings.Repeat("a,", 1<<22) + "a sep= match=", "hashmod from= sep= to=a mod=" + strings.Repeat("1", 1<<22), "labelmap match= with=" + strings.Repeat("%25", 1<<22), strings.Repeat(" ", 1<<24), "labelmap match= with=" + strings.Repeat("%", 1<<22), "keep from= sep= match=" + strings.Repeat(" ", 1<<24)} {
		if r, e := rule.Read(s); !same(r, Rule{}) || e != rule.ErrText {
			t.Errorf("%.50q of %d bytes: %s %d", s, len(s), shown(r), e)
		}
	}
	longest := Rule{Action: rule.Replace, Sources: repeated(strings.Repeat("a", 128), 8), Separator: strings.Repeat("\n", 16), Pattern: strings.Repeat("é", 512), Target: strings.Repeat("%", 1024), Replacement: strings.Repeat("€", 341)}
	checkRule(t, longest)
}

// P12.4: texts of rules with small changes.
func TestChangedTexts(t *testing.T) {
	r := rand.New(rand.NewSource(122))
	found := map[bool]int{}
	for range 60000 {
		s := []byte(textOf(anyRule(r)))
		for range 1 + r.Intn(2) {
			at := r.Intn(len(s) + 1)
			piece := anyOf(r, []string{"", "a", "%", " ", ",", "=", "%0", "%20", "%41", "%FF", "0", "1", "A", "F", "f", "match=", "to=", " with=", "$1", "é", "\n", "-"})
			s = slices.Concat(s[:at], []byte(piece), s[min(at+r.Intn(3), len(s)):])
		}
		_, is := readOf(string(s))
		found[is]++
		checkText(t, string(s))
	}
	if found[true] < 5000 || found[false] < 5000 {
		t.Error("too few of one sort:", found)
	}
}

// P12.5 and R8: a Ready that is nil, or none.
func TestNone(t *testing.T) {
	for _, x := range []*Ready{nil, {}, new(Ready)} {
		if r := x.Rule(); !same(r, Rule{}) {
			t.Errorf("the rule %v", r)
		}
		for _, l := range []api.Labels{nil, of("a", "1"), of("a", ""), many("a", 65)} {
			if got, kept, e := x.Apply(l); len(got) > 0 || kept || e != api.ErrNil {
				t.Errorf("%v %t %d, not ErrNil", got, kept, e)
			}
		}
	}
	x, _ := rule.New(Rule{Action: rule.Keep})
	for range 3 {
		if _, _, e := x.Apply(of("a", "")); e != label.ErrLabels {
			t.Errorf("%d, not ErrLabels", e)
		}
		if l, kept, e := x.Apply(nil); len(l) > 0 || !kept || e != api.OK {
			t.Errorf("%v %t %d", l, kept, e)
		}
		if r := x.Rule(); !same(r, Rule{Action: rule.Keep}) {
			t.Errorf("%v", r)
		}
	}
}

// R3 and R4: rules and labels stay as they are, so does what lies behind their ends, and a Ready answers the same again and again.
func TestArgumentsStay(t *testing.T) {
	r := rand.New(rand.NewSource(123))
	for range 5000 {
		x, l := anyRule(r), append(anyLabels(r), api.Label{Name: "behind", Value: "\xff"}, api.Label{Name: "1"})
		own := slices.Clone(x.Sources)
		x.Sources = append(x.Sources, "behind", "")
		sources, labels := slices.Clone(x.Sources), slices.Clone(l)
		x.Sources = x.Sources[:len(own)]
		short := l[:len(l)-2]
		y, e := rule.New(x)
		if e != api.OK {
			t.Fatal(shown(x), e)
		}
		want, kept, wrong := applied(x, short)
		for range 2 {
			checkRule(t, x)
			checkApply(t, x, short)
			if got, is, f := y.Apply(short); !slices.Equal(got, want) || is != kept || f != wrong {
				t.Fatalf("%s makes of %s: %s %t %d", shown(x), shown(short), shown(got), is, f)
			}
			if !slices.Equal(l, labels) || !slices.Equal(x.Sources[:len(sources)], sources) {
				t.Fatalf("%v and %v are not %v and %v any more", l, x.Sources[:len(sources)], labels, sources)
			}
		}
	}
}

// R3: nothing is kept of a rule, and nothing is shared with a Ready.
func TestRulesAreNotKept(t *testing.T) {
	room := []byte("ab;(.*)x$1")
	part := func(from, to int) string { return unsafe.String(&room[from], to-from) }
	names := []string{part(0, 1), part(1, 2)}
	x := Rule{Action: rule.Replace, Sources: names, Separator: part(2, 3), Pattern: part(3, 7), Target: part(7, 8), Replacement: part(8, 10)}
	want := Rule{Action: rule.Replace, Sources: []string{"a", "b"}, Separator: ";", Pattern: "(.*)", Target: "x", Replacement: "$1"}
	y, e := rule.New(x)
	if e != api.OK {
		t.Fatal(e)
	}
	copy(room, "----------")
	names[0], names[1] = "c", "d"
	for range 2 {
		r := y.Rule()
		if !same(r, want) {
			t.Fatalf("the rule is %s", shown(r))
		}
		if l, kept, e := y.Apply(of("a", "1", "b", "2")); !slices.Equal(l, of("a", "1", "b", "2", "x", "1;2")) || !kept || e != api.OK {
			t.Fatalf("%v %t %d", l, kept, e)
		}
		for i := range r.Sources[:cap(r.Sources)] {
			r.Sources[:cap(r.Sources)][i] = "none"
		}
	}
	text := []byte("replace from=a,b sep=; match=(.*) to=x with=$1")
	r, e := rule.Read(unsafe.String(&text[0], len(text)))
	copy(text, strings.Repeat("-", len(text)))
	if !same(r, want) || e != api.OK {
		t.Errorf("%s %d", shown(r), e)
	}
}

// R3: strings and lists of results have memory of their own.
func TestResultsAreNew(t *testing.T) {
	known := map[uintptr]bool{}
	check := func(what, s string) {
		t.Helper()
		for i := range len(s) {
			at := uintptr(unsafe.Pointer(unsafe.StringData(s))) + uintptr(i)
			if known[at] {
				t.Fatalf("%s: %q has memory of an argument, or of another result", what, s)
			}
			known[at] = true
		}
	}
	checkLabels := func(what string, l api.Labels) {
		t.Helper()
		for _, x := range l {
			check(what, x.Name)
			check(what, x.Value)
		}
	}
	var rules []Rule
	var hold []any
	l := of("aa", "first", "bb", "second", "cc", "third")
	checkLabels("labels", l)
	for _, text := range []string{"replace from=aa sep=;; match=(first) to=dd with=$1", "replace from=aa sep=;; match=(none) to=dd with=$1", "keep from=aa sep=-- match=first", "drop from=aa sep=-- match=second", "hashmod from=aa,bb sep=-- to=hash mod=2147483648", "labelmap match=(aa|bb) with=${1}_", "labeldrop match=aa", "labelkeep match=aa|bb", "lowercase from=aa,bb sep=-- to=lower", "uppercase from=aa sep=-- to=upper"} {
		check("text", text)
		r, e := rule.Read(text)
		if e != api.OK {
			t.Fatal(text, e)
		}
		rules = append(rules, r)
	}
	checkStrings := func(what string, r Rule) {
		t.Helper()
		for _, s := range append(slices.Clone(r.Sources), r.Separator, r.Pattern, r.Target, r.Replacement) {
			check(what, s)
		}
	}
	for _, r := range rules {
		checkStrings("Read", r)
		x, _ := rule.New(r)
		for range 2 {
			again := x.Rule()
			checkStrings("Rule", again)
			text, _ := rule.Text(r)
			check("Text", text)
			joined, _ := rule.Join(r, l)
			check("Join", joined)
			one, _, _ := rule.Apply(r, l)
			checkLabels("Apply", one)
			two, _, _ := x.Apply(l)
			checkLabels("Ready.Apply", two)
			hold = append(hold, again, text, joined, one, two, x)
		}
	}
	if len(hold) != 120 {
		t.Error(len(hold))
	}
}

// R3: labels that are kept as they are lie in new memory.
func TestLabelsAreNew(t *testing.T) {
	for _, text := range []string{"keep from= sep= match=", "drop from= sep= match=a", "labelkeep match=.*", "labeldrop match=", "replace from= sep= match=a to=a with=", "labelmap match= with="} {
		l := of("a", "1", "b", "2")
		got, kept, e := rule.Apply(read(t, text), l)
		if !slices.Equal(got, l) || !kept || e != api.OK {
			t.Fatalf("%q: %v %t %d", text, got, kept, e)
		}
		got = got[:cap(got)]
		for i := range got {
			got[i] = api.Label{Name: "z"}
		}
		if !slices.Equal(l, of("a", "1", "b", "2")) {
			t.Errorf("%q: %v", text, l)
		}
	}
}

// R4: the same Ready can be used by several goroutines at once.
func TestManyAtOnce(t *testing.T) {
	var rules []Rule
	for _, text := range []string{"replace from=a,b sep=; match=(.*);(.*) to=c with=$2$1", "labelmap match=(.) with=${1}_", "hashmod from=a,b sep= to=h mod=1000", "uppercase from=a,b sep= to=u", "labelkeep match=a", "drop from=a sep= match=.*5"} {
		rules = append(rules, read(t, text))
	}
	for _, r := range rules {
		x, _ := rule.New(r)
		var all sync.WaitGroup
		for k := range 8 {
			all.Go(func() {
				l := of("a", strconv.Itoa(k), "b", "x")
				want, kept, _ := applied(r, l)
				for range 100 {
					got, is, e := x.Apply(l)
					if !slices.Equal(got, want) || is != kept || e != api.OK || !same(x.Rule(), r) {
						t.Errorf("%s makes of %v: %v %t %d, not %v", shown(r), l, got, is, e, want)
						return
					}
				}
			})
		}
		all.Wait()
	}
}

// R5: lists that are nil are like empty ones.
func TestEmptyLists(t *testing.T) {
	for action := range uint8(11) {
		for _, l := range []api.Labels{nil, {}} {
			for _, sources := range [][]string{nil, {}} {
				r := Rule{Action: action, Sources: sources}
				checkRule(t, r)
				checkApply(t, r, l)
				r.Target = "a"
				checkRule(t, r)
				checkApply(t, r, l)
			}
		}
	}
}
