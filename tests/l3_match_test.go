package tests

import (
	"fmt"
	"slices"
	"strings"
	"testing"

	"loop.example/g00747/impl"
)

var allMatcherKinds = []int{impl.MtIs, impl.MtNot, impl.MtLike, impl.MtUnlike}

func matcherOf(kind int, name string, want string) impl.Matcher {
	return impl.Matcher{Kind: kind, Name: name, Want: want}
}

// badMatchers are matchers that are not good, each for a reason of its own.
func badMatchers() map[string]impl.Matcher {
	bad := map[string]impl.Matcher{
		"nothing at all":    {},
		"no Kind":           matcherOf(0, "a", "x"),
		"a Kind above":      matcherOf(5, "a", "x"),
		"a Kind below":      matcherOf(-1, "a", "x"),
		"a Kind far above":  matcherOf(1<<62, "a", "x"),
		"a Kind far below":  matcherOf(-1<<63, "a", "x"),
		"a Kind by its end": matcherOf(256+impl.MtIs, "a", "x"),
	}
	names := []string{"", "1a", "A", "a b", "a-b", "a=", "a!", "*", "a*", "abcdefghijklm", "a\xff", "\u00e9", strings.Repeat("a", 100000)}
	wants := []string{"abcdefghijklm", "*************", "x y", " ", `"`, `x"`, ",", "{", "}", "x\n", "\x7f", "\x00", "x\xff", "\u00e9", strings.Repeat("x", 100000)}
	for _, kind := range allMatcherKinds {
		for _, name := range names {
			bad[fmt.Sprintf("Kind %d, Name %.20q", kind, name)] = matcherOf(kind, name, "x")
		}
		for _, want := range wants {
			bad[fmt.Sprintf("Kind %d, Want %.20q", kind, want)] = matcherOf(kind, "a", want)
		}
	}
	return bad
}

// likeByTrying tries each length for each star.
func likeByTrying(form string, s string) bool {
	if form == "" {
		return s == ""
	}
	if form[0] != '*' {
		return s != "" && s[0] == form[0] && likeByTrying(form[1:], s[1:])
	}
	for long := range len(s) + 1 {
		if likeByTrying(form[1:], s[long:]) {
			return true
		}
	}
	return false
}

func TestKindsOfMatchers(t *testing.T) {
	if impl.MtIs != 1 || impl.MtNot != 2 || impl.MtLike != 3 || impl.MtUnlike != 4 {
		t.Error(allMatcherKinds)
	}
}

func TestGoodMatchers(t *testing.T) {
	one := matcherOf(impl.MtIs, "a", "x")
	good := [][]impl.Matcher{nil, {}, slices.Repeat([]impl.Matcher{one}, impl.MaxLabels)}
	for _, kind := range allMatcherKinds {
		for _, name := range []string{"a", "_", "z9", "abcdefghijkl"} {
			for _, want := range []string{"", "x", "*", "**", "a*b", "=", "!", "~", "abcdefghijkl", "************"} {
				good = append(good, []impl.Matcher{matcherOf(kind, name, want)})
			}
		}
	}
	good = append(good, []impl.Matcher{matcherOf(impl.MtLike, "z", "*"), matcherOf(impl.MtNot, "a", ""), matcherOf(impl.MtUnlike, "z", "x")})
	for _, l := range good {
		if !impl.GoodMatchers(l) {
			t.Errorf("GoodMatchers %v: false", l)
		}
	}
	for _, many := range []int{impl.MaxLabels + 1, 2 * impl.MaxLabels, 1000} {
		if impl.GoodMatchers(slices.Repeat([]impl.Matcher{one}, many)) {
			t.Errorf("GoodMatchers of %d: true", many)
		}
	}
	for name, bad := range badMatchers() {
		for many := range impl.MaxLabels {
			for at := range many + 1 {
				l := slices.Insert(slices.Repeat([]impl.Matcher{one}, many), at, bad)
				if impl.GoodMatchers(l) {
					t.Errorf("GoodMatchers, %s as number %d of %d: true", name, at, len(l))
				}
			}
		}
	}
}

func TestEachByteInAMatcher(t *testing.T) {
	for b := range 256 {
		c := string([]byte{byte(b)})
		inName := strings.Contains(nameBytes, c)
		inWord := strings.Contains(wordBytes, c)
		for _, kind := range allMatcherKinds {
			if got := impl.GoodMatchers([]impl.Matcher{matcherOf(kind, "a"+c, "x")}); got != inName {
				t.Errorf("GoodMatchers, Kind %d, Name %q: %v", kind, "a"+c, got)
			}
			for _, want := range []string{c, "x" + c, c + "*", "*" + c} {
				if got := impl.GoodMatchers([]impl.Matcher{matcherOf(kind, "a", want)}); got != inWord {
					t.Errorf("GoodMatchers, Kind %d, Want %q: %v", kind, want, got)
				}
			}
		}
		for _, pair := range [][2]string{{c, c}, {"x" + c, "x" + c}, {"*", c}, {"*" + c, "x" + c}} {
			if is, ok := impl.IsLike(pair[0], pair[1]); is != inWord || ok != inWord {
				t.Errorf("IsLike %q %q: %v, %v", pair[0], pair[1], is, ok)
			}
		}
	}
}

func TestIsLike(t *testing.T) {
	cases := []struct {
		form string
		s    string
		want bool
	}{
		{"", "", true}, {"", "a", false}, {"", "*", false}, {"a", "", false},
		{"a", "a", true}, {"a", "b", false}, {"a", "aa", false}, {"aa", "a", false}, {"ab", "ba", false},
		{"abcdefghijkl", "abcdefghijkl", true}, {"abcdefghijkl", "abcdefghijkm", false}, {"abcdefghijkl", "abcdefghijk", false},
		// Letters of both sizes are not the same, and what other forms use is plain here.
		{"a", "A", false}, {"a.c", "abc", false}, {"a?c", "abc", false}, {"[ab]", "a", false}, {"a+", "aa", false}, {"a|b", "a", false}, {`\*`, "*", false}, {`\*`, `\x`, true},
		{"*", "", true}, {"*", "a", true}, {"*", "*", true}, {"*", "abcdefghijkl", true},
		{"**", "", true}, {"**", "a", true}, {"***", "ab", true}, {"************", "", true}, {"************", "abcdefghijkl", true},
		// A star ahead, at the end and between, for nothing, for some and for all but the rest.
		{"*a", "a", true}, {"*a", "xa", true}, {"*a", "ax", false}, {"*a", "", false}, {"*a", "aa", true},
		{"a*", "a", true}, {"a*", "ax", true}, {"a*", "xa", false}, {"a*", "", false}, {"a*", "abcdefghijkl", true},
		{"a*b", "ab", true}, {"a*b", "axxb", true}, {"a*b", "axxc", false}, {"a*b", "b", false}, {"a*b", "a", false}, {"a*b", "abx", false}, {"a*b", "abab", true},
		{"*a*", "a", true}, {"*a*", "xay", true}, {"*a*", "xy", false}, {"*a*", "", false},
		// Both ends must not share a byte.
		{"a*a", "a", false}, {"a*a", "aa", true}, {"a*a", "aba", true}, {"ab*ba", "aba", false}, {"ab*ba", "abba", true}, {"ab*b", "ab", false},
		// Several stars: the parts between must follow one another and leave the end alone.
		{"a*b*", "axxb", true}, {"a*b*c", "abc", true}, {"a*b*c", "axbyc", true}, {"a*b*c", "acb", false}, {"a*b*c", "acbc", true},
		{"*a*b*", "ba", false}, {"*a*b*", "ab", true}, {"*a*a*", "a", false}, {"*a*a*", "xaxax", true}, {"*ab*ba*", "aba", false}, {"*ab*ba*", "abba", true},
		{"a*bc*bc", "abc", false}, {"a*bc*bc", "abcbc", true}, {"a*b*b", "ab", false}, {"*aab*", "aaab", true}, {"*aab", "aaab", true}, {"a*ab*b", "aabab", true},
		{"a**b", "ab", true}, {"a**b", "axb", true}, {"a**b", "a", false}, {"**a", "xa", true}, {"a**", "a", true}, {"**a**", "bab", true}, {"**a**", "b", false},
		// A star in what is asked about is a byte as others are.
		{"a", "*", false}, {"a", "a*", false}, {"a*b", "a*b", true}, {"ab", "a*b", false}, {"*x", "*", false},
	}
	for _, c := range cases {
		if is, ok := impl.IsLike(c.form, c.s); is != c.want || !ok {
			t.Errorf("IsLike %q %q: %v, %v", c.form, c.s, is, ok)
		}
	}
}

func TestIsLikeOfAllSmallTexts(t *testing.T) {
	texts := textsOver("ab*", 5)
	for _, form := range texts {
		for _, s := range texts {
			if is, ok := impl.IsLike(form, s); is != likeByTrying(form, s) || !ok {
				t.Fatalf("IsLike %q %q: %v, %v", form, s, is, ok)
			}
		}
	}
}

func TestIsLikeOfTheLongest(t *testing.T) {
	forms := []string{"*a*a*a*a*a*a", "a*a*a*a*a*a*", "*a*b*a*b*a*b", "************", "aaaaaa*aaaaa", "*aaaaaaaaaab", "*****a******"}
	for _, form := range forms {
		for n := range 1 << impl.MaxWord {
			s := []byte(strings.Repeat("a", impl.MaxWord))
			for i := range s {
				s[i] += byte(n >> i & 1)
			}
			if is, ok := impl.IsLike(form, string(s)); is != likeByTrying(form, string(s)) || !ok {
				t.Fatalf("IsLike %q %q: %v, %v", form, s, is, ok)
			}
		}
	}
}

func TestIsLikeOfTextsThatAreNoWords(t *testing.T) {
	bad := []string{"abcdefghijklm", "*************", " ", "a b", `"`, ",", "{", "}", "a\n", "\x00", "\x7f", "\x80", "a\xff", "\u00e9", strings.Repeat("*", 100000), strings.Repeat("a", 100000)}
	for _, s := range bad {
		for _, pair := range [][2]string{{s, s}, {s, ""}, {"", s}, {s, "a"}, {"a", s}, {"*", s}, {s, "*"}} {
			if is, ok := impl.IsLike(pair[0], pair[1]); is || ok {
				t.Errorf("IsLike %.20q %.20q: %v, %v", pair[0], pair[1], is, ok)
			}
		}
	}
}

func TestMatches(t *testing.T) {
	l := labelsOf("job", "api1", "up", "*", "zone", "b")
	cases := []struct {
		kind int
		name string
		want string
		is   bool
	}{
		{impl.MtIs, "job", "api1", true}, {impl.MtIs, "job", "api", false}, {impl.MtIs, "job", "api12", false}, {impl.MtIs, "job", "", false},
		{impl.MtIs, "job", "b", false}, {impl.MtIs, "zone", "b", true}, {impl.MtIs, "job", "API1", false},
		{impl.MtNot, "job", "api1", false}, {impl.MtNot, "job", "api", true}, {impl.MtNot, "job", "", true}, {impl.MtNot, "zone", "b", false},
		{impl.MtLike, "job", "api1", true}, {impl.MtLike, "job", "api*", true}, {impl.MtLike, "job", "*1", true}, {impl.MtLike, "job", "*", true},
		{impl.MtLike, "job", "b*", false}, {impl.MtLike, "job", "", false}, {impl.MtLike, "job", "api", false}, {impl.MtLike, "job", "api1*", true},
		{impl.MtUnlike, "job", "api1", false}, {impl.MtUnlike, "job", "api*", false}, {impl.MtUnlike, "job", "b*", true}, {impl.MtUnlike, "job", "", true}, {impl.MtUnlike, "job", "*", false},
		// A star is a form with MtLike and MtUnlike alone, and in Want alone.
		{impl.MtIs, "job", "*", false}, {impl.MtIs, "job", "api*", false}, {impl.MtNot, "job", "api*", true}, {impl.MtNot, "job", "*", true},
		{impl.MtIs, "up", "*", true}, {impl.MtNot, "up", "*", false}, {impl.MtLike, "up", "a", false}, {impl.MtIs, "up", "a", false},
		// A Name that is not there is as one with the empty text.
		{impl.MtIs, "none", "", true}, {impl.MtIs, "none", "api1", false}, {impl.MtIs, "none", "*", false}, {impl.MtNot, "none", "", false}, {impl.MtNot, "none", "api1", true},
		{impl.MtLike, "none", "", true}, {impl.MtLike, "none", "*", true}, {impl.MtLike, "none", "**", true}, {impl.MtLike, "none", "a", false}, {impl.MtLike, "none", "a*", false},
		{impl.MtUnlike, "none", "", false}, {impl.MtUnlike, "none", "*", false}, {impl.MtUnlike, "none", "**", false}, {impl.MtUnlike, "none", "a*", true}, {impl.MtUnlike, "none", "a", true},
		{impl.MtIs, "jo", "api1", false}, {impl.MtIs, "jobs", "api1", false}, {impl.MtIs, "b", "zone", false},
	}
	for _, c := range cases {
		m := matcherOf(c.kind, c.name, c.want)
		if is, ok := impl.Matches(l, m); is != c.is || !ok {
			t.Errorf("Matches %v: %v, %v", m, is, ok)
		}
		if is, ok := impl.MatchesAll(l, []impl.Matcher{m}); is != c.is || !ok {
			t.Errorf("MatchesAll %v: %v, %v", m, is, ok)
		}
	}
}

func wantsForMatchers() []string {
	return append(textsOver("a1*", 3), "api", "api*", "=", "==", "!", "~", "abcdefghijkl", "*l*", "************", "x", "x=y")
}

func TestOfTwoOppositeMatchersJustOneMatches(t *testing.T) {
	lists := append(risingLabels(), manyLabels(6, "x"), manyLabels(6, "a1"), widestLabels())
	for _, l := range lists {
		for _, name := range []string{"a", "b", "f", "job", "zone", "none", "abcdefghijkq"} {
			for _, want := range wantsForMatchers() {
				is, ok := impl.Matches(l, matcherOf(impl.MtIs, name, want))
				not, fine := impl.Matches(l, matcherOf(impl.MtNot, name, want))
				if is == not || !ok || !fine {
					t.Errorf("%v, %s, %q: MtIs %v, MtNot %v", l, name, want, is, not)
				}
				like, ok := impl.Matches(l, matcherOf(impl.MtLike, name, want))
				unlike, fine := impl.Matches(l, matcherOf(impl.MtUnlike, name, want))
				if like == unlike || !ok || !fine {
					t.Errorf("%v, %s, %q: MtLike %v, MtUnlike %v", l, name, want, like, unlike)
				}
				word, _ := impl.IsFor(l, name)
				if is != (word == want) || like != likeByTrying(want, word) {
					t.Errorf("%v, %s, %q: MtIs %v, MtLike %v", l, name, want, is, like)
				}
			}
		}
	}
}

func TestMatchesAll(t *testing.T) {
	l := labelsOf("job", "api1", "zone", "b")
	fits := []impl.Matcher{
		matcherOf(impl.MtIs, "job", "api1"), matcherOf(impl.MtNot, "job", "api"), matcherOf(impl.MtLike, "zone", "*b"),
		matcherOf(impl.MtUnlike, "none", "x*"), matcherOf(impl.MtIs, "none", ""), matcherOf(impl.MtLike, "job", "*"),
	}
	fails := []impl.Matcher{
		matcherOf(impl.MtIs, "job", "b"), matcherOf(impl.MtNot, "zone", "b"), matcherOf(impl.MtLike, "none", "b"), matcherOf(impl.MtUnlike, "job", "*"),
	}
	for _, labels := range [][]impl.Label{nil, {}, l, widestLabels()} {
		for _, none := range [][]impl.Matcher{nil, {}} {
			if is, ok := impl.MatchesAll(labels, none); !is || !ok {
				t.Errorf("MatchesAll %v of none: %v, %v", labels, is, ok)
			}
		}
	}
	for many := range len(fits) + 1 {
		if is, ok := impl.MatchesAll(l, fits[:many]); !is || !ok {
			t.Errorf("MatchesAll %v: %v, %v", fits[:many], is, ok)
		}
		for at := range many {
			for _, fail := range fails {
				m := slices.Clone(fits[:many])
				m[at] = fail
				if is, ok := impl.MatchesAll(l, m); is || !ok {
					t.Errorf("MatchesAll %v: %v, %v", m, is, ok)
				}
			}
		}
	}
	if is, ok := impl.MatchesAll(l, fails); is || !ok {
		t.Errorf("MatchesAll %v: %v, %v", fails, is, ok)
	}
}

func TestTakesNone(t *testing.T) {
	cases := []struct {
		want string
		// For MtIs and MtLike; the opposites tell the opposite.
		is   bool
		like bool
	}{
		{"", true, true}, {"*", false, true}, {"**", false, true}, {"************", false, true},
		{"a", false, false}, {"a*", false, false}, {"*a", false, false}, {"*a*", false, false}, {"**a", false, false}, {"a**", false, false}, {"abcdefghijkl", false, false}, {"=", false, false},
	}
	for _, c := range cases {
		want := map[int]bool{impl.MtIs: c.is, impl.MtNot: !c.is, impl.MtLike: c.like, impl.MtUnlike: !c.like}
		for _, kind := range allMatcherKinds {
			m := matcherOf(kind, "none", c.want)
			if takes, ok := impl.TakesNone(m); takes != want[kind] || !ok {
				t.Errorf("TakesNone %v: %v, %v", m, takes, ok)
			}
		}
	}
}

func TestTakesNoneIsWhatLabelsWithoutTheNameGet(t *testing.T) {
	for _, kind := range allMatcherKinds {
		for _, want := range wantsForMatchers() {
			m := matcherOf(kind, "none", want)
			takes, ok := impl.TakesNone(m)
			if !ok {
				t.Errorf("TakesNone %v: false", m)
			}
			for _, l := range append(risingLabels(), widestLabels()) {
				if is, fine := impl.Matches(l, m); is != takes || !fine {
					t.Errorf("Matches %v %v: %v, not %v", l, m, is, takes)
				}
			}
		}
	}
}

func TestMatcherText(t *testing.T) {
	cases := []struct {
		m    impl.Matcher
		text string
	}{
		{matcherOf(impl.MtIs, "job", "a"), `job="a"`},
		{matcherOf(impl.MtNot, "job", "a"), `job!="a"`},
		{matcherOf(impl.MtLike, "job", "a*"), `job=~"a*"`},
		{matcherOf(impl.MtUnlike, "job", "*a"), `job!~"*a"`},
		{matcherOf(impl.MtIs, "_", ""), `_=""`},
		{matcherOf(impl.MtNot, "a_1", ""), `a_1!=""`},
		{matcherOf(impl.MtLike, "a", ""), `a=~""`},
		{matcherOf(impl.MtUnlike, "a", ""), `a!~""`},
		{matcherOf(impl.MtIs, "a", "*"), `a="*"`},
		{matcherOf(impl.MtIs, "a", "="), `a="="`},
		{matcherOf(impl.MtIs, "a", "~"), `a="~"`},
		{matcherOf(impl.MtIs, "a", "b!="), `a="b!="`},
		{matcherOf(impl.MtNot, "a", "!~"), `a!="!~"`},
		{matcherOf(impl.MtLike, "a", "=~"), `a=~"=~"`},
		{matcherOf(impl.MtUnlike, "abcdefghijkl", "ABCDEFGHIJKL"), `abcdefghijkl!~"ABCDEFGHIJKL"`},
	}
	for _, c := range cases {
		if text, ok := impl.MatcherText(c.m); text != c.text || !ok {
			t.Errorf("MatcherText %v: %q, %v", c.m, text, ok)
		}
		if m, ok := impl.ReadMatcher(c.text); m != c.m || !ok {
			t.Errorf("ReadMatcher %q: %v, %v", c.text, m, ok)
		}
	}
}

func TestMatchersAreReadBack(t *testing.T) {
	wants := wantsForMatchers()
	for i := range wordBytes {
		wants = append(wants, wordBytes[i:i+1], wordBytes[i:min(i+12, len(wordBytes))])
	}
	seen := map[string]impl.Matcher{}
	for _, kind := range allMatcherKinds {
		for _, name := range []string{"a", "_", "z9", "job", "abcdefghijkl"} {
			for _, want := range wants {
				m := matcherOf(kind, name, want)
				text, ok := impl.MatcherText(m)
				if !ok {
					t.Fatalf("MatcherText %v: false", m)
				}
				if other, was := seen[text]; was && other != m {
					t.Errorf("%q is the text of %v and of %v", text, other, m)
				}
				seen[text] = m
				if got, ok := impl.ReadMatcher(text); got != m || !ok {
					t.Errorf("ReadMatcher %q: %v, %v", text, got, ok)
				}
			}
		}
	}
}

func wantNoMatcher(t *testing.T, text string) {
	t.Helper()
	if m, ok := impl.ReadMatcher(text); m != (impl.Matcher{}) || ok {
		t.Errorf("ReadMatcher %.60q: %v, %v", text, m, ok)
	}
}

func TestTextsThatAreNoMatcherText(t *testing.T) {
	texts := []string{
		"", " ", "a", `"`, `""`, "=", `=""`, `="a"`, `!="a"`, `=~"a"`, `!~"a"`, "a=", "a!=", "a=~", "a!~", `a"x"`, `a""`,
		"a=x", `a="x`, `a=x"`, `a="`, `a!="`, `a='x'`, `a="x""`, `a=""x"`, `a="""`, `a=""""`, `a="x"y`, `a="x" `, ` a="x"`, `a ="x"`, `a= "x"`, "a=\"x\"\n",
		`a=="x"`, `a~"x"`, `a!"x"`, `a~="x"`, `a=!"x"`, `a~!"x"`, `a!!="x"`, `a!=~"x"`, `a=~~"x"`, `a!~~"x"`, `a!~="x"`, `a==~"x"`, `a!=="x"`, `a=~="x"`, `a<"x"`, `a:"x"`,
		`{a="x"}`, `a="x",`, `,a="x"`, `a="x",b="y"`, `a="x"b="y"`, `a="x"a="x"`, `a="b="x""`,
		`A="x"`, `1a="x"`, `a-b="x"`, `a*="x"`, `*="x"`, `"a"="x"`, `abcdefghijklm="x"`, `a="abcdefghijklm"`,
		`a="x y"`, `a=" "`, `a="x,y"`, `a="{"`, `a="}"`, "a=\"\x7f\"", "a=\"\x00\"", "a=\"\xff\"", "a=\"\u00e9\"", "\u00e9=\"x\"", "a\xff=\"x\"",
		strings.Repeat("a", 100), strings.Repeat(`"`, 100), strings.Repeat("=", 100), strings.Repeat("=", 101),
		`a="x"` + strings.Repeat(" ", 95), `a="x"` + strings.Repeat(" ", 96), `a="` + strings.Repeat("x", 96) + `"`, `a="` + strings.Repeat("x", 97) + `"`,
		strings.Repeat("a", 97) + `="x"`, strings.Repeat(`a="x"`, 20), strings.Repeat(`a="x"`, 21), strings.Repeat(`a="x"`, 100000),
	}
	for _, s := range texts {
		wantNoMatcher(t, s)
	}
}

// TestOneByteAmissInMatcherText tries each byte at each place of some texts: more, less, or another one.
// What is read all the same must come out again just as it was.
func TestOneByteAmissInMatcherText(t *testing.T) {
	matchers := []impl.Matcher{matcherOf(impl.MtLike, "abcdefghijkl", "a*c=e!g~ijk*")}
	for _, kind := range allMatcherKinds {
		matchers = append(matchers, matcherOf(kind, "a", ""), matcherOf(kind, "job", "a*"))
	}
	for _, m := range matchers {
		text, _ := impl.MatcherText(m)
		read := 0
		for _, s := range oneByteAmiss(text) {
			got, ok := impl.ReadMatcher(s)
			if !ok {
				wantNoMatcher(t, s)
				continue
			}
			read++
			back, good := impl.MatcherText(got)
			if back != s || !good || got == m {
				t.Errorf("ReadMatcher %q: %v", s, got)
			}
		}
		if read == 0 {
			t.Errorf("of texts like %s none is read", text)
		}
	}
}

func TestLabelsThatAreNotGoodMatchNothing(t *testing.T) {
	for name, l := range badLabels() {
		for _, kind := range allMatcherKinds {
			for _, want := range []string{"", "x", "*", "y"} {
				for _, asked := range []string{"a", "b", "none"} {
					m := matcherOf(kind, asked, want)
					if is, ok := impl.Matches(l, m); is || ok {
						t.Errorf("Matches, %s, %v: %v, %v", name, m, is, ok)
					}
					if is, ok := impl.MatchesAll(l, []impl.Matcher{m}); is || ok {
						t.Errorf("MatchesAll, %s, %v: %v, %v", name, m, is, ok)
					}
				}
			}
		}
		if is, ok := impl.MatchesAll(l, nil); is || ok {
			t.Errorf("MatchesAll of none, %s: %v, %v", name, is, ok)
		}
	}
}

func TestMatchersThatAreNotGoodGetZero(t *testing.T) {
	lists := [][]impl.Label{nil, labelsOf("a", "x"), labelsOf("b", "y"), labelsOf("b", "x", "a", "x")}
	fits, fails := matcherOf(impl.MtIs, "a", "x"), matcherOf(impl.MtNot, "a", "x")
	for name, bad := range badMatchers() {
		for _, l := range lists {
			if is, ok := impl.Matches(l, bad); is || ok {
				t.Errorf("Matches %v, %s: %v, %v", l, name, is, ok)
			}
			// One that is good and fails ahead of it must not hide it.
			for _, m := range [][]impl.Matcher{{bad}, {fits, bad}, {bad, fits}, {fails, bad}, {bad, fails}, {fits, fails, bad}} {
				if is, ok := impl.MatchesAll(l, m); is || ok {
					t.Errorf("MatchesAll %v, %s: %v, %v", l, name, is, ok)
				}
			}
		}
		if s, ok := impl.MatcherText(bad); s != "" || ok {
			t.Errorf("MatcherText, %s: %.60q, %v", name, s, ok)
		}
		if takes, ok := impl.TakesNone(bad); takes || ok {
			t.Errorf("TakesNone, %s: %v, %v", name, takes, ok)
		}
	}
	for _, l := range lists {
		for _, one := range []impl.Matcher{fits, fails} {
			if is, ok := impl.MatchesAll(l, slices.Repeat([]impl.Matcher{one}, impl.MaxLabels+1)); is || ok {
				t.Errorf("MatchesAll %v, one too many: %v, %v", l, is, ok)
			}
		}
	}
	for _, l := range lists[:3] {
		if _, ok := impl.MatchesAll(l, slices.Repeat([]impl.Matcher{fits}, impl.MaxLabels)); !ok {
			t.Errorf("MatchesAll %v, as many as can be: false", l)
		}
	}
}

func callAllOfMatchers(l []impl.Label, m []impl.Matcher) string {
	answers := []any{impl.GoodMatchers(m)}
	all, ok := impl.MatchesAll(l, m)
	answers = append(answers, all, ok)
	for _, one := range m {
		is, ok := impl.Matches(l, one)
		text, told := impl.MatcherText(one)
		takes, fine := impl.TakesNone(one)
		read, back := impl.ReadMatcher(text)
		answers = append(answers, is, ok, text, told, takes, fine, read, back)
	}
	return fmt.Sprint(answers...)
}

func TestMatchersAndLabelsAreLeftAsTheyWere(t *testing.T) {
	lists := [][]impl.Label{nil, manyLabels(3, "x"), manyLabels(6, "x"), manyLabels(7, "x"), labelsOf("c", "1", "a", "2"), labelsOf("b", "")}
	matchers := [][]impl.Matcher{
		nil,
		{matcherOf(impl.MtIs, "a", "x")},
		{matcherOf(impl.MtLike, "c", "*"), matcherOf(impl.MtNot, "a", "y"), matcherOf(impl.MtUnlike, "b", "z*")},
		{matcherOf(impl.MtIs, "a", "x"), matcherOf(0, "a", "x"), matcherOf(impl.MtIs, "", "{")},
		slices.Repeat([]impl.Matcher{matcherOf(impl.MtIs, "a", "x")}, 6),
		slices.Repeat([]impl.Matcher{matcherOf(impl.MtIs, "a", "x")}, 7),
	}
	for _, list := range lists {
		for _, some := range matchers {
			// What lies behind the lengths must be neither read nor written.
			room := append(slices.Clone(list), labelsOf("a", "9", "b", "8", "", "{")...)
			matchRoom := append(slices.Clone(some), matcherOf(impl.MtIs, "a", "no"), matcherOf(9, "", "{"))
			wasRoom, wasMatch := slices.Clone(room), slices.Clone(matchRoom)
			l, m := room[:len(list)], matchRoom[:len(some)]
			got := callAllOfMatchers(l, m)
			if want := callAllOfMatchers(slices.Clone(l), slices.Clone(m)); got != want {
				t.Errorf("%v, %v: %s with more behind, %s without", l, m, got, want)
			}
			if again := callAllOfMatchers(l, m); again != got {
				t.Errorf("%v, %v: %s, then %s", l, m, got, again)
			}
			if !slices.Equal(room, wasRoom) || !slices.Equal(matchRoom, wasMatch) {
				t.Errorf("%v, %v were written into: %v, %v", l, m, room, matchRoom)
			}
		}
	}
}
