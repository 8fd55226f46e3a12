package tests

import (
	"fmt"
	"slices"
	"strings"
	"testing"

	"loop.example/g00747/impl"
)

const (
	nameBytes = "abcdefghijklmnopqrstuvwxyz0123456789_"
	wordBytes = "!#$%&'()*+-./0123456789:;<=>?@ABCDEFGHIJKLMNOPQRSTUVWXYZ[\\]^_`abcdefghijklmnopqrstuvwxyz|~"
)

// labelsOf makes labels of names and words that take turns.
func labelsOf(parts ...string) []impl.Label {
	var l []impl.Label
	for i := 0; i < len(parts); i += 2 {
		l = append(l, impl.Label{Name: parts[i], Is: parts[i+1]})
	}
	return l
}

// manyLabels makes labels a, b, c and so on, all with the same Is.
func manyLabels(many int, is string) []impl.Label {
	var l []impl.Label
	for i := range many {
		l = append(l, impl.Label{Name: string(rune('a' + i)), Is: is})
	}
	return l
}

// widestLabels are as many as can be, with names and words as long as can be.
func widestLabels() []impl.Label {
	var l []impl.Label
	for _, c := range "lmnopq" {
		l = append(l, impl.Label{Name: "abcdefghijk" + string(c), Is: strings.Repeat(string(c), impl.MaxWord)})
	}
	return l
}

// risingLabels are good labels in the order that CompareLabels must tell.
func risingLabels() [][]impl.Label {
	return [][]impl.Label{
		nil,
		labelsOf("_", "a"),
		labelsOf("a", "!"),
		labelsOf("a", "!", "b", "~"),
		labelsOf("a", "!!"),
		labelsOf("a", "1", "b", "2"),
		labelsOf("a", "1", "b", "2", "c", "3"),
		labelsOf("a", "1", "b", "20"),
		labelsOf("a", "1", "b", "3"),
		labelsOf("a", "1", "b0", "1"),
		labelsOf("a", "1", "c", "1"),
		labelsOf("a", "10"),
		labelsOf("a", "9"),
		labelsOf("a", "A"),
		labelsOf("a", "a"),
		labelsOf("a", "~"),
		labelsOf("a0", "0"),
		labelsOf("a_", "0"),
		labelsOf("aa", "0"),
		widestLabels()[5:],
		labelsOf("b", "1"),
		manyLabels(6, "x")[1:],
		labelsOf("job", "a=b", "up", "=", "zone", "=="),
		labelsOf("zone", "b"),
	}
}

// badLabels are lists that are not good, each for a reason of its own.
func badLabels() map[string][]impl.Label {
	return map[string][]impl.Label{
		"one too many":           manyLabels(7, "x"),
		"far too many":           slices.Repeat(labelsOf("a", "x"), 1000),
		"no Name":                labelsOf("", "x"),
		"no Name behind":         labelsOf("a", "x", "", "x"),
		"a digit first":          labelsOf("1a", "x"),
		"a great letter":         labelsOf("A", "x"),
		"a Name of 13 bytes":     labelsOf("abcdefghijklm", "x"),
		"no Is":                  labelsOf("a", ""),
		"no Is behind":           labelsOf("a", "x", "b", ""),
		"an Is of 13 bytes":      labelsOf("a", "xxxxxxxxxxxxx"),
		"a blank in Is":          labelsOf("a", "x y"),
		"a quote in Is":          labelsOf("a", `x"`),
		"a comma in Is":          labelsOf("a", "x,y"),
		"a brace in Is":          labelsOf("a", "{"),
		"a closing brace in Is":  labelsOf("a", "}"),
		"a byte above 127 in Is": labelsOf("a", "x\xff"),
		"falling":                labelsOf("b", "x", "a", "x"),
		"falling behind":         labelsOf("a", "x", "c", "x", "b", "x"),
		"a Name twice":           labelsOf("a", "x", "a", "y"),
		"a label twice":          labelsOf("a", "x", "a", "x"),
		"a Name twice behind":    labelsOf("a", "x", "b", "x", "b", "y"),
	}
}

func shuffled(l []impl.Label, turn int) []impl.Label {
	own := slices.Clone(l)
	for i := len(own) - 1; i > 0; i-- {
		turn = (turn*1103515245 + 12345) & 0x7fffffff
		j := (turn >> 8) % (i + 1)
		own[i], own[j] = own[j], own[i]
	}
	return own
}

func TestLimitsOfLabels(t *testing.T) {
	if impl.MaxLabels != 6 || impl.MaxWord != 12 {
		t.Error(impl.MaxLabels, impl.MaxWord)
	}
}

func TestGoodName(t *testing.T) {
	for _, s := range []string{
		"a", "z", "_", "__", "a0", "a9", "_1", "_a1", "az_09", "zone", "abcdefghijkl", "____________", "a00000000000",
	} {
		if !impl.GoodName(s) {
			t.Errorf("GoodName %q: false", s)
		}
	}
	for _, s := range []string{
		"", "0", "9", "1a", "0_", "abcdefghijklm", "_____________", strings.Repeat("a", 100000),
		"A", "aB", "a b", " a", "a ", "a\n", "a=", "a\"", "a-b", "a.b", "\x00", "a\x00",
		"\u00e9", "a\u00e9", "abcdefghijk\u00e9", "\u0161", "a\uff41", "\x80", "a\xff", "\xe9a", "a\xc5", "\ufffd", "a\U0001f600",
		// Runes that are a and _ in their lowest eight bits.
		"\u0161a", "a\u015f", "a\u0430",
	} {
		if impl.GoodName(s) {
			t.Errorf("GoodName %q: true", s)
		}
	}
}

func TestEachByteInAName(t *testing.T) {
	for b := range 256 {
		c := string([]byte{byte(b)})
		inName := strings.Contains(nameBytes, c)
		first := inName && (b < '0' || b > '9')
		for _, behind := range []string{"", "a", "abcdefghijk"} {
			if got := impl.GoodName(c + behind); got != first {
				t.Errorf("GoodName %q: %v", c+behind, got)
			}
		}
		for _, ahead := range []string{"a", "_", "abcdefghijk"} {
			if got := impl.GoodName(ahead + c); got != inName {
				t.Errorf("GoodName %q: %v", ahead+c, got)
			}
		}
		if impl.GoodName("a"+c+"b") != inName {
			t.Errorf("GoodName %q", "a"+c+"b")
		}
	}
}

func TestEachByteInAWord(t *testing.T) {
	for b := range 256 {
		c := string([]byte{byte(b)})
		inWord := strings.Contains(wordBytes, c)
		for _, word := range []string{c, c + "a", "a" + c, "a" + c + "a", c + "abcdefghijk", "abcdefghijk" + c} {
			l := labelsOf("a", word)
			if got := impl.GoodLabels(l); got != inWord {
				t.Errorf("GoodLabels %q: %v", word, got)
			}
			_, code, ok := impl.SortLabels(l)
			if ok != inWord || (code == 0) != inWord || !inWord && code != 3 {
				t.Errorf("SortLabels %q: %d, %v", word, code, ok)
			}
		}
	}
}

func TestWordsAtTheirEdges(t *testing.T) {
	good := []string{"x", "0", "=", "!", "~", "A", "abcdefghijkl", "~~~~~~~~~~~~", "============"}
	bad := []string{
		"abcdefghijklm", "~~~~~~~~~~~~~", strings.Repeat("x", 100000),
		"\u00e9", "x\u00e9", "abcdefghij\u00e9", "\x80", "\xff", "x\x7f", "\u0121", "\u0161", "\ufffd", "\U0001f600",
	}
	for _, word := range good {
		if _, _, ok := impl.SortLabels(labelsOf("a", word)); !ok || !impl.GoodLabels(labelsOf("a", word)) {
			t.Errorf("%q is a word", word)
		}
	}
	for _, word := range bad {
		if _, code, ok := impl.SortLabels(labelsOf("a", word)); ok || code != 3 || impl.GoodLabels(labelsOf("a", word)) {
			t.Errorf("%q is no word: %d", word, code)
		}
	}
	l, code, ok := impl.SortLabels(labelsOf("a", ""))
	if len(l) != 0 || code != 0 || !ok {
		t.Errorf("the empty word: %v, %d, %v", l, code, ok)
	}
}

func TestGoodLabels(t *testing.T) {
	good := append(risingLabels(), []impl.Label{}, manyLabels(6, "x"), widestLabels())
	for _, l := range good {
		if !impl.GoodLabels(l) {
			t.Errorf("GoodLabels %v: false", l)
		}
	}
	for name, l := range badLabels() {
		if impl.GoodLabels(l) {
			t.Errorf("GoodLabels, %s: true", name)
		}
	}
}

func TestSortLabels(t *testing.T) {
	cases := []struct {
		name string
		l    []impl.Label
		want []impl.Label
	}{
		{"nil", nil, nil},
		{"empty", []impl.Label{}, nil},
		{"one", labelsOf("a", "x"), labelsOf("a", "x")},
		{"one that is nothing", labelsOf("a", ""), nil},
		{"some", labelsOf("zone", "b", "up", "", "job", "a"), labelsOf("job", "a", "zone", "b")},
		{"falling", labelsOf("c", "1", "b", "2", "a", "3"), labelsOf("a", "3", "b", "2", "c", "1")},
		{"by bytes", labelsOf("aa", "1", "a_", "2", "a0", "3", "a", "4", "_", "5", "b", "6"),
			labelsOf("_", "5", "a", "4", "a0", "3", "a_", "2", "aa", "1", "b", "6")},
		{"by Name, not by Is", labelsOf("b", "1", "a", "2"), labelsOf("a", "2", "b", "1")},
		{"the same Is", labelsOf("b", "x", "a", "x"), labelsOf("a", "x", "b", "x")},
		{"the widest", widestLabels(), widestLabels()},
		{"12 that are nothing", manyLabels(12, ""), nil},
		{"12, of which 6 are something", append(manyLabels(12, "")[6:], manyLabels(6, "x")...), manyLabels(6, "x")},
		{"12, of which 1 is something", append(manyLabels(11, ""), labelsOf("z", "x")...), labelsOf("z", "x")},
	}
	for _, c := range cases {
		l, code, ok := impl.SortLabels(c.l)
		if !slices.Equal(l, c.want) || code != 0 || !ok {
			t.Errorf("%s: %v, %d, %v", c.name, l, code, ok)
		}
	}
}

func TestLabelsInAnyOrderBecomeGoodOnes(t *testing.T) {
	for _, want := range append(risingLabels(), manyLabels(6, "x"), widestLabels()) {
		for turn := range 50 {
			mixed := shuffled(append(slices.Clone(want), labelsOf("x_1", "", "x_2", "", "y_", "")...), turn)
			l, code, ok := impl.SortLabels(mixed)
			if !slices.Equal(l, want) || code != 0 || !ok {
				t.Fatalf("SortLabels %v: %v, %d, %v", mixed, l, code, ok)
			}
			if !impl.GoodLabels(l) {
				t.Fatalf("SortLabels %v: not good", mixed)
			}
		}
	}
}

func TestCodesOfSortLabels(t *testing.T) {
	cases := []struct {
		name string
		l    []impl.Label
		code int
	}{
		{"13", manyLabels(13, ""), 1},
		{"13 that are something", manyLabels(13, "x"), 1},
		{"1000", slices.Repeat(labelsOf("a", "x"), 1000), 1},
		{"13 and all other faults", slices.Repeat(labelsOf("a", "x", "", "{", "a", "x"), 5), 1},
		{"no Name", labelsOf("", "x"), 2},
		{"no Name and no Is", labelsOf("", ""), 2},
		{"no Name twice", labelsOf("", "x", "", "x"), 2},
		{"a Name that is none, with no Is", labelsOf("1", ""), 2},
		{"a Name that is none, as the 12th", append(manyLabels(11, ""), labelsOf("Z", "x")...), 2},
		{"a Name of 13 bytes", labelsOf("abcdefghijklm", "x"), 2},
		{"a Name behind an Is", labelsOf("a", "{", "B", "x"), 2},
		{"a Name behind a Name twice", labelsOf("a", "x", "a", "x", "B", "x"), 2},
		{"a Name and 7", append(manyLabels(7, "x"), labelsOf("B", "x")...), 2},
		{"an Is that is none", labelsOf("a", "x y"), 3},
		{"an Is of 13 bytes", labelsOf("a", "xxxxxxxxxxxxx"), 3},
		{"an Is as the 12th", append(manyLabels(11, ""), labelsOf("z", "}")...), 3},
		{"an Is behind a Name twice", labelsOf("a", "x", "a", "x", "b", ","), 3},
		{"an Is of a Name that is there twice", labelsOf("a", "", "a", `"`), 3},
		{"an Is and 7", append(manyLabels(7, "x"), labelsOf("z", "\x7f")...), 3},
		{"twice the same", labelsOf("a", "x", "a", "x"), 4},
		{"twice with another Is", labelsOf("a", "x", "a", "y"), 4},
		{"twice, the second with none", labelsOf("a", "x", "a", ""), 4},
		{"twice, the first with none", labelsOf("a", "", "a", "x"), 4},
		{"twice, both with none", labelsOf("a", "", "a", ""), 4},
		{"twice, far apart", labelsOf("b", "x", "c", "", "a", "x", "d", "x", "b", ""), 4},
		{"twice, the greatest", labelsOf("z", "x", "c", "x", "z", "x"), 4},
		{"twice, with none, as the 12th", append(manyLabels(11, ""), labelsOf("a", "")...), 4},
		{"thrice", labelsOf("a", "x", "a", "y", "a", "z"), 4},
		{"twice and 7", append(manyLabels(7, "x"), labelsOf("c", "")...), 4},
		{"twice and so 7", append(manyLabels(6, "x"), labelsOf("c", "x")...), 4},
		{"7", manyLabels(7, "x"), 5},
		{"7 of 12", append(manyLabels(12, "")[7:], manyLabels(7, "x")...), 5},
		{"12", manyLabels(12, "x"), 5},
	}
	for _, c := range cases {
		for turn := range 10 {
			mixed := shuffled(c.l, turn)
			if turn == 0 {
				mixed = c.l
			}
			l, code, ok := impl.SortLabels(mixed)
			if len(l) != 0 || code != c.code || ok {
				t.Errorf("%s: %v, %d, %v", c.name, l, code, ok)
			}
		}
	}
}

func TestCompareLabelsOfAllPairs(t *testing.T) {
	l := risingLabels()
	for i, a := range l {
		for j, b := range l {
			want := 0
			if i < j {
				want = -1
			} else if i > j {
				want = 1
			}
			if n, ok := impl.CompareLabels(a, b); n != want || !ok {
				t.Errorf("CompareLabels %v %v: %d, %v", a, b, n, ok)
			}
			if n, ok := impl.CompareLabels(slices.Clone(a), b); n != want || !ok {
				t.Errorf("CompareLabels of a copy of %v, %v: %d, %v", a, b, n, ok)
			}
		}
	}
	widest := widestLabels()
	for many := range len(widest) {
		shorter, _ := impl.CompareLabels(widest[:many], widest)
		longer, _ := impl.CompareLabels(widest, widest[:many])
		if shorter != -1 || longer != 1 {
			t.Errorf("%d of 6: %d and %d", many, shorter, longer)
		}
	}
	if n, ok := impl.CompareLabels(nil, []impl.Label{}); n != 0 || !ok {
		t.Errorf("none and none: %d, %v", n, ok)
	}
}

func TestLabelsText(t *testing.T) {
	cases := []struct {
		l    []impl.Label
		text string
	}{
		{nil, `{}`},
		{[]impl.Label{}, `{}`},
		{labelsOf("job", "a"), `{job="a"}`},
		{labelsOf("job", "a", "zone", "b"), `{job="a",zone="b"}`},
		{labelsOf("_", "=", "a", "==", "b", "a=b"), `{_="=",a="==",b="a=b"}`},
		{labelsOf("a", "*", "b", `\`, "c", "'"), `{a="*",b="\",c="'"}`},
		{manyLabels(6, "~"), `{a="~",b="~",c="~",d="~",e="~",f="~"}`},
		{labelsOf("abcdefghijkl", "ABCDEFGHIJKL"), `{abcdefghijkl="ABCDEFGHIJKL"}`},
	}
	for _, c := range cases {
		if text, ok := impl.LabelsText(c.l); text != c.text || !ok {
			t.Errorf("LabelsText %v: %q, %v", c.l, text, ok)
		}
		if l, ok := impl.ReadLabels(c.text); !slices.Equal(l, c.l) || !ok {
			t.Errorf("ReadLabels %q: %v, %v", c.text, l, ok)
		}
	}
}

func TestLabelsAreReadBack(t *testing.T) {
	all := append(risingLabels(), manyLabels(6, "x"), widestLabels())
	for i := range wordBytes {
		all = append(all, labelsOf("a", wordBytes[i:i+1], "b", wordBytes[i:min(i+12, len(wordBytes))]))
	}
	for _, l := range all {
		text, ok := impl.LabelsText(l)
		if !ok {
			t.Fatalf("LabelsText %v: false", l)
		}
		got, ok := impl.ReadLabels(text)
		if !slices.Equal(got, l) || !ok {
			t.Errorf("ReadLabels %q: %v, %v", text, got, ok)
		}
	}
}

func wantNoLabels(t *testing.T, text string) {
	t.Helper()
	if l, ok := impl.ReadLabels(text); len(l) != 0 || ok {
		t.Errorf("ReadLabels %.60q: %v, %v", text, l, ok)
	}
}

func TestTextsThatAreNoLabelsText(t *testing.T) {
	texts := []string{
		"", "{", "}", "}{", "{{}", "{}}", "{{}}", "{}{}", " {}", "{} ", "{}\n", "{ }", "{,}", "{,,}", "x",
		`job="a"`, `{job="a"`, `job="a"}`, `{job="a"}}`, `{{job="a"}`, `{job="a"} `, ` {job="a"}`,
		`{job="a",}`, `{,job="a"}`, `{job="a",,zone="b"}`, `{job="a", zone="b"}`, `{job="a";zone="b"}`,
		`{job="a"zone="b"}`, `{job="a"}{zone="b"}`, `{job="a"},{zone="b"}`,
		`{job=a}`, `{job="a}`, `{job=a"}`, `{job='a'}`, `{job"a"}`, `{job:"a"}`, `{job=="a"}`, `{job="a""}`, `{job=""a"}`,
		`{job =  "a"}`, `{job= "a"}`, `{job ="a"}`, `{"job"="a"}`, `{job}`, `{job=}`, `{job="}`, `{="a"}`, `{="}`, `{"}`, `{=""}`,
		`{job=""}`, `{job="a",zone=""}`, `{zone="b",job="a"}`, `{job="a",job="b"}`, `{job="a",job="a"}`,
		`{Job="a"}`, `{1job="a"}`, `{job="a b"}`, `{job="a,b"}`, `{job="{"}`, `{job="}"}`, `{job="a\""}`,
		`{abcdefghijklm="a"}`, `{job="abcdefghijklm"}`, "{job=\"\u00e9\"}", "{job=\"\xff\"}", "{\u00e9=\"a\"}",
		`{a="x",b="x",c="x",d="x",e="x",f="x",g="x"}`, `{a!="x"}`, `{a=~"x"}`,
		strings.Repeat("{}", 200), strings.Repeat("{", 400), strings.Repeat(",", 400), strings.Repeat(`a="x",`, 66),
		strings.Repeat(" ", 401), strings.Repeat(`{job="a"}`, 45), "{" + strings.Repeat(`a="x",`, 10000) + "}",
		`{}` + strings.Repeat("\x00", 399), `{job="a"}` + strings.Repeat(" ", 392), `{job="` + strings.Repeat("a", 400) + `"}`,
	}
	for _, s := range texts {
		wantNoLabels(t, s)
	}
}

// TestOneByteAmissInLabelsText tries each byte at each place of some texts: more, less, or another one.
// What is read all the same must come out again just as it was.
func TestOneByteAmissInLabelsText(t *testing.T) {
	for _, l := range [][]impl.Label{nil, labelsOf("job", "a"), labelsOf("a", "=", "b_2", "x=y"), widestLabels()} {
		text, _ := impl.LabelsText(l)
		read := 0
		for _, s := range oneByteAmiss(text) {
			got, ok := impl.ReadLabels(s)
			if !ok {
				wantNoLabels(t, s)
				continue
			}
			read++
			back, good := impl.LabelsText(got)
			if back != s || !good || slices.Equal(got, l) {
				t.Errorf("ReadLabels %q: %v", s, got)
			}
		}
		if (read == 0) != (len(l) == 0) {
			t.Errorf("of texts like %s %d are read", text, read)
		}
	}
}

func TestHashLabels(t *testing.T) {
	cases := []struct {
		l    []impl.Label
		hash int
	}{
		{nil, 575},
		{[]impl.Label{}, 575},
		{labelsOf("job", "a"), 348},
		{labelsOf("job", "b"), 300},
		{labelsOf("job", "a", "zone", "b"), 545},
		{labelsOf("_", "~"), 196},
		{widestLabels(), 691},
	}
	for _, c := range cases {
		if n, ok := impl.HashLabels(c.l); n != c.hash || !ok {
			t.Errorf("HashLabels %v: %d, %v", c.l, n, ok)
		}
	}
	for _, l := range risingLabels() {
		n, ok := impl.HashLabels(l)
		again, _ := impl.HashLabels(slices.Clone(l))
		if n != hashOfText(l) || n != again || !ok {
			t.Errorf("HashLabels %v: %d, %d, %v", l, n, again, ok)
		}
	}
}

// hashOfText reckons from the last byte on, with the powers of 31.
func hashOfText(l []impl.Label) int {
	text, _ := impl.LabelsText(l)
	hash, power := 0, 1
	for i := len(text) - 1; i >= 0; i-- {
		hash = (hash + int(text[i])*power) % 1009
		power = power * 31 % 1009
	}
	return (hash + 7*power) % 1009
}

func TestIsFor(t *testing.T) {
	for _, l := range append(risingLabels(), widestLabels()) {
		for _, label := range l {
			if is, ok := impl.IsFor(l, label.Name); is != label.Is || !ok {
				t.Errorf("IsFor %v %q: %q, %v", l, label.Name, is, ok)
			}
		}
		for _, name := range []string{"", "absent", "jo", "jobs", "Job", "1", " ", "{}", "\xff", strings.Repeat("a", 1000)} {
			if is, ok := impl.IsFor(l, name); is != "" || !ok {
				t.Errorf("IsFor %v %.20q: %q, %v", l, name, is, ok)
			}
		}
	}
	if is, ok := impl.IsFor(labelsOf("a", "b", "c", "d"), "b"); is != "" || !ok {
		t.Errorf("IsFor of an Is: %q, %v", is, ok)
	}
}

func TestWithoutNames(t *testing.T) {
	l := labelsOf("job", "a", "up", "1", "zone", "b")
	var absent []string
	for i := range 20 {
		absent = append(absent, fmt.Sprint("no", i))
	}
	cases := []struct {
		name  string
		l     []impl.Label
		names []string
		want  []impl.Label
	}{
		{"nil", l, nil, l},
		{"none", l, []string{}, l},
		{"the first", l, []string{"job"}, labelsOf("up", "1", "zone", "b")},
		{"one between", l, []string{"up"}, labelsOf("job", "a", "zone", "b")},
		{"the last", l, []string{"zone"}, labelsOf("job", "a", "up", "1")},
		{"two, in any order", l, []string{"zone", "job"}, labelsOf("up", "1")},
		{"one many times", l, slices.Repeat([]string{"up"}, 20), labelsOf("job", "a", "zone", "b")},
		{"all", l, []string{"up", "zone", "job"}, nil},
		{"one that is not there", l, []string{"nobody"}, l},
		{"what is no name", l, []string{"", "JOB", "1", "job ", "{", "\xff", "a", strings.Repeat("x", 1000)}, l},
		{"20 that are not there", l, absent, l},
		{"20, the last one there", l, append(slices.Clone(absent[1:]), "job"), labelsOf("up", "1", "zone", "b")},
		{"of none", nil, []string{"job"}, nil},
		{"of none, none", nil, nil, nil},
		{"of none, 20", nil, absent, nil},
		{"of six", manyLabels(6, "x"), []string{"f", "b"}, labelsOf("a", "x", "c", "x", "d", "x", "e", "x")},
	}
	for _, c := range cases {
		got, ok := impl.WithoutNames(c.l, c.names)
		if !slices.Equal(got, c.want) || !ok || !impl.GoodLabels(got) {
			t.Errorf("%s: %v, %v", c.name, got, ok)
		}
	}
	for _, l := range [][]impl.Label{nil, l, manyLabels(6, "x")} {
		for _, names := range [][]string{append(slices.Clone(absent), "job"), make([]string, 21), make([]string, 1000)} {
			if got, ok := impl.WithoutNames(l, names); len(got) != 0 || ok {
				t.Errorf("%d names: %v, %v", len(names), got, ok)
			}
		}
	}
}

func TestLabelsThatAreNotGoodGetZero(t *testing.T) {
	good := labelsOf("a", "x")
	for name, l := range badLabels() {
		for _, pair := range [][2][]impl.Label{{l, good}, {good, l}, {l, l}, {l, nil}, {nil, l}} {
			if n, ok := impl.CompareLabels(pair[0], pair[1]); n != 0 || ok {
				t.Errorf("CompareLabels, %s: %d, %v", name, n, ok)
			}
		}
		if s, ok := impl.LabelsText(l); s != "" || ok {
			t.Errorf("LabelsText, %s: %q, %v", name, s, ok)
		}
		if n, ok := impl.HashLabels(l); n != 0 || ok {
			t.Errorf("HashLabels, %s: %d, %v", name, n, ok)
		}
		for _, asked := range []string{"a", "b", "", "absent"} {
			if s, ok := impl.IsFor(l, asked); s != "" || ok {
				t.Errorf("IsFor, %s: %q, %v", name, s, ok)
			}
		}
		for _, names := range [][]string{nil, {"a"}, {""}, make([]string, 20), make([]string, 21)} {
			if got, ok := impl.WithoutNames(l, names); len(got) != 0 || ok {
				t.Errorf("WithoutNames, %s: %v, %v", name, got, ok)
			}
		}
	}
}

func callAllOfLabels(l []impl.Label, names []string) string {
	sorted, code, done := impl.SortLabels(l)
	less, fine := impl.CompareLabels(l, manyLabels(3, "x"))
	more, well := impl.CompareLabels(manyLabels(3, "x"), l)
	text, told := impl.LabelsText(l)
	hash, sum := impl.HashLabels(l)
	is, has := impl.IsFor(l, "b")
	rest, kept := impl.WithoutNames(l, names)
	return fmt.Sprint(impl.GoodLabels(l), sorted, code, done, less, fine, more, well, text, told, hash, sum, is, has, rest, kept)
}

func TestLabelsAreLeftAsTheyWere(t *testing.T) {
	lists := [][]impl.Label{nil, manyLabels(3, "x"), manyLabels(6, "x"), manyLabels(13, "x"),
		labelsOf("c", "1", "b", "", "a", "2"), labelsOf("c", "1", "a", "2", "b", "3"), labelsOf("b", "1", "b", "")}
	for _, list := range lists {
		for _, many := range []int{0, 1, 19, 20, 21} {
			// What lies behind the lengths must be neither read nor written.
			room := append(slices.Clone(list), labelsOf("a", "9", "b", "8", "", "{")...)
			nameRoom := append(slices.Repeat([]string{"b"}, many), "a", "c", "x")
			wasRoom, wasNames := slices.Clone(room), slices.Clone(nameRoom)
			l, names := room[:len(list)], nameRoom[:many]
			got := callAllOfLabels(l, names)
			if want := callAllOfLabels(slices.Clone(l), slices.Clone(names)); got != want {
				t.Errorf("%v: %s with more behind, %s without", l, got, want)
			}
			if !slices.Equal(room, wasRoom) || !slices.Equal(nameRoom, wasNames) {
				t.Errorf("%v was written into: %v, %v", l, room, nameRoom)
			}
		}
	}
}

func TestAnswersShareNothingWithLabels(t *testing.T) {
	overwrite := func(l []impl.Label) {
		l = append(l, labelsOf("over", "1", "over", "2")...)
		for i := range l[:cap(l)] {
			l[:cap(l)][i] = impl.Label{Name: "over", Is: "0"}
		}
	}
	for _, list := range [][]impl.Label{nil, labelsOf("a", "x"), manyLabels(3, "x"), manyLabels(6, "x")} {
		room := append(slices.Clone(list), labelsOf("y", "1", "z", "2")...)
		was := slices.Clone(room)
		l := room[:len(list)]
		for range 2 {
			sorted, _, ok := impl.SortLabels(l)
			rest, kept := impl.WithoutNames(l, nil)
			less, cut := impl.WithoutNames(l, []string{"f", "c"})
			text, told := impl.LabelsText(l)
			read, back := impl.ReadLabels(text)
			if !slices.Equal(sorted, list) || !slices.Equal(rest, list) || !slices.Equal(read, list) || !ok || !kept || !cut || !told || !back {
				t.Errorf("%v: %v, %v, %v", list, sorted, rest, read)
			}
			for _, answer := range [][]impl.Label{sorted, rest, less, read} {
				overwrite(answer)
			}
			if !slices.Equal(room, was) {
				t.Errorf("an answer shares memory with %v", room)
			}
		}
	}
}
