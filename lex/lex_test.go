package lex

import (
	"math"
	"math/big"
	"regexp"
	"slices"
	"strings"
	"testing"

	"dataflow/api"
)

// keywordList is the list of keywords of the chapter.
const keywordList = "class extends var def static if else while try catch throw return new null this input int"

// pieces are parts of texts: words, numbers and marks, beginnings of them, separators, comments, and bytes that begin no token.
var pieces = []string{
	"a", "Z", "x_1", "_", "class", "classes", "Class", "int", "input", "null", "z__", strings.Repeat("n", 31), strings.Repeat("M", 32), strings.Repeat("k", 33),
	"0", "7", "10", "007", "9223372036854775807", "9223372036854775808", "99999999999999999999999999",
	"::", "==", ":", "{", "}", "(", ")", ";", ",", ".", "=", "<", "+", "-", "*",
	" ", "\t", "\r", "\n", "//", "// a 1b é\n", "/", "é", "\xc3", "\xff", "\x00", "\v", "\f", "\u00a0", "\u0660", "\u212a", "&", ">", "\"", "'", "[", "@", "`", "!", "\U0001f600",
}

var (
	wordForm   = regexp.MustCompile(`^[a-zA-Z][a-zA-Z0-9_]*`)
	digitsForm = regexp.MustCompile(`^[0-9]+`)
	markForm   = regexp.MustCompile(`^(::|==|[:{}();,.=<+*-])`)
)

// sample returns some text of pieces, another one for each seed.
func sample(seed uint, count int) string {
	var text strings.Builder
	for range count {
		seed = seed*6364136223846793005 + 1442695040888963407
		text.WriteString(pieces[seed>>33%uint(len(pieces))])
	}
	return text.String()
}

// texts returns all texts of at most three short pieces and some of more pieces, many of which are not valid.
func texts() []string {
	short := []string{"a", "Z", "_", "0", "9", ":", "=", "<", "-", ".", "/", "\n", " ", "é"}
	all := []string{""}
	for from := 0; from < len(all) && len(all) < 1+14+14*14+14*14*14; from++ {
		for _, piece := range short {
			all = append(all, all[from]+piece)
		}
	}
	for i := range uint(4000) {
		all = append(all, sample(i, 1+int(i%9)))
	}
	for _, a := range pieces {
		for _, b := range pieces {
			all = append(all, a+b, a+" "+b)
		}
	}
	return all
}

// valid returns those texts that have tokens.
func valid() []string {
	return slices.DeleteFunc(texts(), func(s string) bool {
		_, _, e := Tokens(s)
		return e != api.OK
	})
}

// wantToken is the model of the token at the beginning of s, which is no separator and no comment.
func wantToken(s string) (api.Token, api.Errno) {
	if text := wordForm.FindString(s); text != "" {
		return wantWord(text)
	}
	if text := digitsForm.FindString(s); text != "" {
		return wantNumber(text, s[len(text):])
	}
	if text := markForm.FindString(s); text != "" {
		return api.Token{Kind: api.TokMark, Text: text}, api.OK
	}
	return api.Token{}, api.ErrSyntax
}

func wantWord(text string) (api.Token, api.Errno) {
	if len(text) > 32 {
		return api.Token{}, api.ErrTooLong
	}
	if slices.Contains(strings.Fields(keywordList), text) {
		return api.Token{Kind: api.TokKeyword, Text: text}, api.OK
	}
	return api.Token{Kind: api.TokWord, Text: text}, api.OK
}

func wantNumber(text, after string) (api.Token, api.Errno) {
	if text[0] == '0' && len(text) > 1 || after != "" && (after[0] == '_' || wordForm.MatchString(after)) {
		return api.Token{}, api.ErrSyntax
	}
	n, _ := new(big.Int).SetString(text, 10)
	if n.Cmp(big.NewInt(math.MaxInt64)) > 0 {
		return api.Token{}, api.ErrRange
	}
	return api.Token{Kind: api.TokNumber, Text: text, N: n.Int64()}, api.OK
}

// skip returns the offset after the separators and comments that follow an offset.
func skip(s string, at int) int {
	for at < len(s) {
		if strings.HasPrefix(s[at:], "//") {
			for at < len(s) && s[at] != '\n' {
				at++
			}
		} else if strings.IndexByte(" \t\r\n", s[at]) >= 0 {
			at++
		} else {
			break
		}
	}
	return at
}

// wantTokens is the model of Tokens.
func wantTokens(s string) ([]api.Token, int, api.Errno) {
	if len(s) > 65536 {
		return nil, 0, api.ErrTooLong
	}
	var list []api.Token
	for at := skip(s, 0); at < len(s); at = skip(s, at) {
		token, e := wantToken(s[at:])
		if e != api.OK {
			return nil, at, e
		}
		token.At = at
		list = append(list, token)
		at += len(token.Text)
	}
	return append(list, api.Token{Kind: api.TokEnd, At: len(s)}), 0, api.OK
}

func TestTokens(t *testing.T) { // P7.1
	word := func(kind, at int, text string) api.Token { return api.Token{Kind: kind, At: at, Text: text} }
	for _, c := range []struct {
		s    string
		want []api.Token
	}{
		{"var x2: int;", []api.Token{word(api.TokKeyword, 0, "var"), word(api.TokWord, 4, "x2"), word(api.TokMark, 6, ":"), word(api.TokKeyword, 8, "int"), word(api.TokMark, 11, ";"), word(api.TokEnd, 12, "")}},
		{"", []api.Token{word(api.TokEnd, 0, "")}},
		{" \t\r\n", []api.Token{word(api.TokEnd, 4, "")}},
		{"//", []api.Token{word(api.TokEnd, 2, "")}},
		{"a//b\r c\nd// e", []api.Token{word(api.TokWord, 0, "a"), word(api.TokWord, 8, "d"), word(api.TokEnd, 13, "")}},
		{"// \xff\x00é/**/\n*", []api.Token{word(api.TokMark, 12, "*"), word(api.TokEnd, 13, "")}},
		{":::a===<", []api.Token{word(api.TokMark, 0, "::"), word(api.TokMark, 2, ":"), word(api.TokWord, 3, "a"), word(api.TokMark, 4, "=="), word(api.TokMark, 6, "="), word(api.TokMark, 7, "<"), word(api.TokEnd, 8, "")}},
		{"-9223372036854775807", []api.Token{word(api.TokMark, 0, "-"), {Kind: api.TokNumber, At: 1, Text: "9223372036854775807", N: math.MaxInt64}, word(api.TokEnd, 20, "")}},
		{"0 10.2", []api.Token{{Kind: api.TokNumber, Text: "0"}, {Kind: api.TokNumber, At: 2, Text: "10", N: 10}, word(api.TokMark, 4, "."), {Kind: api.TokNumber, At: 5, Text: "2", N: 2}, word(api.TokEnd, 6, "")}},
	} {
		if l, at, e := Tokens(c.s); e != api.OK || at != 0 || !slices.Equal(l, c.want) {
			t.Errorf("Tokens %q: %v %d %d", c.s, l, at, int(e))
		}
	}
}

func TestTokensErrors(t *testing.T) { // P7.1
	long := strings.Repeat("w", 33)
	for _, c := range []struct {
		s    string
		at   int
		want api.Errno
	}{
		{"a 1b", 2, api.ErrSyntax},
		{"a 1_", 2, api.ErrSyntax},
		{"00", 0, api.ErrSyntax},
		{" 01", 1, api.ErrSyntax},
		{"0x1", 0, api.ErrSyntax},
		{"9223372036854775808", 0, api.ErrRange},
		{"1 18446744073709551617", 2, api.ErrRange},
		{"1 " + strings.Repeat("9", 5000), 2, api.ErrRange},
		{"9223372036854775808a", 0, api.ErrSyntax},
		{"09223372036854775808", 0, api.ErrSyntax},
		{"1é", 1, api.ErrSyntax},
		{"aé", 1, api.ErrSyntax},
		{"_a", 0, api.ErrSyntax},
		{"a / b", 2, api.ErrSyntax},
		{"a\xff", 1, api.ErrSyntax},
		{"\x00", 0, api.ErrSyntax},
		{"a > b", 2, api.ErrSyntax},
		{"(\f)", 1, api.ErrSyntax},
		{"é // \n", 0, api.ErrSyntax},
		{"// é\né", 6, api.ErrSyntax},
		{"x " + long, 2, api.ErrTooLong},
		{long + " 1b", 0, api.ErrTooLong},
		{"1b " + long, 0, api.ErrSyntax},
		{"? 9223372036854775808", 0, api.ErrSyntax},
		{"1" + long, 0, api.ErrSyntax},
	} {
		if l, at, e := Tokens(c.s); len(l) != 0 || at != c.at || e != c.want {
			t.Errorf("Tokens %q: %v %d %d, want %d %d", c.s, l, at, int(e), c.at, int(c.want))
		}
	}
}

func TestTokensAgainstTheModel(t *testing.T) { // P7.1
	for _, s := range texts() {
		l, at, e := Tokens(s)
		want, wantAt, wantE := wantTokens(s)
		if !slices.Equal(l, want) || at != wantAt || e != wantE {
			t.Errorf("Tokens %q: %v %d %d, want %v %d %d", s, l, at, int(e), want, wantAt, int(wantE))
		}
	}
	if count := len(valid()); count < 2000 || count > len(texts())-2000 {
		t.Errorf("%d of %d texts are valid", count, len(texts()))
	}
}

func TestTokensOfEachByte(t *testing.T) { // P7.1
	for b := range 256 {
		for _, s := range []string{string([]byte{byte(b)}), string([]byte{'a', byte(b), '1'}), string([]byte{'7', byte(b)}), string([]byte{'/', '/', byte(b), '\n', byte(b)})} {
			l, at, e := Tokens(s)
			want, wantAt, wantE := wantTokens(s)
			if !slices.Equal(l, want) || at != wantAt || e != wantE {
				t.Errorf("Tokens %q: %v %d %d, want %v %d %d", s, l, at, int(e), want, wantAt, int(wantE))
			}
		}
	}
}

func TestTokensOfLongTexts(t *testing.T) { // P7.1
	for _, unit := range []string{" ", "a ", ";", "::", "// \n", "/", "("} {
		s := strings.Repeat(unit, 65536/len(unit))
		l, at, e := Tokens(s)
		want, wantAt, wantE := wantTokens(s)
		if len(s) != 65536 || !slices.Equal(l, want) || at != wantAt || e != wantE {
			t.Errorf("%d bytes of %q: %d %d, want %d %d", len(s), unit, at, int(e), wantAt, int(wantE))
		}
		for _, longer := range []string{s + " ", s + "1b", "1b" + s} {
			if l, at, e := Tokens(longer); len(l) != 0 || at != 0 || e != api.ErrTooLong {
				t.Errorf("%d bytes of %q: %d %d", len(longer), unit, at, int(e))
			}
		}
	}
	if l, _, e := Tokens("//" + strings.Repeat("\xe2", 65534)); e != api.OK || len(l) != 1 || l[0].At != 65536 {
		t.Errorf("a long comment: %d", int(e))
	}
	if _, at, e := Tokens(strings.Repeat("a", 65536)); at != 0 || e != api.ErrTooLong {
		t.Errorf("a long word: %d %d", at, int(e))
	}
}

func TestIdentAndKeyword(t *testing.T) { // P7.2
	longest := strings.Repeat("a", 32)
	for _, s := range []string{"x_1", "a", "Z", "x", "A_", "a9", "Class", "classe", "clas", "NEW", "int_", "ints", "inputs", "main", longest, "E2_" + longest[3:]} {
		if !Ident(s) || Keyword(s) {
			t.Errorf("%q: Ident %t, Keyword %t", s, Ident(s), Keyword(s))
		}
	}
	for _, s := range strings.Fields(keywordList) {
		if Ident(s) || !Keyword(s) {
			t.Errorf("%q: Ident %t, Keyword %t", s, Ident(s), Keyword(s))
		}
		for _, other := range []string{s + " ", " " + s, s + "\n", s + "//", strings.ToUpper(s) + "_", s + s} {
			if Keyword(other) {
				t.Errorf("Keyword %q", other)
			}
		}
	}
	for _, s := range []string{"", "_x", "_", "1", "1a", " a", "a ", "a\n", "a b", "a-b", "a//", "//a", "é", "aé", "a\x00", "\xff", ":", "==", longest + "a", strings.Repeat("a", 70000), "new ", "\u212a"} {
		if Ident(s) || Keyword(s) {
			t.Errorf("%q: Ident %t, Keyword %t", s, Ident(s), Keyword(s))
		}
	}
}

func TestIdentAndKeywordAgreeWithTokens(t *testing.T) { // P7.2
	for _, s := range texts() {
		kind := 0
		if l, _, e := wantTokens(s); e == api.OK && l[0].Text == s {
			kind = l[0].Kind
		}
		if Ident(s) != (kind == api.TokWord) || Keyword(s) != (kind == api.TokKeyword) {
			t.Errorf("%q: Ident %t, Keyword %t", s, Ident(s), Keyword(s))
		}
	}
}

func TestPosition(t *testing.T) { // P7.3
	if line, column, e := Position("a\nbc", 3); line != 2 || column != 2 || e != api.OK {
		t.Errorf("the example: %d %d %d", line, column, int(e))
	}
	// Position does not ask for tokens, and counts bytes.
	for _, s := range append(texts(), "\n", "\n\n", "a\r\n b", "\r\r", "1b\n\xff\xfeé\n\n?", "abc\ndef\n") {
		wantLine, wantColumn := 1, 1
		for at := range len(s) + 1 {
			if line, column, e := Position(s, at); line != wantLine || column != wantColumn || e != api.OK {
				t.Errorf("Position %q %d: %d %d %d, want %d %d", s, at, line, column, int(e), wantLine, wantColumn)
			}
			wantColumn++
			if at < len(s) && s[at] == '\n' {
				wantLine, wantColumn = wantLine+1, 1
			}
		}
	}
}

func TestPositionErrors(t *testing.T) { // P7.3
	for _, s := range []string{"", "a", "a\nbc", strings.Repeat("\n", 65536)} {
		for _, at := range []int{math.MinInt, -65537, -1, len(s) + 1, 65537, 1 << 32, math.MaxInt} {
			if line, column, e := Position(s, at); line != 0 || column != 0 || e != api.ErrRange {
				t.Errorf("Position of %d in %d bytes: %d %d %d", at, len(s), line, column, int(e))
			}
		}
	}
	longest := strings.Repeat("\n", 65536)
	if line, column, e := Position(longest, 65536); line != 65537 || column != 1 || e != api.OK {
		t.Errorf("the end of the longest text: %d %d %d", line, column, int(e))
	}
	for _, at := range []int{0, 1, 65537, -1, 65538, math.MaxInt, math.MinInt} {
		if line, column, e := Position(longest+"a", at); line != 0 || column != 0 || e != api.ErrTooLong {
			t.Errorf("Position of %d in a text that is too long: %d %d %d", at, line, column, int(e))
		}
	}
}

func TestJoin(t *testing.T) { // P7.4
	if l, _, _ := Tokens("a.b ( )"); Join(l...) != "a . b ( )" {
		t.Errorf("the example: %q", Join(l...))
	}
	for _, c := range []struct {
		texts []string
		want  string
	}{
		{nil, ""},
		{[]string{""}, ""},
		{[]string{"", "", ""}, ""},
		{[]string{"a"}, "a"},
		{[]string{"", "a", "", "", "b", ""}, "a b"},
		{[]string{" ", "1b", "\xff\n", "a b"}, "  1b \xff\n a b"},
	} {
		for kind := -1; kind < 7; kind++ {
			var l []api.Token
			for i, text := range c.texts {
				l = append(l, api.Token{Kind: kind, At: -i, Text: text, N: math.MinInt64})
			}
			if s := Join(l...); s != c.want {
				t.Errorf("Join %q of kind %d: %q, want %q", c.texts, kind, s, c.want)
			}
		}
	}
	many := slices.Repeat([]api.Token{{Text: "ab"}}, 40000)
	if s := Join(many...); s != strings.Repeat("ab ", 39999)+"ab" {
		t.Error("many tokens")
	}
}

func TestTokensStandInTheText(t *testing.T) { // P7.5
	for _, s := range valid() {
		l, _, _ := Tokens(s)
		end := 0
		for i, token := range l {
			if token.At < end || !strings.HasPrefix(s[token.At:], token.Text) || (token.Text == "") != (i == len(l)-1) {
				t.Fatalf("Tokens %q: %v", s, l)
			}
			if skip(s[:token.At], end) != token.At {
				t.Errorf("Tokens %q: more than separators and comments before %d", s, token.At)
			}
			end = token.At + len(token.Text)
		}
		if end != len(s) {
			t.Errorf("Tokens %q: %v", s, l)
		}
	}
}

func TestTokensOfJoin(t *testing.T) { // P7.6
	for _, s := range append(valid(), strings.Repeat("a ", 32768), strings.Repeat(";\n", 32768)) {
		l, _, _ := Tokens(s)
		joined := Join(l...)
		again, at, e := Tokens(joined)
		if e != api.OK || at != 0 || len(again) != len(l) {
			t.Fatalf("Tokens %q: %v %d", joined, again, int(e))
		}
		for i := range l {
			if again[i].Kind != l[i].Kind || again[i].Text != l[i].Text || again[i].N != l[i].N {
				t.Errorf("Tokens %q: %v, and of its Join: %v", s, l, again)
			}
		}
	}
}

func TestArgumentsStayAndResultsAreNew(t *testing.T) { // R5
	whole := []api.Token{{Kind: api.TokWord, Text: "a"}, {Kind: api.TokEnd}, {Kind: api.TokMark, Text: ";"}, {Kind: api.TokWord, Text: "spare"}}
	before := slices.Clone(whole)
	if s := Join(whole[:3]...); s != "a ;" || !slices.Equal(whole, before) {
		t.Error("Join changed its tokens")
	}
	first, _, _ := Tokens("a = 1;")
	first = first[:cap(first)]
	for i := range first {
		first[i] = api.Token{Kind: -1}
	}
	second, _, _ := Tokens("a = 1;")
	want, _, _ := wantTokens("a = 1;")
	if !slices.Equal(second, want) {
		t.Error("two results of Tokens share memory")
	}
}
