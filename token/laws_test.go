package token_test

import (
	"math/rand"
	"regexp"
	"slices"
	"strings"
	"testing"

	"manystrand/api"
	"manystrand/token"
)

var (
	someVars  = []string{"X", "Y1", "Ab_", "If"}
	someAtoms = []string{"a", "iff", "x_1", "if", "", "a b", "'", "\\", "\n", "%", "/*", "*/", "\"", "X", "0"}
	someInts  = []string{"0", "1", "10", "~1", "~10", "999999999999999999", "~999999999999999999"}
	someTexts = []string{"", "a", "\"", "'", "\\n", "\n", "/* %", "&"}
	someChars = []string{"a", "X", "0", "'", "\"", "%", "&", "\n", " ", "\\", "n", "s", "/", "*", "~"}
	someGaps  = []string{" ", "\n", "\t\r", "%\n", "% 'a\n", "/**/", " /* /* ' */ % \" */", "/***/%/*\n"}
)

func someTokens(r *rand.Rand) []api.Token {
	var l []api.Token
	for range r.Intn(8) {
		kinds := []string{"var", "atom", "int", "text", "char", "key", "sign"}
		texts := [][]string{someVars, someAtoms, someInts, someTexts, someChars, keys, signs}
		k := r.Intn(len(kinds))
		l = append(l, api.Token{Kind: kinds[k], Text: texts[k][r.Intn(len(texts[k]))], At: r.Intn(100) - 50})
	}
	return l
}

func withoutPlaces(l []api.Token) []api.Token {
	var out []api.Token
	for _, t := range l {
		out = append(out, api.Token{Kind: t.Kind, Text: t.Text})
	}
	return out
}

func TestTokensOfJoin(t *testing.T) {
	r := rand.New(rand.NewSource(1))
	for range 20000 {
		l := someTokens(r)
		s, err := token.Join(l)
		got, err2 := token.Tokens(s)
		if err != api.OK || err2 != api.OK || !slices.Equal(withoutPlaces(got), withoutPlaces(l)) {
			t.Fatalf("P1.5: %v: %q: %v", l, s, got)
		}
	}
}

func TestGapsChangeOnlyPlaces(t *testing.T) {
	r := rand.New(rand.NewSource(2))
	for range 20000 {
		l := someTokens(r)
		var b strings.Builder
		var places []int
		b.WriteString(strings.Repeat(someGaps[r.Intn(len(someGaps))], r.Intn(2)))
		for _, tok := range l {
			places = append(places, b.Len())
			s, _ := token.Text(tok)
			b.WriteString(s)
			for range 1 + r.Intn(2) {
				b.WriteString(someGaps[r.Intn(len(someGaps))])
			}
		}
		got, err := token.Tokens(b.String())
		if err != api.OK || !slices.Equal(withoutPlaces(got), withoutPlaces(l)) {
			t.Fatalf("P1.5: %q: %v, %d; want %v", b.String(), got, err, l)
		}
		for i, tok := range got {
			if tok.At != places[i] {
				t.Fatalf("P1.5: %q: token %d at %d, want %d", b.String(), i, tok.At, places[i])
			}
		}
	}
}

func longest(shape string) *regexp.Regexp {
	r := regexp.MustCompile(shape)
	r.Longest()
	return r
}

// The shapes of tokens as regular expressions of the longest match: a second reading of the
// chapter, which shares nothing with the first one.
var shapes = []struct {
	kind  string
	shape *regexp.Regexp
}{
	{"var", longest(`^[A-Z][A-Za-z0-9_]*`)},
	{"atom", longest(`^[a-z][A-Za-z0-9_]*`)},
	{"atom", longest(`^'([ -&(-\[\]-~]|\\['\\n])*'`)},
	{"text", longest(`^"([ !#-\[\]-~]|\\["\\n])*"`)},
	{"int", longest(`^~?[0-9]+`)},
	{"char", longest(`^&([!-\[\]-~]|\\[ns\\])`)},
	{"sign", longest(`^(\(|\)|\{|\}|\[|\]|\[\]|\.|\||#|=|\\=|==|<|=<|>|>=|\+|-|\*|~|:=|@|!!|:|\.\.\.|\$|_)`)},
}

var meanings = strings.NewReplacer(`\n`, "\n", `\'`, `'`, `\"`, `"`, `\\`, `\`)

// shaped reads one token by the shapes; its source is empty, if none begins a text.
func shaped(text string) (tok api.Token, source string) {
	for _, s := range shapes {
		if found := s.shape.FindString(text); len(found) > len(source) {
			tok, source = api.Token{Kind: s.kind, Text: found}, found
		}
	}
	switch {
	case slices.Contains(keys, source):
		tok.Kind = "key"
	case source == "~0":
		return api.Token{Kind: "sign", Text: "~"}, "~"
	case tok.Kind == "int" && (len(strings.TrimPrefix(source, "~")) > 18 || source != "0" && strings.TrimPrefix(source, "~")[0] == '0'):
		return api.Token{}, ""
	case tok.Kind == "char" && source == `&\s`:
		tok.Text = " "
	case tok.Kind == "char":
		tok.Text = meanings.Replace(source[1:])
	case strings.ContainsAny(source[:min(1, len(source))], `'"`):
		tok.Text = meanings.Replace(source[1 : len(source)-1])
	}
	if tok.Kind == "text" && len(tok.Text) > 200 || tok.Kind != "text" && len(tok.Text) > 60 {
		return api.Token{}, ""
	}
	return tok, source
}

// remark returns the blank or the remark with which a text begins, and whether it ends.
func remark(text string) (source string, ends bool) {
	switch {
	case strings.ContainsAny(text[:min(1, len(text))], " \t\n\r"):
		return text[:1], true
	case strings.HasPrefix(text, "%"):
		line, _, found := strings.Cut(text, "\n")
		if found {
			return line + "\n", true
		}
		return line, true
	case !strings.HasPrefix(text, "/*"):
		return "", true
	}
	// Inner remarks first: what is left of the outermost one then ends at its first end.
	for at := 2; at < len(text); {
		if inner, ends := remark(text[at:]); strings.HasPrefix(text[at:], "/*") {
			if !ends {
				return "", false
			}
			at += len(inner)
			continue
		}
		if strings.HasPrefix(text[at:], "*/") {
			return text[:at+2], true
		}
		at++
	}
	return "", false
}

func shapedTokens(text string) (l []api.Token, bad int, err api.Errno) {
	for at := 0; at < len(text); {
		gap, ends := remark(text[at:])
		if !ends {
			return nil, at, api.ErrToken
		}
		if gap != "" {
			at += len(gap)
			continue
		}
		tok, source := shaped(text[at:])
		if source == "" {
			return nil, at, api.ErrToken
		}
		tok.At = at
		l = append(l, tok)
		at += len(source)
	}
	return l, 0, api.OK
}

func checkShaped(t *testing.T, text string) {
	t.Helper()
	want, bad, wantErr := shapedTokens(text)
	l, err := token.Tokens(text)
	at, err2 := token.Bad(text)
	if err != wantErr || err2 != wantErr || at != bad || !slices.Equal(l, want) {
		t.Fatalf("P1.1: %q: %v, %d, %d, %d; want %v, %d, %d", text, l, err, at, err2, want, bad, wantErr)
	}
	for i, tok := range l {
		if i > 0 && tok.At <= l[i-1].At {
			t.Fatalf("P1.5: %q: token %d does not stand behind the last one: %v", text, i, l)
		}
		if !token.Valid(tok) {
			t.Fatalf("P1.2: %q: a token that is not valid: %v", text, tok)
		}
	}
}

func TestAllShortSources(t *testing.T) {
	for _, alphabet := range []string{"aX0~_ ", "'\"\\na&", "/*%\na'", "=<>:.!\\", "~019 x", "[]()&s\\"} {
		texts := []string{""}
		for range 6 {
			var longer []string
			for _, s := range texts {
				for i := range len(alphabet) {
					longer = append(longer, s+alphabet[i:i+1])
				}
			}
			if len(longer) > 60000 {
				break
			}
			for _, s := range longer {
				checkShaped(t, s)
			}
			texts = longer
		}
	}
}

func TestRandomSources(t *testing.T) {
	r := rand.New(rand.NewSource(3))
	pieces := slices.Concat(keys, signs, someGaps, []string{"X", "a", "'", "\"", "\\", "&", "0", "12", "~", "~3", "_", "'a'", "\"b\"", "&\\s", "/*", "*/", "\\n", "\xff"})
	for range 50000 {
		var b strings.Builder
		for range r.Intn(10) {
			b.WriteString(pieces[r.Intn(len(pieces))])
		}
		checkShaped(t, b.String())
	}
}

func TestNoPanicOnAnyByte(t *testing.T) {
	for a := range 256 {
		for b := range 256 {
			s := string([]byte{byte(a), byte(b)})
			token.Tokens("&" + s)
			token.Quote(s)
			checkShaped(t, s)
		}
	}
}
