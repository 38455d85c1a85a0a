package token_test

import (
	"slices"
	"strings"
	"testing"

	"manystrand/api"
	"manystrand/token"
)

var keys = strings.Fields("andthen at by case catch choice div do each else end for fun if in lazy local lock mod orelse proc raise skip then thread try of")

var signs = strings.Fields(`( ) { } [ ] [] . | # = \= == < =< > >= + - * ~ := @ !! : ... $ _`)

// brief writes tokens as kind:text, so that a case of a table stays in one line.
func brief(l []api.Token) string {
	var parts []string
	for _, t := range l {
		parts = append(parts, t.Kind+":"+t.Text)
	}
	return strings.Join(parts, " ")
}

func TestTokens(t *testing.T) {
	for _, c := range [][2]string{
		{"", ""},
		{" \t\n\r", ""},
		{"X Xy_9Z A_", "var:X var:Xy_9Z var:A_"},
		{"a aB_9 iff i if", "atom:a atom:aB_9 atom:iff atom:i key:if"},
		{`'' 'a b' 'if' '"' '%' '/*'`, `atom: atom:a b atom:if atom:" atom:% atom:/*`},
		{`'\'' '\\' '\n' 'n'`, "atom:' atom:\\ atom:\n atom:n"},
		{`"" "a 'b'" "\"\\\n"`, "text: text:a 'b' text:\"\\\n"},
		{"0 7 10 ~5 ~10", "int:0 int:7 int:10 int:~5 int:~10"},
		{"~0 ~~1 ~ 1 ~a", "sign:~ int:0 sign:~ int:~1 sign:~ int:1 sign:~ atom:a"},
		{"999999999999999999 ~999999999999999999", "int:999999999999999999 int:~999999999999999999"},
		{"5a 5X 5~5 X~5 5_", "int:5 atom:a int:5 var:X int:5 int:~5 var:X int:~5 int:5 sign:_"},
		{`&a &A &0 && &' &" &% &~ &! &/`, `char:a char:A char:0 char:& char:' char:" char:% char:~ char:! char:/`},
		{`&\n&\s&\\&nn`, "char:\n char:  char:\\ char:n atom:n"},
		{"X=~5", "var:X sign:= int:~5"},
		{"a'b''c'", "atom:a atom:b atom:c"},
		{"[] [ ] [[]] []]", "sign:[] sign:[ sign:] sign:[ sign:[] sign:] sign:[] sign:]"},
		{`=== =< =<= <= >= =>= \==`, `sign:== sign:= sign:=< sign:=< sign:= sign:< sign:= sign:>= sign:= sign:>= sign:\= sign:=`},
		{".. ... .... .....", "sign:. sign:. sign:... sign:... sign:. sign:... sign:. sign:."},
		{":= : ::= :==", "sign::= sign:: sign:: sign::= sign::= sign:="},
		{"!! !!!!", "sign:!! sign:!! sign:!!"},
		{"__x _1 $x", "sign:_ sign:_ atom:x sign:_ int:1 sign:$ atom:x"},
		{"a % b 'c\n d", "atom:a atom:d"},
		{"a %", "atom:a"},
		{"a/* b */c", "atom:a atom:c"},
		{"/**/a/*/* '*/ % \" */ b", "atom:a atom:b"},
		{"/***/a /*/**/*/b", "atom:a atom:b"},
		{"% /* \n a", "atom:a"},
		{"%\xff\x00\n/*\xff\x00*/a", "atom:a"},
	} {
		l, err := token.Tokens(c[0])
		if err != api.OK || brief(l) != c[1] {
			t.Errorf("P1.1: Tokens(%q): %q, %d; want %q", c[0], brief(l), err, c[1])
		}
		if at, err := token.Bad(c[0]); at != 0 || err != api.OK {
			t.Errorf("P1.1: Bad(%q): %d, %d", c[0], at, err)
		}
	}
}

func TestTokensOfKeysAndSigns(t *testing.T) {
	for _, s := range keys {
		l, err := token.Tokens(s)
		if err != api.OK || !slices.Equal(l, []api.Token{{Kind: "key", Text: s}}) {
			t.Errorf("P1.1: %q: %v, %d", s, l, err)
		}
	}
	for _, s := range signs {
		l, err := token.Tokens(s)
		if err != api.OK || !slices.Equal(l, []api.Token{{Kind: "sign", Text: s}}) {
			t.Errorf("P1.1: %q: %v, %d", s, l, err)
		}
	}
}

func TestTokensPlaces(t *testing.T) {
	l, err := token.Tokens(" X:=\"\\n\"%\n /* */&\\s'a'~0")
	want := []api.Token{
		{Kind: "var", Text: "X", At: 1}, {Kind: "sign", Text: ":=", At: 2}, {Kind: "text", Text: "\n", At: 4},
		{Kind: "char", Text: " ", At: 16}, {Kind: "atom", Text: "a", At: 19},
		{Kind: "sign", Text: "~", At: 22}, {Kind: "int", Text: "0", At: 23},
	}
	if err != api.OK || !slices.Equal(l, want) {
		t.Errorf("P1.1: %v, %d", l, err)
	}
}

func TestBad(t *testing.T) {
	for _, c := range []struct {
		text string
		at   int
	}{
		{"a 007", 2}, {"00", 0}, {"a ~00", 2}, {"~05", 0}, {"~~05", 1}, {"~ 05", 2}, {"X~007", 1},
		{"1234567890123456789", 0}, {"a ~1234567890123456789", 2}, {"01a", 0},
		{"a 'b", 2}, {"'", 0}, {"'a\nb'", 0}, {"'\x7f'", 0}, {"'\x1f'", 0}, {"'\xc3\xa4'", 0}, {`'\t'`, 0}, {`'\"'`, 0}, {`'a\'`, 0}, {`a '\`, 2},
		{`a "b`, 2}, {`"\'"`, 0}, {"\"\t\"", 0}, {`a"b"c "`, 6},
		{"&", 0}, {"a &", 2}, {"& ", 0}, {"&\n", 0}, {"&\x7f", 0}, {`&\`, 0}, {`&\t`, 0}, {`&\'`, 0}, {"&\xff", 0},
		{"a !", 2}, {"!!!", 2}, {"a!b", 1}, {"\\", 0}, {"a / b", 2}, {"a */", 3}, {"a ,", 2}, {";", 0}, {"?", 0}, {"^", 0}, {"`", 0},
		{"\x00", 0}, {"a\x0b", 1}, {"a\x0cb", 1}, {"\xc3\xa4", 0}, {"X\xff", 1},
		{"/*", 0}, {" /* /* */ x", 1}, {"/*/", 0}, {"a /* *", 2}, {"/**/ /*/", 5}, {"/* % */ /* \n", 8},
		{"a 007 'b", 2}, {"a 'b 007", 2},
	} {
		at, err := token.Bad(c.text)
		if at != c.at || err != api.ErrToken {
			t.Errorf("P1.1: Bad(%q): %d, %d; want %d", c.text, at, err, c.at)
		}
		if l, err := token.Tokens(c.text); len(l) != 0 || err != api.ErrToken {
			t.Errorf("P1.1: Tokens(%q): %v, %d", c.text, l, err)
		}
	}
}

func TestLengths(t *testing.T) {
	word, long := strings.Repeat("a", api.MaxAtom-1), strings.Repeat("a", api.MaxText)
	for _, c := range []struct {
		text string
		at   int
		err  api.Errno
	}{
		{"X" + word, 0, api.OK},
		{". X" + word + "a", 2, api.ErrToken},
		{"a" + word, 0, api.OK},
		{". a" + word + "a b", 2, api.ErrToken},
		{"'a" + word + "'", 0, api.OK},
		{". 'aa" + word + "'", 2, api.ErrToken},
		{"'" + strings.Repeat(`\n`, api.MaxAtom) + "'", 0, api.OK},
		{"'" + strings.Repeat(`\\`, api.MaxAtom+1) + "'", 0, api.ErrToken},
		{`"` + long + `"`, 0, api.OK},
		{`. "a` + long + `"`, 2, api.ErrToken},
		{`"` + strings.Repeat(`\"`, api.MaxText) + `"`, 0, api.OK},
		{strings.Repeat(" ", api.MaxSource-1) + "a", 0, api.OK},
		{strings.Repeat(" ", api.MaxSource+1), -1, api.ErrLimit},
		{strings.Repeat("?", api.MaxSource+1), -1, api.ErrLimit},
		{strings.Repeat("/*", api.MaxSource/2), 0, api.ErrToken},
		{strings.Repeat("(", api.MaxSource), 0, api.OK},
	} {
		at, err := token.Bad(c.text)
		if at != c.at || err != c.err {
			t.Errorf("P1.1: Bad of %d bytes %.9q: %d, %d; want %d, %d", len(c.text), c.text, at, err, c.at, c.err)
		}
		if l, err := token.Tokens(c.text); err != c.err || err != api.OK && len(l) != 0 {
			t.Errorf("P1.1: Tokens of %d bytes %.9q: %d tokens, %d", len(c.text), c.text, len(l), err)
		}
	}
}

func TestText(t *testing.T) {
	word, long := strings.Repeat("a", api.MaxAtom), strings.Repeat("a", api.MaxText)
	for _, c := range [][3]string{
		{"var", "X", "X"}, {"var", "X_a0", "X_a0"}, {"var", word, ""}, {"var", "X" + word[1:], "X" + word[1:]}, {"var", "X" + word, ""},
		{"var", "", ""}, {"var", "x", ""}, {"var", "_1", ""}, {"var", "X.", ""}, {"var", "\xc4", ""},
		{"atom", "a", "a"}, {"atom", "aX_0", "aX_0"}, {"atom", "if", "'if'"}, {"atom", "", "''"}, {"atom", "X", "'X'"}, {"atom", "0", "'0'"},
		{"atom", "a b", "'a b'"}, {"atom", "a'b", `'a\'b'`}, {"atom", `a"\`, `'a"\\'`}, {"atom", "\n", `'\n'`}, {"atom", "~ ", "'~ '"},
		{"atom", word, word}, {"atom", word + "a", ""}, {"atom", "\t", ""}, {"atom", "\x7f", ""}, {"atom", "\xc3\xa4", ""}, {"atom", "\r", ""},
		{"int", "0", "0"}, {"int", "12", "12"}, {"int", "~12", "~12"}, {"int", "~0", ""}, {"int", "", ""}, {"int", "~", ""}, {"int", "007", ""},
		{"int", "~05", ""}, {"int", "~~5", ""}, {"int", "-5", ""}, {"int", "1a", ""}, {"int", "1234567890123456789", ""},
		{"int", "999999999999999999", "999999999999999999"}, {"int", "~999999999999999999", "~999999999999999999"},
		{"text", "", `""`}, {"text", "a", `"a"`}, {"text", "a'\"\\\n", `"a'\"\\\n"`}, {"text", long, `"` + long + `"`}, {"text", long + "a", ""}, {"text", "\t", ""},
		{"char", "a", "&a"}, {"char", "'", "&'"}, {"char", "&", "&&"}, {"char", "n", "&n"}, {"char", "~", "&~"},
		{"char", "\n", `&\n`}, {"char", " ", `&\s`}, {"char", `\`, `&\\`},
		{"char", "", ""}, {"char", "ab", ""}, {"char", "\t", ""}, {"char", "\x7f", ""}, {"char", "\xc3\xa4", ""}, {"char", "\x00", ""},
		{"key", "if", "if"}, {"key", "iff", ""}, {"key", "", ""}, {"key", "If", ""},
		{"sign", ":=", ":="}, {"sign", "[]", "[]"}, {"sign", "..", ""}, {"sign", "!", ""}, {"sign", "", ""}, {"sign", " =", ""},
		{"", "a", ""}, {"", "", ""}, {"Var", "X", ""}, {"word", "a", ""},
	} {
		tok := api.Token{Kind: c[0], Text: c[1], At: -7}
		want := api.OK
		if c[2] == "" {
			want = api.ErrToken
		}
		if s, err := token.Text(tok); s != c[2] || err != want {
			t.Errorf("P1.2: Text(%q): %q, %d; want %q", c[:2], s, err, c[2])
		}
		if token.Valid(tok) != (want == api.OK) {
			t.Errorf("P1.2: Valid(%q) is %t", c[:2], want != api.OK)
		}
	}
}

func TestTextOfKeysAndSigns(t *testing.T) {
	for kind, l := range map[string][]string{"key": keys, "sign": signs} {
		for _, s := range l {
			if got, err := token.Text(api.Token{Kind: kind, Text: s}); got != s || err != api.OK {
				t.Errorf("P1.2: Text of %s %q: %q, %d", kind, s, got, err)
			}
		}
	}
	for c := range 256 {
		s := string([]byte{byte(c)})
		if token.Valid(api.Token{Kind: "char", Text: s}) != (c == 10 || c >= 32 && c <= 126) {
			t.Errorf("P1.2: Valid of char %d", c)
		}
		if slices.Contains(signs, s) != token.Valid(api.Token{Kind: "sign", Text: s}) {
			t.Errorf("P1.2: Valid of sign %q", s)
		}
	}
}

func TestJoin(t *testing.T) {
	l := []api.Token{{Kind: "atom", Text: "if"}, {Kind: "char", Text: " "}, {Kind: "sign", Text: "~"}, {Kind: "int", Text: "5"}, {Kind: "text", Text: ""}}
	kept := slices.Clone(l)
	if s, err := token.Join(l); s != `'if' &\s ~ 5 ""` || err != api.OK {
		t.Errorf("P1.2: %q, %d", s, err)
	}
	if !slices.Equal(l, kept) {
		t.Errorf("P1.2: Join changed its argument")
	}
	if s, err := token.Join(nil); s != "" || err != api.OK {
		t.Errorf("P1.2: of none: %q, %d", s, err)
	}
	if s, err := token.Join(l[:1]); s != "'if'" || err != api.OK {
		t.Errorf("P1.2: of one: %q, %d", s, err)
	}
	if s, err := token.Join(append(l, api.Token{Kind: "var", Text: "x"})); s != "" || err != api.ErrToken {
		t.Errorf("P1.2: with a wrong one: %q, %d", s, err)
	}
}

func TestNames(t *testing.T) {
	word := strings.Repeat("a", api.MaxAtom)
	for _, c := range []struct {
		text       string
		isVar      bool
		plain      bool
		source     string
		impossible bool
	}{
		{text: "X", isVar: true, source: "'X'"},
		{text: "Xa_0", isVar: true, source: "'Xa_0'"},
		{text: "If", isVar: true, source: "'If'"},
		{text: "X" + word[1:], isVar: true, source: "'X" + word[1:] + "'"},
		{text: "X" + word, impossible: true},
		{text: "x1", plain: true, source: "x1"},
		{text: "iff", plain: true, source: "iff"},
		{text: word, plain: true, source: word},
		{text: word + "a", impossible: true},
		{text: "if", source: "'if'"},
		{text: "of", source: "'of'"},
		{text: "", source: "''"},
		{text: "_x", source: "'_x'"},
		{text: "9a", source: "'9a'"},
		{text: "a-b", source: "'a-b'"},
		{text: "X b", source: "'X b'"},
		{text: `a'"\` + "\n", source: `'a\'"\\\n'`},
		{text: strings.Repeat("\n", api.MaxAtom), source: "'" + strings.Repeat(`\n`, api.MaxAtom) + "'"},
		{text: "a\t", impossible: true},
		{text: "A\xff", impossible: true},
		{text: "a\x7f", impossible: true},
		{text: "a\x00", impossible: true},
	} {
		if token.IsVar(c.text) != c.isVar || token.IsPlain(c.text) != c.plain {
			t.Errorf("P1.3: %q: IsVar %t, IsPlain %t", c.text, !c.isVar, token.IsPlain(c.text))
		}
		want := api.OK
		if c.impossible {
			want = api.ErrToken
		}
		if s, err := token.Quote(c.text); s != c.source || err != want {
			t.Errorf("P1.3: Quote(%q): %q, %d", c.text, s, err)
		}
	}
	for _, s := range keys {
		if q, err := token.Quote(s); token.IsPlain(s) || token.IsVar(s) || q != "'"+s+"'" || err != api.OK {
			t.Errorf("P1.3: the key %q: %q, %d", s, q, err)
		}
	}
}

func TestWhere(t *testing.T) {
	for _, c := range []struct {
		text             string
		at, line, column int
		err              api.Errno
	}{
		{"", 0, 1, 1, api.OK}, {"", 1, 0, 0, api.ErrArg}, {"", -1, 0, 0, api.ErrArg},
		{"ab\nc", 0, 1, 1, api.OK}, {"ab\nc", 1, 1, 2, api.OK}, {"ab\nc", 2, 1, 3, api.OK}, {"ab\nc", 3, 2, 1, api.OK}, {"ab\nc", 4, 2, 2, api.OK}, {"ab\nc", 5, 0, 0, api.ErrArg},
		{"\n\n", 0, 1, 1, api.OK}, {"\n\n", 1, 2, 1, api.OK}, {"\n\n", 2, 3, 1, api.OK},
		{"a\r\nb", 1, 1, 2, api.OK}, {"a\r\nb", 3, 2, 1, api.OK}, {"\xc3\xa4b", 2, 1, 3, api.OK},
		{strings.Repeat("\n", api.MaxSource+5), api.MaxSource + 5, api.MaxSource + 6, 1, api.OK},
	} {
		line, column, err := token.Where(c.text, c.at)
		if line != c.line || column != c.column || err != c.err {
			t.Errorf("P1.4: Where(%.9q, %d): %d, %d, %d", c.text, c.at, line, column, err)
		}
	}
}
