package tree_test

import (
	"fmt"
	"math/rand"
	"slices"
	"strconv"
	"strings"
	"testing"

	"manystrand/api"
	"manystrand/token"
	"manystrand/tree"
)

// The chapter's grammar without what it says of names: a second reading, for an Earley recognizer,
// which finds the first token at which no phrase can go on without knowing how to read one.
// Names of rules have capital letters, all else are tokens; `label` is an atom with its bracket.
const grammar = `
Body : E | E Body
E : Or | Or = E | Or := E
Or : And | And orelse Or
And : Com | Com andthen And
Com : Cons | Cons == Cons | Cons \= Cons | Cons < Cons | Cons =< Cons | Cons > Cons | Cons >= Cons
Cons : Tuple | Tuple BAR Cons
Tuple : Sum | Sum # Tuple
Sum : Prod | Sum + Prod | Sum - Prod
Prod : Pre | Prod * Pre | Prod div Pre | Prod mod Pre
Pre : Dot | ~ Pre | @ Pre | !! Pre
Dot : U | Dot . U
U : var | int | char | text | atom | _ | skip
U : label ) | label Fields ) | label ... ) | label Fields ... )
U : ( Body ) | [ Es ] | { Es } | [ E for var in E ] | [ E for var in E if E ]
U : local Vars in Body end | proc { Head Body end | fun { Head Body end | fun lazy { Head Body end
U : if E then Body end | if E then Body else Body end
U : case E of Arms end | case E of Arms else Body end
U : thread Body end | raise E end | try Body catch var then Body end
U : for var in E at E do Body end | for each var in E do Body end | lock E then Body end
U : choice Bodies end
Es : E | E Es
Fields : Field | Field Fields
Field : E | atom : E | feat : E
Vars : var | var Vars
Head : var } | $ } | var Vars } | $ Vars }
Bodies : Body | Body [] Bodies
Arms : Arm | Arm [] Arms
Arm : P then Body
P : P2 | P2 BAR P
P2 : P1 | P1 # P2
P1 : var | int | char | atom | _ | ( P ) | [ Ps ]
P1 : label ) | label PFields ) | label ... ) | label PFields ... )
Ps : P | P Ps
PFields : PField | PField PFields
PField : P | atom : P | feat : P
`

type production struct {
	rule  string
	parts []string
}

func productions() map[string][]production {
	all := map[string][]production{}
	for _, line := range strings.Split(strings.TrimSpace(grammar), "\n") {
		rule, bodies, _ := strings.Cut(line, " : ")
		for _, body := range strings.Split(bodies, " | ") {
			parts := strings.Fields(strings.ReplaceAll(body, "BAR", "|"))
			all[rule] = append(all[rule], production{rule, parts})
		}
	}
	return all
}

type item struct {
	rule   string
	choice int
	dot    int
	from   int
}

type recognizer struct {
	rules map[string][]production
	sets  [][]item
	known []map[item]bool
}

func (r *recognizer) add(at int, i item) {
	for len(r.sets) <= at {
		r.sets = append(r.sets, nil)
		r.known = append(r.known, map[item]bool{})
	}
	if !r.known[at][i] {
		r.known[at][i] = true
		r.sets[at] = append(r.sets[at], i)
	}
}

// run returns the first place at which no token of a list can stand (-1: none is such), and whether
// all of them are a source. Each token is given by the terminals as which it may stand.
func (r *recognizer) run(tokens [][]string) (bad int, whole bool) {
	for c := range r.rules["Body"] {
		r.add(0, item{"Body", c, 0, 0})
	}
	for at := range len(tokens) + 1 {
		if len(r.sets) <= at {
			return at - 1, false
		}
		for n := 0; n < len(r.sets[at]); n++ {
			i := r.sets[at][n]
			parts := r.rules[i.rule][i.choice].parts
			switch {
			case i.dot == len(parts):
				if at == len(tokens) && i.rule == "Body" && i.from == 0 {
					whole = true
				}
				for _, j := range r.sets[i.from] {
					if p := r.rules[j.rule][j.choice].parts; j.dot < len(p) && p[j.dot] == i.rule {
						r.add(at, item{j.rule, j.choice, j.dot + 1, j.from})
					}
				}
			case r.rules[parts[i.dot]] != nil:
				for c := range r.rules[parts[i.dot]] {
					r.add(at, item{parts[i.dot], c, 0, at})
				}
			case at < len(tokens) && slices.Contains(tokens[at], parts[i.dot]):
				r.add(at+1, item{i.rule, i.choice, i.dot + 1, i.from})
			}
		}
	}
	return -1, whole
}

// expected returns what Bad must return of a text in which no two names and numbers are alike.
func expected(rules map[string][]production, text string) (at int, err api.Errno) {
	l, err := token.Tokens(text)
	if err != api.OK {
		return 0, err
	}
	var classes [][]string
	var places []int
	for i := 0; i < len(l); i++ {
		places = append(places, l[i].At)
		switch t := l[i]; t.Kind {
		case "atom":
			source := source("atom", t.Text)
			if i+1 < len(l) && l[i+1].Text == "(" && l[i+1].At == t.At+len(source) {
				classes = append(classes, []string{"label"})
				i++
				continue
			}
			classes = append(classes, []string{"atom"})
		case "int":
			c := []string{"int"}
			if n, err := strconv.Atoi(t.Text); err == nil && n >= 1 && n <= 1000 {
				c = append(c, "feat")
			}
			classes = append(classes, c)
		case "key", "sign":
			classes = append(classes, []string{t.Text})
		default:
			classes = append(classes, []string{t.Kind})
		}
	}
	r := recognizer{rules: rules}
	bad, whole := r.run(classes)
	switch {
	case bad >= 0:
		return places[bad], api.ErrForm
	case !whole:
		return len(text), api.ErrForm
	}
	return 0, api.OK
}

// fresh returns pieces of sources, no two names or features of which are alike.
type fresh struct {
	maker
	count int
}

func (f *fresh) piece() string {
	f.count++
	n := strconv.Itoa(f.count)
	pieces := []string{"X" + n, "X" + n, "X" + n, "x" + n, "x" + n + "(", "x" + n + "(", strconv.Itoa(100 + f.count), "0", "1001", "~5", "&a", `"s"`,
		"_", "skip", "(", ")", "{", "}", "[", "]", "[]", ".", "|", "#", "=", "\\=", "==", "<", "+", "*", "~", ":=", "@", "!!", ":", "...", "$",
		"andthen", "at", "by", "case", "catch", "choice", "div", "do", "each", "else", "end", "end", "for", "fun", "if", "in", "lazy", "local", "lock", "orelse", "proc", "raise", "then", "thread", "try", "of"}
	return pieces[f.Intn(len(pieces))]
}

// rename gives all names and numbers of some pieces other ones, which are all different.
func (f *fresh) rename(pieces []string) []string {
	var out []string
	for i, piece := range pieces {
		f.count++
		l, err := token.Tokens(piece)
		switch {
		case err != api.OK || len(l) == 0:
		case l[0].Kind == "var":
			piece = "X" + strconv.Itoa(f.count)
		case l[0].Kind == "atom":
			piece = "x" + strconv.Itoa(f.count) + map[bool]string{true: "("}[len(l) > 1]
		case l[0].Kind == "int" && i+1 < len(pieces) && pieces[i+1] == ":":
			piece = strconv.Itoa(100 + f.count)
		}
		out = append(out, piece)
	}
	return out
}

func checkBadOf(t *testing.T, rules map[string][]production, text string) api.Errno {
	t.Helper()
	want, wantErr := expected(rules, text)
	at, err := tree.Bad(text)
	if at != want || err != wantErr {
		t.Fatalf("P2.1: Bad(%q): %d, %d; want %d, %d", text, at, err, want, wantErr)
	}
	return err
}

func TestBadOfChangedSources(t *testing.T) {
	rules := productions()
	f := &fresh{maker: maker{rand.New(rand.NewSource(2))}}
	counts := map[api.Errno]int{}
	for range 4000 {
		f.count = 0
		w := loose{maker: f.maker, more: 2 + f.Intn(9)}
		v := f.phrase(2 + f.Intn(3))
		w.phrase(v, 0)
		if len(w.pieces) > 60 {
			continue
		}
		pieces := f.rename(w.pieces)
		for range f.Intn(3) {
			i := f.Intn(len(pieces) + 1)
			switch {
			case f.Intn(3) == 0:
				pieces = slices.Insert(pieces, i, f.piece())
			case i == len(pieces):
			case f.Intn(2) == 0:
				pieces = slices.Delete(pieces, i, i+1)
			case f.Intn(2) == 0:
				pieces = pieces[:i]
			default:
				pieces[i] = f.piece()
			}
		}
		counts[checkBadOf(t, rules, strings.Join(pieces, " "))]++
	}
	if counts[api.OK] < 400 || counts[api.ErrForm] < 400 {
		t.Fatalf("too few of a kind: %v", counts)
	}
}

// TestBadOfGrownSources goes on with a source as long as it can: by a token that the grammar takes
// more often than not.
func TestBadOfGrownSources(t *testing.T) {
	rules := productions()
	f := &fresh{maker: maker{rand.New(rand.NewSource(3))}}
	for range 300 {
		f.count = 0
		text := ""
		for range 25 {
			next := text + " " + f.piece()
			checkBadOf(t, rules, next)
			if at, err := tree.Bad(next); err == api.OK || at == len(next) {
				text = next
			}
		}
	}
}

func TestAllShortSources(t *testing.T) {
	rules := productions()
	for _, pieces := range [][]string{
		{"", "X%d", "x%d(", ")", ":", "x%d", "..."}, {"", "[", "X%d", "for", "in", "]", "at"}, {"", "(", "X%d", ")", "#", "|", "="}, {"", "~", "5", "X%d", "@", "-", "=="},
		{"", "X%d", "{", "}", "fun", "lazy", "$"}, {"", "case X%d of", "X%d", "then", "[]", "end", "else"}, {"", "0", ":", "x%d(", ")", "7%d"}, {"", "try", "X%d", "catch", "then", "end"}, {"", "local", "X%d", "in", "end"},
		{"", "X%d", "=", "==", "|", "#", "+"}, {"", "X%d", "*", ".", "~", "orelse", "andthen"}, {"X =", "X%d", "==", "|", "andthen", ":="}, {"", "choice", "[]", "X%d", "end"}, {"", "if", "X%d", "then", "else", "end"}, {"", "lock", "raise", "thread", "X%d", "then", "end"},
		{"case X of", "X%d", "|", "#", "+", "(", ")"}, {"case X of", "X%d", "[", "]", "|", "then"}, {"case X of", "x%d(", "X%d", ":", "7%d", ")", "..."}, {"case X of", "X%d", "=", "==", ".", "~", "@"}, {"case X of a(", "X%d", "0", ":", "x%d", "#", "+"}, {"case X of", "5", "&a", `"s"`, "_", "$", "#"},
		{"[X for", "Y", "in", "each", "Z", "]", "at"}, {"[X for Y in Z", "at", "if", "]", "A%d", "do", "end"}, {"[X for Y in Z at A do B end", "for", "A%d", "in", "at", "]", "."}, {"for", "each", "X%d", "in", "at", "do", "end"}, {"proc {", "X%d", "$", "}", "_", "end"},
	} {
		sources := pieces[:1]
		for depth := range 5 {
			var longer []string
			for _, s := range sources {
				for _, piece := range pieces[1:] {
					if strings.Contains(piece, "%d") {
						piece = fmt.Sprintf(piece, depth)
					}
					next := s + " " + piece
					checkBadOf(t, rules, next)
					if at, err := tree.Bad(next); err == api.OK || at == len(next) {
						longer = append(longer, next)
					}
				}
			}
			sources = longer
		}
	}
}
