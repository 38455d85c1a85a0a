package kernel_test

import (
	"strings"
	"testing"

	"manystrand/api"
	"manystrand/kernel"
	"manystrand/tree"
)

// inOneLine returns what Print gives with single spaces in the place of all blanks and line feeds.
func inOneLine(s api.Stmt) string {
	text, _ := kernel.Print(s)
	return strings.Join(strings.Fields(text), " ")
}

func checkLoad(t *testing.T, text, want string) {
	t.Helper()
	s, err := kernel.Load(text)
	if got := inOneLine(s); err != api.OK || got != want {
		t.Errorf("P3.1: Load(%q): %d\n got %s\nwant %s", text, err, got, want)
	}
}

func checkLoads(t *testing.T, cases [][2]string) {
	t.Helper()
	for _, c := range cases {
		checkLoad(t, c[0], c[1])
	}
}

func TestStatements(t *testing.T) {
	checkLoads(t, [][2]string{
		{"skip", "skip"},
		{"skip skip", "skip skip"},
		{"(skip skip) skip", "skip skip skip"},
		{"skip (skip (skip skip))", "skip skip skip skip"},
		{"local X Y in skip end", "local X Y in skip end"},
		{"local X in local Y in X = Y end end", "local X in local Y in X = Y end end"},
		{"local X in X = Y skip end", "local X in X = Y skip end"},
		{"thread {X} skip end", "thread {X} skip end"},
		{"X = Y", "X = Y"}, {"X = X", "X = X"}, {"X = 1", "X = 1"}, {"1 = X", "X = 1"}, {"X = _", "skip"}, {"_ = X", "skip"},
		{"X = Y = 1", "Y = 1 X = unit"},
		{"1 = a", "local _1 in _1 = 1 _1 = a end"},
		{"_ = _", "local _1 in skip skip end"},
		{"a(1) = b(2)", "local _1 in local _2 in _2 = 1 _1 = a(1:_2) end local _3 in _3 = 2 _1 = b(1:_3) end end"},
		{"C := X", "op set C X"}, {"C := 1", "local _1 in _1 = 1 op set C _1 end"},
		{"1 := 2", "local _1 _2 in _1 = 1 _2 = 2 op set _1 _2 end"},
		{"raise X end", "raise X"}, {"raise a(X) end", "local _1 in _1 = a(1:X) raise _1 end"},
		{"if X then {Y} end", "if X then {Y} else skip end"},
		{"if X then {Y} else {Z} skip end", "if X then {Y} else {Z} skip end"},
		{"if {X} then {Y 1} else {Z 2} end", "local _1 in {X _1} if _1 then local _2 in _2 = 1 {Y _2} end else local _3 in _3 = 2 {Z _3} end end end"},
		{"try {X} catch E then {Y E} end", "try {X} catch E then {Y E} end"},
		{"try {X 1} catch E then {Y 2} end", "try local _1 in _1 = 1 {X _1} end catch E then local _2 in _2 = 2 {Y _2} end end"},
		{"choice {X} end", "choice {X} end"}, {"choice {X} [] Y = 1 skip [] {Z} end", "choice {X} [] Y = 1 skip [] {Z} end"},
	})
}

func TestOtherPhrasesAsStatements(t *testing.T) {
	checkLoads(t, [][2]string{
		{"X", "local _1 in _1 = X end"}, {"_", "local _1 in skip end"}, {"5", "local _1 in _1 = 5 end"}, {"a", "local _1 in _1 = a end"},
		{`""`, "local _1 in _1 = nil end"},
		{"a(f:X)", "local _1 in _1 = a(f:X) end"}, {"X|Y", "local _1 in _1 = '|'(1:X 2:Y) end"}, {"X#Y", "local _1 in _1 = '#'(1:X 2:Y) end"},
		{"X.Y", "local _1 in op dot X Y _1 end"}, {"@X", "local _1 in op get X _1 end"}, {"!!X", "local _1 in op view X _1 end"},
		{"~X", "local _1 in op ~ X _1 end"}, {"X + Y", "local _1 in op + X Y _1 end"},
		{"X andthen Y", "local _1 in if X then _1 = Y else _1 = false end end"},
		{"fun {$ X} X end", "local _1 in _1 = proc {X _2} _2 = X end end"},
		{"proc {$ X} {X} end", "local _1 in _1 = proc {X} {X} end end"},
		{"X Y", "local _1 in _1 = X end local _2 in _2 = Y end"},
	})
}

func TestCalls(t *testing.T) {
	checkLoads(t, [][2]string{
		{"{X}", "{X}"}, {"{X Y Z}", "{X Y Z}"}, {"{X X}", "{X X}"},
		{"{X 1 Y 2}", "local _1 _2 in _1 = 1 _2 = 2 {X _1 Y _2} end"},
		{"{1}", "local _1 in _1 = 1 {_1} end"}, {"{a X}", "local _1 in _1 = a {_1 X} end"},
		{"{X _}", "local _1 in skip {X _1} end"},
		{"{X {Y 1}}", "local _1 in local _2 in _2 = 1 {Y _2 _1} end {X _1} end"},
		{"{X ({Y} Z) W}", "local _1 in {Y} _1 = Z {X _1 W} end"},
		{"{fun {$ A} A end 5 R}", "local _1 _2 in _1 = proc {A _3} _3 = A end _2 = 5 {_1 _2 R} end"},
		{"X = {Y}", "{Y X}"}, {"X = {Y Z 1}", "local _1 in _1 = 1 {Y Z _1 X} end"},
		{"X = {1 2}", "local _1 _2 in _1 = 1 _2 = 2 {_1 _2 X} end"},
	})
}

func TestCallsOfOperations(t *testing.T) {
	checkLoads(t, [][2]string{
		{"{Show X}", "op show X"}, {"{Show 1}", "local _1 in _1 = 1 op show _1 end"}, {"{Cell X C}", "op cell X C"}, {"C = {Cell X}", "op cell X C"},
		{"{Cell 0 C}", "local _1 in _1 = 0 op cell _1 C end"}, {"{Show {Cell 0}}", "local _1 in local _2 in _2 = 0 op cell _2 _1 end op show _1 end"},
		{"{Div X Y Z}", "op div X Y Z"}, {"Z = {Mod X Y}", "op mod X Y Z"}, {"{Byneed P X}", "op byneed P X"}, {"{Get C X}", "op get C X"}, {"{Lock L}", "op lock L"}, {"L = {Newname}", "op newname L"},
		{"X = {Show}", "op show X"},
		// Not as many Kids as it takes, or no such name: a call as others.
		{"{Show}", "{Show}"}, {"{Show X Y}", "{Show X Y}"}, {"X = {Show Y}", "{Show Y X}"}, {"{Cell X}", "{Cell X}"}, {"X = {Cell Y Z}", "{Cell Y Z X}"}, {"{SHOW X}", "{SHOW X}"}, {"{Foo}", "{Foo}"}, {"X = {Foo}", "{Foo X}"},
		{"{show X}", "local _1 in _1 = show {_1 X} end"}, {"{(Show) X}", "op show X"},
		// Bound around.
		{"local Show in {Show X} end", "local Show in {Show X} end"},
		{"local Show in {Show X} end {Show X}", "local Show in {Show X} end op show X"},
		{"proc {P Show} {Show X} end", "P = proc {Show} {Show X} end"},
		{"fun {P Cell} {Cell X} end", "P = proc {Cell _1} {Cell X _1} end"},
		{"fun lazy {P Cell} {Cell X} end", "P = proc {Cell _1} local _2 in _2 = proc {_3} {Cell X _3} end op byneed _2 _1 end end"},
		{"proc {Show X} {Show X} end", "Show = proc {X} op show X end"},
		{"try {Show X} catch Show then {Show X} end", "try op show X catch Show then {Show X} end"},
		{"for Show in {Det X} at {Show} do {Show X} end", "local _1 _2 in op det X _1 op show _2 local _3 in _3 = proc {Show} local _4 in op =< Show _2 _4 if _4 then {Show X} local _5 _6 in _5 = 1 op + Show _5 _6 {_3 _6} end else skip end end end {_3 _1} end end"},
		{"for each Show in {Show} do {Show X} end", "local _1 in op show _1 local _2 in _2 = proc {_3} case _3 of '|'(1:Show 2:_4) then {Show X} {_2 _4} else skip end end {_2 _1} end end"},
		{"L = [{Det X} for Det in {Det X} if {Det X}]", "local _1 in op det X _1 local _2 in _2 = proc {_3 _4} case _3 of '|'(1:Det 2:_5) then local _8 in {Det X _8} if _8 then local _6 _7 in _4 = '|'(1:_6 2:_7) {Det X _6} {_2 _5 _7} end else {_2 _5 _4} end end else _4 = nil end end {_2 _1 L} end end"},
		{"case X of Show then {Show Y} [] _ then {Show Y} end", "local Show in Show = X {Show Y} end"},
		{"case X of a(Show) then {Show Y} [] _ then {Show Y} end", "case X of a(1:_1) then local Show in Show = _1 {Show Y} end else op show Y end"},
		{"case {Det X} of a then {Show Y} else {Show Z} end", "local _1 in op det X _1 case _1 of a then op show Y else op show Z end end"},
		{"local Show in local Show in skip end {Show X} end", "local Show in local Show in skip end {Show X} end"},
	})
}

// TestEachOperation calls each operation with as many arguments as it takes, and with one more.
func TestEachOperation(t *testing.T) {
	args := strings.Fields("A B C D E")
	for n, names := range map[int]string{
		1: "wait show nomatch need newname lock take give dict priority self kill",
		2: "label arity width parts det byneed view fail chunk cell get set port send remove keys space ask commit clone merge inject",
		3: "div mod dot has make swap put domain",
		4: "adjoin array post",
	} {
		for _, name := range strings.Fields(names) {
			called := strings.ToUpper(name[:1]) + name[1:]
			all, ahead := strings.Join(args[:n], " "), strings.Join(args[:n-1], " ")
			checkLoad(t, "{"+called+" "+all+"}", "op "+name+" "+all)
			checkLoad(t, args[n-1]+" = {"+called+" "+ahead+"}", "op "+name+" "+all)
			checkLoad(t, "{"+called+" "+all+" Z}", "{"+called+" "+all+" Z}")
			checkLoad(t, "{"+called+" "+ahead+"}", "{"+strings.TrimSpace(called+" "+ahead)+"}")
			checkLoad(t, "local "+called+" in {"+called+" "+all+"} end", "local "+called+" in {"+called+" "+all+"} end")
		}
	}
}

func TestProcedures(t *testing.T) {
	checkLoads(t, [][2]string{
		{"proc {P} skip end", "P = proc {} skip end"}, {"proc {P A B} {A} {B} end", "P = proc {A B} {A} {B} end"}, {"proc {P P} {P} end", "P = proc {P} {P} end"},
		{"proc {P A} {A 1} end {P 2}", "P = proc {A} local _1 in _1 = 1 {A _1} end end local _2 in _2 = 2 {P _2} end"},
		{"fun {F} 1 end", "F = proc {_1} _1 = 1 end"}, {"fun {F A} A end", "F = proc {A _1} _1 = A end"}, {"fun {F A} {A} A end", "F = proc {A _1} {A} _1 = A end"},
		{"fun {F A} A + 1 end", "F = proc {A _1} local _2 in _2 = 1 op + A _2 _1 end end"},
		{"fun lazy {F} 1 end", "F = proc {_1} local _2 in _2 = proc {_3} _3 = 1 end op byneed _2 _1 end end"},
		{"fun lazy {F A B} {A B 1} end", "F = proc {A B _1} local _2 in _2 = proc {_3} local _4 in _4 = 1 {A B _4 _3} end end op byneed _2 _1 end end"},
		{"X = proc {$ A} {A} end", "X = proc {A} {A} end"}, {"X = fun {$} 1 end", "X = proc {_1} _1 = 1 end"},
		{"X = fun lazy {$ A} A end", "X = proc {A _1} local _2 in _2 = proc {_3} _3 = A end op byneed _2 _1 end end"},
		{"X = proc {P} skip end", "P = proc {} skip end X = P"}, {"X = fun {F} 1 end", "F = proc {_1} _1 = 1 end X = F"}, {"X = fun lazy {F} 1 end", "F = proc {_1} local _2 in _2 = proc {_3} _3 = 1 end op byneed _2 _1 end end X = F"},
		{"fun lazy {$} 1 end", "local _1 in _1 = proc {_2} local _3 in _3 = proc {_4} _4 = 1 end op byneed _3 _2 end end end"},
	})
}

func TestValues(t *testing.T) {
	checkLoads(t, [][2]string{
		{"X = ~5", "X = ~5"}, {"X = 0", "X = 0"}, {"X = 999999999999999999", "X = 999999999999999999"}, {"X = ~999999999999999999", "X = ~999999999999999999"}, {"X = &a", "X = 97"},
		{"X = a", "X = a"}, {"X = 'if'", "X = 'if'"}, {"X = ''", "X = ''"},
		{"X = a(Y f:Z)", "X = a(1:Y f:Z)"}, {"X = a(f:1 2:Y 1:2)", "local _1 _2 in _1 = 2 _2 = 1 X = a(1:_1 2:Y f:_2) end"},
		{"X = a(b(1) c)", "local _1 _2 in local _3 in _3 = 1 _1 = b(1:_3) end _2 = c X = a(1:_1 2:_2) end"},
		{"X = a(_)", "local _1 in skip X = a(1:_1) end"},
		{"X = [Y]", "local _1 in _1 = nil X = '|'(1:Y 2:_1) end"},
		{"X = [1 Y]", "local _1 _2 in _1 = 1 local _3 in _3 = nil _2 = '|'(1:Y 2:_3) end X = '|'(1:_1 2:_2) end"},
		{"X = 1|Y", "local _1 in _1 = 1 X = '|'(1:_1 2:Y) end"}, {"X = A|B|C", "local _1 in _1 = '|'(1:B 2:C) X = '|'(1:A 2:_1) end"},
		{"X = A#1#B", "local _1 in _1 = 1 X = '#'(1:A 2:_1 3:B) end"},
		{`X = ""`, "X = nil"}, {`X = "a"`, "local _1 _2 in _1 = 97 _2 = nil X = '|'(1:_1 2:_2) end"},
		{`X = "a\n"`, "local _1 _2 in _1 = 97 local _3 _4 in _3 = 10 _4 = nil _2 = '|'(1:_3 2:_4) end X = '|'(1:_1 2:_2) end"},
		{"X = Y.f", "local _1 in _1 = f op dot Y _1 X end"}, {"X = Y.f.1", "local _1 _2 in local _3 in _3 = f op dot Y _3 _1 end _2 = 1 op dot _1 _2 X end"},
		{"X = ~Y", "op ~ Y X"}, {"X = @Y", "op get Y X"}, {"X = !!Y", "op view Y X"}, {"X = @@Y", "local _1 in op get Y _1 op get _1 X end"},
		{"X = A + B", "op + A B X"}, {"X = A - B", "op - A B X"}, {"X = A * B", "op * A B X"}, {"X = A div B", "op div A B X"}, {"X = A mod B", "op mod A B X"},
		{"X = (A == B)", "op == A B X"}, {"X = (A \\= B)", "op \\= A B X"}, {"X = (A < B)", "op < A B X"}, {"X = (A =< B)", "op =< A B X"}, {"X = (A > B)", "op > A B X"}, {"X = (A >= B)", "op >= A B X"},
		{"X = 1 + 2 * 3", "local _1 _2 in _1 = 1 local _3 _4 in _3 = 2 _4 = 3 op * _3 _4 _2 end op + _1 _2 X end"},
		{"X = (A andthen B)", "if A then X = B else X = false end"}, {"X = (A orelse B)", "if A then X = true else X = B end"},
		{"X = ({A} andthen {B})", "local _1 in {A _1} if _1 then {B X} else X = false end end"}, {"X = ({A} orelse {B})", "local _1 in {A _1} if _1 then X = true else {B X} end end"},
		{"X = (A orelse B andthen C)", "if A then X = true else if B then X = C else X = false end end"},
	})
}

func TestStatementsAsValues(t *testing.T) {
	checkLoads(t, [][2]string{
		{"X = ({P} {Q} Y)", "{P} {Q} X = Y"}, {"X = (1 2)", "local _1 in _1 = 1 end X = 2"}, {"X = ({P} ({Q} Y))", "{P} {Q} X = Y"},
		{"X = local Y in Y end", "local Y in X = Y end"}, {"X = local Y in {P} Y end", "local Y in {P} X = Y end"},
		{"X = thread Y end", "thread X = Y end"}, {"X = thread {P} Y end", "thread {P} X = Y end"},
		{"X = if A then 1 end", "if A then X = 1 else X = unit end"}, {"X = if A then 1 else 2 end", "if A then X = 1 else X = 2 end"}, {"X = if {A} then 1 else {P} 2 end", "local _1 in {A _1} if _1 then X = 1 else {P} X = 2 end end"},
		{"X = try 1 catch E then E end", "try X = 1 catch E then X = E end"}, {"X = choice 1 [] {P} 2 end", "choice X = 1 [] {P} X = 2 end"},
		{"X = raise Y end", "raise Y"}, {"X = raise 1 end", "local _1 in _1 = 1 raise _1 end"},
		{"X = (Y = Z)", "Y = Z X = unit"}, {"X = (1 = 2)", "local _1 in _1 = 1 _1 = 2 end X = unit"}, {"X = (C := 1)", "local _1 in _1 = 1 op set C _1 end X = unit"}, {"X = skip", "skip X = unit"},
		{"X = for I in A at B do skip end", "local _1 in _1 = proc {I} local _2 in op =< I B _2 if _2 then skip local _3 _4 in _3 = 1 op + I _3 _4 {_1 _4} end else skip end end end {_1 A} end X = unit"},
		{"X = for each I in A do skip end", "local _1 in _1 = proc {_2} case _2 of '|'(1:I 2:_3) then skip {_1 _3} else skip end end {_1 A} end X = unit"},
		{"X = lock L then 1 end", "op take L try X = 1 catch _1 then op give L raise _1 end op give L"},
		{"X = case Y of a then 1 [] b then 2 else 3 end", "case Y of a then X = 1 else case Y of b then X = 2 else X = 3 end end"},
		{"X = case Y of a then 1 end", "case Y of a then X = 1 else op nomatch Y end"},
		// What is bound anew inside is no matter of the translation.
		{"X = local X in 1 end", "local X in X = 1 end"},
	})
}

func TestLocks(t *testing.T) {
	checkLoads(t, [][2]string{
		{"lock L then skip end", "op take L try skip catch _1 then op give L raise _1 end op give L"},
		{"lock L then {P} {Q} end", "op take L try {P} {Q} catch _1 then op give L raise _1 end op give L"},
		{"lock @L then {P 1} end", "local _1 in op get L _1 op take _1 try local _3 in _3 = 1 {P _3} end catch _2 then op give _1 raise _2 end op give _1 end"},
		{"lock L then lock M then skip end end", "op take L try op take M try skip catch _2 then op give M raise _2 end op give M catch _1 then op give L raise _1 end op give L"},
	})
}

func TestLoops(t *testing.T) {
	checkLoads(t, [][2]string{
		{"for X in A at B do {P X} {Q} end", "local _1 in _1 = proc {X} local _2 in op =< X B _2 if _2 then {P X} {Q} local _3 _4 in _3 = 1 op + X _3 _4 {_1 _4} end else skip end end end {_1 A} end"},
		{"for X in 1 at 9 do {P 2} end", "local _1 _2 in _1 = 1 _2 = 9 local _3 in _3 = proc {X} local _4 in op =< X _2 _4 if _4 then local _7 in _7 = 2 {P _7} end local _5 _6 in _5 = 1 op + X _5 _6 {_3 _6} end else skip end end end {_3 _1} end end"},
		{"for X in A at @B do skip end", "local _1 in op get B _1 local _2 in _2 = proc {X} local _3 in op =< X _1 _3 if _3 then skip local _4 _5 in _4 = 1 op + X _4 _5 {_2 _5} end else skip end end end {_2 A} end end"},
		{"for each X in L do {P X} {Q 1} end", "local _1 in _1 = proc {_2} case _2 of '|'(1:X 2:_3) then {P X} local _4 in _4 = 1 {Q _4} end {_1 _3} else skip end end {_1 L} end"},
		{"for each X in {F} do {P X} end", "local _1 in {F _1} local _2 in _2 = proc {_3} case _3 of '|'(1:X 2:_4) then {P X} {_2 _4} else skip end end {_2 _1} end end"},
		{"L = [X for X in M]", "local _1 in _1 = proc {_2 _3} case _2 of '|'(1:X 2:_4) then local _5 _6 in _3 = '|'(1:_5 2:_6) _5 = X {_1 _4 _6} end else _3 = nil end end {_1 M L} end"},
		{"L = [X + 1 for X in {F}]", "local _1 in {F _1} local _2 in _2 = proc {_3 _4} case _3 of '|'(1:X 2:_5) then local _6 _7 in _4 = '|'(1:_6 2:_7) local _8 in _8 = 1 op + X _8 _6 end {_2 _5 _7} end else _4 = nil end end {_2 _1 L} end end"},
		{"L = [X for X in M if B]", "local _1 in _1 = proc {_2 _3} case _2 of '|'(1:X 2:_4) then if B then local _5 _6 in _3 = '|'(1:_5 2:_6) _5 = X {_1 _4 _6} end else {_1 _4 _3} end else _3 = nil end end {_1 M L} end"},
		{"L = [X * 2 for X in M if X > 1]", "local _1 in _1 = proc {_2 _3} case _2 of '|'(1:X 2:_4) then local _7 in local _8 in _8 = 1 op > X _8 _7 end if _7 then local _5 _6 in _3 = '|'(1:_5 2:_6) local _9 in _9 = 2 op * X _9 _5 end {_1 _4 _6} end else {_1 _4 _3} end end else _3 = nil end end {_1 M L} end"},
		{"[X for X in M]", "local _1 in local _2 in _2 = proc {_3 _4} case _3 of '|'(1:X 2:_5) then local _6 _7 in _4 = '|'(1:_6 2:_7) _6 = X {_2 _5 _7} end else _4 = nil end end {_2 M _1} end end"},
	})
}

func TestCases(t *testing.T) {
	checkLoads(t, [][2]string{
		{"case X of _ then {P} end", "{P}"}, {"case X of Y then {P Y} end", "local Y in Y = X {P Y} end"}, {"case X of Y then {P} {Q} end", "local Y in Y = X {P} {Q} end"},
		{"case X of 5 then {P} end", "number X 5 then {P} else op nomatch X end"}, {"case X of ~5 then {P} else {Q} end", "number X ~5 then {P} else {Q} end"},
		{"case X of a then {P} end", "case X of a then {P} else op nomatch X end"}, {"case X of a() then {P} else {Q} end", "case X of a then {P} else {Q} end"},
		{"case {F} of a then {P} end", "local _1 in {F _1} case _1 of a then {P} else op nomatch _1 end end"},
		{"case 1 of X then {P X} end", "local _1 in _1 = 1 local X in X = _1 {P X} end end"},
		{"case X of a(f:_) then {P} else {Q} end", "case X of a(f:_1) then {P} else {Q} end"},
		{"case X of a(Y f:Z) then {P} else {Q} end", "case X of a(1:_1 f:_2) then local Y in Y = _1 local Z in Z = _2 {P} end end else {Q} end"},
		{"case X of a(Y ...) then {P} else {Q} end", "case X of a(1:_1 ...) then local Y in Y = _1 {P} end else {Q} end"},
		{"case X of a(...) then {P} else {Q} end", "case X of a(...) then {P} else {Q} end"},
		{"case X of A|B then {P} else {Q} end", "case X of '|'(1:_1 2:_2) then local A in A = _1 local B in B = _2 {P} end end else {Q} end"},
		{"case X of A#b#_ then {P} else {Q} end", "case X of '#'(1:_1 2:_2 3:_3) then local A in A = _1 case _2 of b then {P} else {Q} end end else {Q} end"},
		{"case X of [_] then {P} else {Q} end", "case X of '|'(1:_1 2:_2) then case _2 of nil then {P} else {Q} end else {Q} end"},
		{"case X of [A 1] then {P} else {Q} end", "case X of '|'(1:_1 2:_2) then local A in A = _1 case _2 of '|'(1:_3 2:_4) then number _3 1 then case _4 of nil then {P} else {Q} end else {Q} end else {Q} end end else {Q} end"},
		{"case X of a(1 2) then {P} end", "case X of a(1:_1 2:_2) then number _1 1 then number _2 2 then {P} else op nomatch X end else op nomatch X end else op nomatch X end"},
		{"case X of 1 then {P} [] 2 then {Q} [] Y then {R} end", "number X 1 then {P} else number X 2 then {Q} else local Y in Y = X {R} end end end"},
	})
}

// TestNewVariablesOfCases: those of an arm's pattern, then of its phrase, then of the arms behind it,
// each once, whether it stands in the statement several times or not at all.
func TestNewVariablesOfCases(t *testing.T) {
	checkLoads(t, [][2]string{
		{"case X of a(b(_ _) c(_)) then skip else skip end", "case X of a(1:_1 2:_2) then case _1 of b(1:_3 2:_4) then case _2 of c(1:_5) then skip else skip end else skip end else skip end"},
		{"case X of a(_) then {P 1} [] b(_) then {P 2} else {P 3} end", "case X of a(1:_1) then local _2 in _2 = 1 {P _2} end else case X of b(1:_3) then local _4 in _4 = 2 {P _4} end else local _5 in _5 = 3 {P _5} end end end"},
		{"case X of a(1) then {P 1} else {P 3} end {P 4}", "case X of a(1:_1) then number _1 1 then local _2 in _2 = 1 {P _2} end else local _3 in _3 = 3 {P _3} end end else local _3 in _3 = 3 {P _3} end end local _4 in _4 = 4 {P _4} end"},
		{"case X of _ then skip [] a(_ _) then {P 1} else {P 2} end {P 3}", "skip local _5 in _5 = 3 {P _5} end"},
		{"case {F 1} of a(_) then {P 2} end", "local _1 in local _2 in _2 = 1 {F _2 _1} end case _1 of a(1:_3) then local _4 in _4 = 2 {P _4} end else op nomatch _1 end end"},
		{"case X of Y|_ then {P 1} [] 5 then skip [] _ then {P 2} end", "case X of '|'(1:_1 2:_2) then local Y in Y = _1 local _3 in _3 = 1 {P _3} end end else number X 5 then skip else local _4 in _4 = 2 {P _4} end end end"},
	})
}

func TestErrorsOfTranslate(t *testing.T) {
	deep := strings.Repeat("thread ", api.MaxNest-1) + "skip" + strings.Repeat(" end", api.MaxNest-1)
	feats := func(n int) string { return "a(" + strings.Repeat("X ", n) + ")" }
	for _, c := range []struct {
		text string
		want api.Errno
	}{
		{"X = 'b", api.ErrToken}, {"X = )", api.ErrForm}, {"", api.ErrForm}, {strings.Repeat(" ", api.MaxSource+1), api.ErrLimit}, {strings.Repeat("@", api.MaxNest) + "X", api.ErrLimit},
		{"a(...)", api.ErrForm}, {"X = a(1 ...)", api.ErrForm}, {"{P a(b(...))}", api.ErrForm}, {"case a(...) of X then skip end", api.ErrForm}, {"case X of a(...) then b(...) end", api.ErrForm}, {"case X of _ then skip [] _ then a(...) end", api.ErrForm}, {"case X of _ then skip else a(...) end", api.ErrForm},
		{"case X of a(b(...) ...) then skip end", api.OK},
		{deep, api.OK}, {"thread " + deep + " end", api.ErrLimit}, {"thread " + strings.Replace(deep, "skip", "a(...)", 1) + " end", api.ErrLimit}, {strings.Replace(deep, "skip", "a(...)", 1), api.ErrForm},
		{strings.Replace(deep, "skip", "skip skip", 1), api.ErrLimit}, {strings.Replace(deep, "skip", "1", 1), api.ErrLimit},
		{"X = " + feats(39), api.OK}, {"X = " + feats(40), api.ErrLimit}, {"case X of " + strings.Replace(feats(39), "X", "_", -1) + " then skip end", api.OK}, {"case X of " + strings.Replace(feats(40), "X", "_", -1) + " then skip end", api.ErrLimit},
		{"{" + strings.Repeat("X ", 40) + "}", api.OK}, {"{" + strings.Repeat("X ", 41) + "}", api.ErrLimit}, {"X = {" + strings.Repeat("X ", 40) + "}", api.ErrLimit}, {"{" + strings.Repeat("1 ", 40) + "}", api.OK},
		{"local " + names(40) + " in skip end", api.OK}, {"local " + names(41) + " in skip end", api.ErrLimit}, {"proc {P " + names(39) + "} skip end", api.OK}, {"proc {P " + names(40) + "} skip end", api.ErrLimit}, {"fun {P " + names(38) + "} 1 end", api.OK}, {"fun {P " + names(39) + "} 1 end", api.ErrLimit},
		{strings.Repeat("skip ", 1999), api.OK}, {strings.Repeat("{P} ", 999) + "skip", api.OK}, {strings.Repeat("{P 1} ", 499), api.OK}, {strings.Repeat("{P 1} ", 500), api.ErrLimit},
		{`X = "` + strings.Repeat("a", 49) + `"`, api.OK}, {`X = "` + strings.Repeat("a", 50) + `"`, api.ErrLimit}, {"X = [" + strings.Repeat("Y ", 1900) + "]", api.ErrLimit}, {"X = " + strings.Repeat("Y#", 1900) + "Y", api.ErrLimit},
		// Sixty times what stands behind, and so on: more than could ever be written down.
		{"case X of " + strings.Repeat("a(1 2 3 4 5 6 7 8 9) then skip [] ", 60) + "_ then skip end", api.ErrLimit},
	} {
		s, err := kernel.Load(c.text)
		if err != c.want || kernel.Valid(s) != (err == api.OK) || err != api.OK && !kernel.Same(s, api.Stmt{}) {
			t.Errorf("P3.1: Load(%.40q of %d bytes): %d, want %d", c.text, len(c.text), err, c.want)
		}
	}
}

func names(n int) string {
	var l []string
	for i := range n {
		l = append(l, "X"+string(rune('a'+i/26))+string(rune('a'+i%26)))
	}
	return strings.Join(l, " ")
}

func TestTranslateOfWhatIsNoPhrase(t *testing.T) {
	loop := []api.Tree{{Do: "thread"}}
	loop[0].Kids = loop
	for _, p := range []api.Tree{
		{}, {Do: "field"}, {Do: "arm"}, {Do: "var"}, {Do: "var", Text: "_1"}, {Do: "seq", Kids: []api.Tree{{Do: "skip"}}}, {Do: "thread"}, loop[0],
		{Do: "seq", Kids: make([]api.Tree, api.MaxTree)}, {Do: "int", Text: "05"},
	} {
		if s, err := kernel.Translate(p); err != api.ErrForm || !kernel.Same(s, api.Stmt{}) {
			t.Errorf("P3.1: Translate(%s ..): %d", p.Do, err)
		}
	}
}

func TestTranslateOfPhrase(t *testing.T) {
	p, _ := tree.Parse("local X in {Show X} X = [1 2] end Y")
	s, err := kernel.Translate(p)
	want := "local X in op show X local _1 _2 in _1 = 1 local _3 _4 in _3 = 2 _4 = nil _2 = '|'(1:_3 2:_4) end X = '|'(1:_1 2:_2) end end local _5 in _5 = Y end"
	if err != api.OK || inOneLine(s) != want {
		t.Errorf("P3.1: %d, %s", err, inOneLine(s))
	}
}
