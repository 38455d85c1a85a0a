package kernel_test

import (
	"strings"
	"testing"

	"manystrand/api"
	"manystrand/kernel"
)

func lines(l ...string) string { return strings.Join(l, "\n") }

func TestPrint(t *testing.T) {
	x, two := stmt("raise", "X"), stmt("seq", "", skip, stmt("raise", "X"))
	for _, c := range []struct {
		s    api.Stmt
		want string
	}{
		{skip, "skip"}, {two, lines("skip", "raise X")}, {stmt("eq", "X _1"), "X = _1"}, {with(stmt("int", "X"), "", 5), "X = 5"}, {with(stmt("int", "X"), "", -5), "X = ~5"}, {with(stmt("int", "X"), "", -api.MaxInt), "X = ~999999999999999999"},
		{with(stmt("rec", "X"), "a", 0), "X = a"}, {with(stmt("rec", "X"), "", 0), "X = ''"}, {with(stmt("rec", "X"), "if", 0), "X = 'if'"}, {with(stmt("rec", "X"), "a\n'b\\", 0), `X = 'a\n\'b\\'`}, {with(stmt("rec", "X Y"), "|", 0, n(1)), "X = '|'(1:Y)"},
		{with(stmt("rec", "X Y Z"), "l", 0, f("f"), f("g")), "X = l(f:Y g:Z)"}, {with(stmt("rec", "X Y _2 Z"), "l", 0, n(3), n(10), f("B")), "X = l(3:Y 10:_2 'B':Z)"},
		{stmt("call", "X"), "{X}"}, {stmt("call", "X Y Z"), "{X Y Z}"}, {with(stmt("op", "X Y Z"), "+", 0), "op + X Y Z"}, {with(stmt("op", "X Y Z"), "\\=", 0), "op \\= X Y Z"}, {with(stmt("op", "X Y Z"), "div", 0), "op div X Y Z"}, {with(stmt("op", "X"), "show", 0), "op show X"}, {with(stmt("op", "X Y"), "~", 0), "op ~ X Y"}, {stmt("raise", "X"), "raise X"},
		{stmt("local", "X Y", skip), lines("local X Y in", "  skip", "end")}, {stmt("local", "X", two), lines("local X in", "  skip", "  raise X", "end")},
		{stmt("proc", "X", skip), lines("X = proc {}", "  skip", "end")}, {stmt("proc", "X A B", two), lines("X = proc {A B}", "  skip", "  raise X", "end")},
		{stmt("if", "X", skip, two), lines("if X then", "  skip", "else", "  skip", "  raise X", "end")}, {with(stmt("number", "X", skip, x), "", 5), lines("number X 5 then", "  skip", "else", "  raise X", "end")}, {with(stmt("number", "X", skip, x), "", -5), lines("number X ~5 then", "  skip", "else", "  raise X", "end")},
		{with(stmt("case", "X", skip, x), "l", 0), lines("case X of l then", "  skip", "else", "  raise X", "end")}, {with(stmt("case", "X", skip, skip), "", 0), lines("case X of '' then", "  skip", "else", "  skip", "end")}, {with(stmt("case", "X Y", skip, skip), "l", 0, f("f")), lines("case X of l(f:Y) then", "  skip", "else", "  skip", "end")},
		{with(stmt("case", "X Y", skip, skip), "l", 1, f("f")), lines("case X of l(f:Y ...) then", "  skip", "else", "  skip", "end")}, {with(stmt("case", "X Y Z", skip, skip), "", 2, n(1), f("f g")), lines("case X of (1:Y 'f g':Z ...) then", "  skip", "else", "  skip", "end")}, {with(stmt("case", "X", skip, skip), "l", 1), lines("case X of l(...) then", "  skip", "else", "  skip", "end")}, {with(stmt("case", "X", skip, skip), "", 2), lines("case X of (...) then", "  skip", "else", "  skip", "end")}, {with(stmt("case", "X", skip, skip), "", 1), lines("case X of ''(...) then", "  skip", "else", "  skip", "end")},
		{stmt("thread", "", two), lines("thread", "  skip", "  raise X", "end")}, {stmt("try", "E", two, x), lines("try", "  skip", "  raise X", "catch E then", "  raise X", "end")},
		{stmt("choice", "", x), lines("choice", "  raise X", "end")}, {stmt("choice", "", x, two, skip), lines("choice", "  raise X", "[]", "  skip", "  raise X", "[]", "  skip", "end")},
		{stmt("seq", "", stmt("thread", "", stmt("thread", "", two)), skip), lines("thread", "  thread", "    skip", "    raise X", "  end", "end", "skip")},
	} {
		text, err := kernel.Print(c.s)
		if err != api.OK || text != c.want {
			t.Errorf("P3.3: Print(%v): %q, %d; want %q", c.s, text, err, c.want)
		}
		again, err := kernel.Parse(c.want)
		if err != api.OK || !kernel.Same(again, c.s) {
			t.Errorf("P3.5: Parse(%q): %v, %d", c.want, again, err)
		}
	}
}

func TestParseOfAllElse(t *testing.T) {
	for _, text := range []string{
		"", " ", "\n", "skip\n", "\nskip", " skip", "skip ", "skip\n\nskip", "skip skip", "skip\r\nskip", "skip\tskip", "skip % a", "skip /* */", "(skip)", "'skip'", `"skip"`, "Skip", "?",
		"X", "X =", "X = ", "X=Y", "X =  Y", "X  = Y", " X = Y", "X = Y ", "X = Y Z", "x = Y", "X = _", "X = _0", "X = _01", "X = _ 1", "X = _~1", "X = __1", "_ = X", "X = _1000000000000000000", "X == Y", "Y := X",
		"X = 05", "X = -5", "X = ~0", "X = ~ 5", "X = +5", "X = 1000000000000000000", "X = 5.", "X = &a",
		"X = 'a'", "X = 'a b", "X = a()", "X = a(1:Y", "X = a(1 :Y)", "X = a(1: Y)", "X = a(1:Y )", "X = a( 1:Y)", "X = a (1:Y)", "X = a(Y)", "X = a(1:Y 1:Z)", "X = a(2:Y 1:Z)", "X = a(0:Y)", "X = a(1001:Y)", "X = a('f':Y)", "X = a(f:Y  g:Z)", "X = a(f:Y,g:Z)", "X = a(f:5)", "X = a(f:Y ...)", "X = (f:Y)", "X = if", `X = "a"`, "X = 'a\nb'", "X = '\x00'", "X = " + strings.Repeat("a", api.MaxAtom+1),
		"{}", "{X", "{ X}", "{X }", "{X  Y}", "{X 1}", "{x}", "X}", "{X} {Y}",
		"op", "op +", "op + X", "op + X Y", "op + X Y Z W", "op + X Y 1", "op show", "op Show X", "op 'show' X", "op show  X", "op  show X", "op show X Y", "op foo X", "op andthen X Y Z", "op\nshow X", "op '\\n' X", "op '' X",
		"raise", "raise X Y", "raise 1", "raise X end",
		"local X in\n  skip", "local X in\nskip\nend", "local X in\n skip\nend", "local X in\n   skip\nend", "local X in\n\tskip\nend", "local X in\n  skip\n  end", "local X in\n  skip\n end", "local X in skip end", "local X in\nend", "local in\n  skip\nend", "local X X in\n  skip\nend", "local X Y\n  skip\nend", "local X in\n  skip\nend end", "local X in\n  skip\nend\nend", "local X in\n  skip\nelse\n  skip\nend", "local X in\n  skip\n[]\n  skip\nend", "local X\nin\n  skip\nend", "local X  in\n  skip\nend",
		"X = proc\n  skip\nend", "X = proc {A A}\n  skip\nend", "X = proc { }\n  skip\nend", "X = proc {A} \n  skip\nend", "X = proc {1}\n  skip\nend", "X = proc {}\nend", "proc {X}\n  skip\nend", "X =\nproc {}\n  skip\nend",
		"if X then\n  skip\nend", "if X then\n  skip\nelse\nend", "if X then\nelse\n  skip\nend", "if X then\n  skip\nelse\n  skip", "if X then\n  skip\nelse\n  skip\nelse\n  skip\nend", "if X then\n  skip\n[]\n  skip\nend", "if X Y then\n  skip\nelse\n  skip\nend", "if then\n  skip\nelse\n  skip\nend", "if X\n  skip\nelse\n  skip\nend", "if X then\n  skip\ncatch Y then\n  skip\nend",
		"number X then\n  skip\nelse\n  skip\nend", "number X a then\n  skip\nelse\n  skip\nend", "number X 05 then\n  skip\nelse\n  skip\nend", "number 5 X then\n  skip\nelse\n  skip\nend", "number X 5 6 then\n  skip\nelse\n  skip\nend",
		"case X of then\n  skip\nelse\n  skip\nend", "case X of Y then\n  skip\nelse\n  skip\nend", "case X of 5 then\n  skip\nelse\n  skip\nend", "case X of l() then\n  skip\nelse\n  skip\nend", "case X of (f:Y) then\n  skip\nelse\n  skip\nend", "case X of () then\n  skip\nelse\n  skip\nend", "case X of l(... f:Y) then\n  skip\nelse\n  skip\nend", "case X of l(f:Y ... ...) then\n  skip\nelse\n  skip\nend", "case X of l(f:X) then\n  skip\nelse\n  skip\nend", "case X of l(f:Y g:Y) then\n  skip\nelse\n  skip\nend", "case X of l(f:Y...) then\n  skip\nelse\n  skip\nend", "case X Y of l then\n  skip\nelse\n  skip\nend", "case of l then\n  skip\nelse\n  skip\nend", "case X of 'l' then\n  skip\nelse\n  skip\nend", "case X of l then\n  skip\nend",
		"thread skip end", "thread\nend", "thread X\n  skip\nend", "thread\n  skip\nend skip", "thread\n  skip\n\nend", "try\n  skip\nend", "try\n  skip\ncatch X\n  skip\nend", "try\n  skip\ncatch X then\nend", "try\n  skip\ncatch 1 then\n  skip\nend", "try\n  skip\ncatch X then\n  skip\ncatch Y then\n  skip\nend", "try\n  skip\nelse\n  skip\nend", "choice\nend", "choice\n  skip\n[]\nend", "choice\n  skip\n[ ]\n  skip\nend", "choice\n[]\n  skip\nend", "choice\n  skip\nelse\n  skip\nend",
		"end", "else", "[]", "catch X then", "then", "in", "fun {X} 1 end", "{X}\n  {Y}", "X = Y\nend", "number", "case", "if", "try", "choice", "thread", "local", "proc",
		strings.Repeat("skip\n", api.MaxTree-1) + "skip", "{" + strings.Repeat("X ", api.MaxArgs) + "X}", nestedText(api.MaxNest), strings.Repeat("thread\n", 1<<17) + "skip", strings.Repeat(" ", api.MaxSource+1) + "skip",
	} {
		if s, err := kernel.Parse(text); err != api.ErrForm || !kernel.Same(s, api.Stmt{}) {
			t.Errorf("P3.3: Parse(%.60q of %d bytes): %v, %d", text, len(text), s, err)
		}
	}
}

// nestedText returns the lines of so many threads in each other.
func nestedText(n int) string {
	text := strings.Repeat("  ", n) + "skip"
	for i := range n {
		blanks := strings.Repeat("  ", n-1-i)
		text = lines(blanks+"thread", text, blanks+"end")
	}
	return text
}

func TestParseOfGreatTexts(t *testing.T) {
	long := strings.Repeat(`\'`, api.MaxAtom-1)
	var fields []string
	for _, last := range "ABCDEFGHIJKLMNOPQRSTUVWXYZabcdefghijklm" {
		fields = append(fields, "'"+long+string(last)+"':X"+strings.Repeat("x", api.MaxAtom-1))
	}
	for _, text := range []string{
		nestedText(api.MaxNest - 1), strings.Repeat("skip\n", api.MaxTree-2) + "skip", strings.Repeat("{Xxxxxxxxxxxx"+strings.Repeat(" Yyyyyyyyyy", api.MaxArgs-1)+"}\n", api.MaxTree-2) + "skip",
		"X = '" + long + "'(" + strings.Join(fields, " ") + ")",
	} {
		s, err := kernel.Parse(text)
		again, err2 := kernel.Print(s)
		if err != api.OK || err2 != api.OK || again != text {
			t.Errorf("P3.3: Parse(%.60q of %d bytes): %d", text, len(text), err)
		}
	}
}
