package tree

import (
	"manystrand/api"
)

// keyed returns the reader of what follows a key with which a phrase begins: nil, if none does.
func (p *parser) keyed(key string) part {
	switch key {
	case "skip":
		return func() api.Tree { return api.Tree{Do: "skip"} }
	case "local":
		return p.local
	case "proc":
		return func() api.Tree { return p.procedure("proc") }
	case "fun":
		return p.function
	case "if":
		return p.condition
	case "case":
		return p.distinction
	case "thread":
		return func() api.Tree { return api.Tree{Do: "thread", Kids: []api.Tree{p.bodyTo("end")}} }
	case "raise":
		return func() api.Tree { return api.Tree{Do: "raise", Kids: []api.Tree{p.phraseTo("end")}} }
	case "try":
		return p.attempt
	case "for":
		return p.loop
	case "lock":
		return p.lock
	case "choice":
		return p.choice
	}
	return nil
}

func (p *parser) local() api.Tree {
	seen := map[string]bool{}
	vars := p.several(func() api.Tree { return p.variable(seen) }, "in")
	p.take("in")
	return api.Tree{Do: "local", N: len(vars), Kids: append(vars, p.bodyTo("end"))}
}

func (p *parser) function() api.Tree {
	if p.takeIf("lazy") {
		return p.procedure("lazy")
	}
	return p.procedure("fun")
}

func (p *parser) procedure(do string) api.Tree {
	p.take("{")
	kids := []api.Tree{p.name()}
	for seen := map[string]bool{}; !p.takeIf("}"); {
		kids = append(kids, p.variable(seen))
	}
	return api.Tree{Do: do, Kids: append(kids, p.bodyTo("end"))}
}

func (p *parser) name() api.Tree {
	if p.takeIf("$") {
		return api.Tree{Do: "any"}
	}
	return p.oneVariable()
}

func (p *parser) condition() api.Tree {
	kids := []api.Tree{p.phraseTo("then"), p.body("else", "end")}
	return api.Tree{Do: "if", Kids: p.otherwise(kids)}
}

// otherwise reads the end of what may have an else ahead of it.
func (p *parser) otherwise(kids []api.Tree) []api.Tree {
	if p.takeIf("else") {
		kids = append(kids, p.body("end"))
	}
	p.take("end")
	return kids
}

func (p *parser) distinction() api.Tree {
	kids := []api.Tree{p.phraseTo("of"), p.arm()}
	for p.takeIf("[]") {
		kids = append(kids, p.arm())
	}
	return api.Tree{Do: "case", Kids: p.otherwise(kids)}
}

func (p *parser) arm() api.Tree {
	pattern := p.pattern()
	p.take("then")
	return api.Tree{Do: "arm", Kids: []api.Tree{pattern, p.body("[]", "else", "end")}}
}

func (p *parser) attempt() api.Tree {
	body := p.bodyTo("catch")
	caught := p.oneVariable()
	p.take("then")
	return api.Tree{Do: "try", Kids: []api.Tree{body, caught, p.bodyTo("end")}}
}

func (p *parser) lock() api.Tree {
	return api.Tree{Do: "lock", Kids: []api.Tree{p.phraseTo("then"), p.bodyTo("end")}}
}

func (p *parser) choice() api.Tree {
	kids := []api.Tree{p.body("[]", "end")}
	for p.takeIf("[]") {
		kids = append(kids, p.body("[]", "end"))
	}
	p.take("end")
	return api.Tree{Do: "choice", Kids: kids}
}

// loop reads a loop behind its `for`: over the parts of a list, or over numbers.
func (p *parser) loop() api.Tree {
	if !p.takeIf("each") {
		return p.numbers(p.generator())
	}
	return api.Tree{Do: "each", Kids: append(p.generator(), p.loopBody())}
}

// generator reads a variable, and where it is from.
func (p *parser) generator() []api.Tree {
	x := p.oneVariable()
	p.take("in")
	return []api.Tree{x, p.phrase()}
}

// numbers reads what follows the generator of a loop over numbers.
func (p *parser) numbers(generator []api.Tree) api.Tree {
	p.take("at")
	last := p.phrase()
	return api.Tree{Do: "for", Kids: append(generator, last, p.loopBody())}
}

func (p *parser) loopBody() api.Tree {
	p.take("do")
	return p.bodyTo("end")
}
