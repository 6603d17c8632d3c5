package read

import (
	"strconv"
	"strings"

	"afterword/api"
)

// The levels of expressions: one stands without brackets where its own level, or a lower one, is asked for.
const (
	asExp = iota
	asChain
	asAtom
)

// The levels of terms.
const (
	asCalc = iota
	asSum
	asProduct
	asUnit
)

// printer makes the tokens of a program.
type printer struct {
	heads map[api.TermOp]string // the first words of Posts
	posts map[string]form
	words []string
}

func newPrinter() *printer {
	p := &printer{heads: map[api.TermOp]string{}, posts: forms()}
	for head, f := range p.posts {
		p.heads[f.op] = head
	}
	return p
}

func (p *printer) add(words ...string) { p.words = append(p.words, words...) }

func (p *printer) integer(n int) { p.add(strings.Replace(strconv.Itoa(n), "-", "~", 1)) }

// within puts brackets around what is written, if it has to have some.
func (p *printer) within(brackets bool, write func()) {
	if !brackets {
		write()
		return
	}
	p.add("(")
	write()
	p.add(")")
}

func (p *printer) program(prog api.TermProg) {
	ahead := "source"
	for _, s := range prog.Srcs {
		p.add(ahead, s)
		ahead = ","
	}
	for _, d := range prog.Defs {
		p.add("let", d.Name, "=")
		p.exp(d.Exp, asExp)
	}
}

func (p *printer) exp(x api.TermExp, level int) {
	switch x.Op {
	case api.TermSrc, api.TermRef:
		p.add(x.Name)
	case api.TermPrev:
		p.add("prev")
		p.integer(x.N)
		p.add(x.Name)
	case api.TermBoth:
		p.within(level > asExp, func() {
			p.exp(x.Kids[0], asExp)
			p.add("and")
			p.exp(x.Kids[1], asChain)
		})
	default:
		p.within(level > asChain, func() {
			p.exp(x.Kids[0], asChain)
			head := p.heads[x.Op]
			p.add(head)
			p.posts[head].print(p, x)
		})
	}
}

func (p *printer) calc(c api.Calc, level int) {
	switch own := calcLevel(c.Op); {
	case c.Op == api.CalcInt:
		p.integer(c.N)
	case own == asUnit:
		p.add(calcWords[c.Op-api.CalcAt])
	default:
		p.within(level > own, func() {
			p.calc(c.Kids[0], max(own, asSum)) // less and same stand once in a row
			p.add(calcWords[c.Op-api.CalcAt])
			p.calc(c.Kids[1], own+1)
		})
	}
}

func calcLevel(op api.CalcOp) int {
	switch op {
	case api.CalcLess, api.CalcSame:
		return asCalc
	case api.CalcAdd, api.CalcSub:
		return asSum
	case api.CalcMul:
		return asProduct
	}
	return asUnit
}

// spaced puts tokens one behind the other, with blanks where they have to be.
func spaced(words []string) string {
	var out strings.Builder
	last := "("
	for _, w := range words {
		if last != "(" && w != ")" && w != "," {
			out.WriteByte(' ')
		}
		out.WriteString(w)
		last = w
	}
	return out.String()
}
