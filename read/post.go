package read

import "afterword/api"

// What stands in a form for something of the grammar; each other word stands for itself.
const (
	aNumber = "number"
	aFold   = "Fold"
	anAtom  = "Atom"
	aCalc   = "Calc"
)

// form is how a kind of Posts is read and printed.
type form struct {
	op   api.TermOp
	rest []string // what stands behind its first word
}

// forms holds those of all Posts by their first words.
func forms() map[string]form {
	return map[string]form{
		"where": formOf(api.TermWhere, aCalc),
		"each":  formOf(api.TermEach, aCalc, ",", aCalc),
		"shift": formOf(api.TermShift, aNumber),
		"group": formOf(api.TermGroup, aNumber, "by", aFold),
		"slide": formOf(api.TermSlide, aNumber, "by", aFold),
		"total": formOf(api.TermTotal, "by", aFold),
		"rest":  formOf(api.TermRest, aNumber, "by", aFold),
		"once":  formOf(api.TermOnce),
		"pair":  formOf(api.TermPair, anAtom, "within", aNumber, "as", aCalc),
		"at":    formOf(api.TermAsof, anAtom, "as", aCalc),
		"lack":  formOf(api.TermLack, anAtom, "within", aNumber),
	}
}

func formOf(op api.TermOp, rest ...string) form { return form{op, rest} }

// read puts what stands behind the first word into an expression.
func (f form) read(r *reader, x *exp) {
	for _, w := range f.rest {
		switch w {
		case aNumber:
			x.N = r.integer()
		case aFold:
			x.Fold = r.fold()
		case anAtom:
			x.addKid(r.atom())
		case aCalc:
			x.addCalc(r.calc())
		default:
			r.want(w)
		}
	}
}

// print writes what stands behind the first word.
func (f form) print(p *printer, x api.TermExp) {
	calcs := x.Calcs
	for _, w := range f.rest {
		switch w {
		case aNumber:
			p.integer(x.N)
		case aFold:
			p.add(foldWords[x.Fold-api.FoldCount])
		case anAtom:
			p.exp(x.Kids[1], asAtom)
		case aCalc:
			p.calc(calcs[0], asCalc)
			calcs = calcs[1:]
		default:
			p.add(w)
		}
	}
}
