package read

import (
	"slices"

	"afterword/api"
)

// program is a program that was read, and where its definitions stand.
type program struct {
	api.TermProg
	places []place
}

// place is where a node stands, and where those below it do: its Kids and then its Calcs, as they come in the order of nodes.
type place struct {
	spot  api.ReadSpot
	below []place
}

// def is a definition, and where it stands.
type def struct {
	api.TermDef
	place
}

// exp is an expression, and where it stands.
type exp struct {
	api.TermExp
	place
}

// calc is a term, and where it stands.
type calc struct {
	api.Calc
	place
}

// The words of terms and of folds, in the order of their numbers.
var (
	calcWords = [...]string{"at", "key", "val", "other", "+", "-", "*", "less", "same"} // from CalcAt on
	foldWords = [...]string{"count", "sum", "least", "great"}                           // from FoldCount on
)

func (x *exp) addKid(kid exp) {
	x.Kids = append(x.Kids, kid.TermExp)
	x.below = append(x.below, kid.place)
}

// addCalc has to come behind each addKid: so places are in the order of nodes.
func (x *exp) addCalc(c calc) {
	x.Calcs = append(x.Calcs, c.Calc)
	x.below = append(x.below, c.place)
}

func (c *calc) addKid(kid calc) {
	c.Kids = append(c.Kids, kid.Calc)
	c.below = append(c.below, kid.place)
}

// text reads a Text.
func (r *reader) text() program {
	r.srcs = r.sources()
	out := program{TermProg: api.TermProg{Srcs: r.srcs}}
	for t, ok := r.take("let"); ok; t, ok = r.take("let") {
		d := r.def(t)
		out.Defs = append(out.Defs, d.TermDef)
		out.places = append(out.places, d.place)
	}
	r.wantEnd()
	return out
}

// sourcePiece reads a piece that has sources and nothing else.
func (r *reader) sourcePiece() []string {
	names := r.sources()
	r.wantEnd()
	return names
}

// letPiece reads a piece that is a definition.
func (r *reader) letPiece() api.TermDef {
	d := r.def(r.want("let"))
	r.wantEnd()
	return d.TermDef
}

func (r *reader) sources() []string {
	r.want("source")
	join := func(_ string, a, b []string) []string { return append(a, b...) }
	return list(r, r.name, join, ",")
}

// name is a list of one, so that names are joined as all else is.
func (r *reader) name() []string { return []string{r.want(anyName).Text} }

// def reads a Let behind its first token.
func (r *reader) def(let api.ReadToken) def {
	var d def
	d.Name = r.want(anyName).Text
	r.want("=")
	x := r.exp()
	d.Exp = x.TermExp
	d.place = place{r.since(let.At), []place{x.place}}
	return d
}

func (r *reader) exp() exp {
	from := r.next().At
	both := func(_ string, a, b exp) exp {
		x := exp{TermExp: api.TermExp{Op: api.TermBoth}, place: place{spot: r.since(from)}}
		x.addKid(a)
		x.addKid(b)
		return x
	}
	return list(r, r.chain, both, "and")
}

func (r *reader) chain() exp {
	from := r.next().At
	out := r.atom()
	for t, ok := r.take(r.heads...); ok; t, ok = r.take(r.heads...) {
		f := r.posts[t.Text]
		x := exp{TermExp: api.TermExp{Op: f.op}}
		x.addKid(out)
		f.read(r, &x)
		x.spot = r.since(from)
		out = x
	}
	return out
}

// atom leaves brackets out of the spot: whoever asked for it begins and ends its own with them.
func (r *reader) atom() exp {
	t := r.want(anyName, "prev", "(")
	if t.Text == "(" {
		x := r.exp()
		r.want(")")
		return x
	}
	var x exp
	if t.Text == "prev" {
		x.Op = api.TermPrev
		x.N = r.integer()
		x.Name = r.want(anyName).Text
	} else {
		x.Op = r.named(t.Text)
		x.Name = t.Text
	}
	x.spot = r.since(t.At)
	return x
}

// named tells what a name alone says.
func (r *reader) named(name string) api.TermOp {
	if slices.Contains(r.srcs, name) {
		return api.TermSrc
	}
	return api.TermRef
}

func (r *reader) calc() calc {
	from := r.next().At
	a := r.sum()
	t, ok := r.take("less", "same")
	if !ok {
		return a
	}
	b := r.sum()
	return r.joining(from)(t.Text, a, b)
}

func (r *reader) sum() calc { return list(r, r.product, r.joining(r.next().At), "+", "-") }

func (r *reader) product() calc { return list(r, r.unit, r.joining(r.next().At), "*") }

// joining makes terms of two that stand on both sides of a word, the first one from some byte on.
func (r *reader) joining(from int) func(word string, a, b calc) calc {
	return func(word string, a, b calc) calc {
		c := calc{Calc: api.Calc{Op: calcOp(word)}, place: place{spot: r.since(from)}}
		c.addKid(a)
		c.addKid(b)
		return c
	}
}

// unit leaves brackets out of the spot, as atom does.
func (r *reader) unit() calc {
	t := r.want(anyInteger, "at", "key", "val", "other", "(")
	if t.Text == "(" {
		c := r.calc()
		r.want(")")
		return c
	}
	c := calc{place: place{spot: r.since(t.At)}}
	if t.Kind == api.ReadInt {
		c.Op = api.CalcInt
		c.N = number(t.Text)
	} else {
		c.Op = calcOp(t.Text)
	}
	return c
}

func (r *reader) integer() int { return number(r.want(anyInteger).Text) }

func (r *reader) fold() api.TermFold {
	t := r.want("count", "sum", "least", "great")
	for i, w := range foldWords {
		if w == t.Text {
			return api.FoldCount + api.TermFold(i)
		}
	}
	return 0
}

func calcOp(word string) api.CalcOp {
	for i, w := range calcWords {
		if w == word {
			return api.CalcAt + api.CalcOp(i)
		}
	}
	return 0
}
