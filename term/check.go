package term

import "afterword/api"

// kind is what the expressions of a kind have; all else is zero, or empty.
type kind struct {
	named       func(s definition, name string) bool // whether its Name may be this one
	least, most int                                  // its N
	fold        bool
	calcs, kids int  // how many
	other       bool // whether CalcOther may stand in its Calcs
}

// kinds holds what each kind of expressions has.
func kinds() map[api.TermOp]kind {
	const span = api.TermSpan
	return map[api.TermOp]kind{
		api.TermSrc:   {named: definition.isSrc},
		api.TermRef:   {named: definition.isAhead},
		api.TermPrev:  {named: definition.isDef, least: 1, most: span},
		api.TermBoth:  {kids: 2},
		api.TermWhere: {calcs: 1, kids: 1},
		api.TermEach:  {calcs: 2, kids: 1},
		api.TermShift: {least: -span, most: span, kids: 1},
		api.TermGroup: {least: 1, most: span, fold: true, kids: 1},
		api.TermSlide: {least: 0, most: span, fold: true, kids: 1},
		api.TermTotal: {fold: true, kids: 1},
		api.TermRest:  {least: 1, most: span, fold: true, kids: 1},
		api.TermPair:  {least: 0, most: span, calcs: 1, kids: 2, other: true},
		api.TermAsof:  {calcs: 1, kids: 2, other: true},
		api.TermLack:  {least: 0, most: span, kids: 2},
		api.TermOnce:  {kids: 1},
	}
}

// notFormed is what a check gives up with.
type notFormed struct{}

// check goes through a program, and counts its nodes.
type check struct {
	kinds map[api.TermOp]kind
	nodes int
}

// Check returns ErrArg for a program that is not formed.
func Check(p api.TermProg) api.Errno {
	_, e := Nodes(p)
	return e
}

// Nodes returns the number of nodes of a program.
func Nodes(p api.TermProg) (int, api.Errno) {
	n, ok := countNodes(p)
	if !ok {
		return 0, api.ErrArg
	}
	return n, api.OK
}

// checkDefs returns ErrArg for a program that is not formed, and for a number of a definition that there is not.
func checkDefs(p api.TermProg, defs ...int) api.Errno {
	if e := Check(p); e != api.OK {
		return e
	}
	for _, def := range defs {
		if def < 0 || def >= len(p.Defs) {
			return api.ErrArg
		}
	}
	return api.OK
}

// countNodes also reports whether the program is formed.
func countNodes(p api.TermProg) (nodes int, formed bool) {
	defer func() {
		if recover() != nil {
			nodes, formed = 0, false
		}
	}()
	wantNames(p)
	c := check{kinds: kinds()}
	scope := scopeOf(p)
	for i, d := range p.Defs {
		c.exp(definition{scope, i}, d.Exp, 1)
	}
	wantRings(p)
	return c.nodes, true
}

func want(is bool) {
	if !is {
		panic(notFormed{})
	}
}

func wantNames(p api.TermProg) {
	want(1 <= len(p.Srcs) && len(p.Srcs) <= api.TermSrcs && len(p.Defs) <= api.TermDefs)
	seen := map[string]bool{}
	wantName := func(name string) {
		want(Name(name) && !seen[name])
		seen[name] = true
	}
	for _, s := range p.Srcs {
		wantName(s)
	}
	for _, d := range p.Defs {
		wantName(d.Name)
	}
}

// wantRings asks that no definition of a ring looks ahead.
func wantRings(p api.TermProg) {
	for i, reached := range reachedDefs(p) {
		if !reached[i] {
			continue
		}
		for x := range nodesOf(p.Defs[i].Exp) {
			want(x.Op != api.TermLack && (x.Op != api.TermShift || x.N >= 0))
		}
	}
}

// enter counts a node before its Kids are looked at: so a list that has itself in it comes to an end.
func (c *check) enter(depth int) {
	c.nodes++
	want(c.nodes <= api.TermNodes && depth <= api.TermDepth)
}

func (c *check) exp(s definition, x api.TermExp, depth int) {
	c.enter(depth)
	k, ok := c.kinds[x.Op]
	want(ok && isNamed(k, s, x.Name) && isFolded(k, x.Fold))
	want(k.least <= x.N && x.N <= k.most && len(x.Calcs) == k.calcs && len(x.Kids) == k.kids)
	for _, calc := range x.Calcs {
		c.calc(calc, k.other, 1)
	}
	for _, kid := range x.Kids {
		c.exp(s, kid, depth+1)
	}
}

func isNamed(k kind, s definition, name string) bool {
	if k.named == nil {
		return name == ""
	}
	return k.named(s, name)
}

func isFolded(k kind, fold api.TermFold) bool {
	if !k.fold {
		return fold == 0
	}
	return api.FoldCount <= fold && fold <= api.FoldGreat
}

func (c *check) calc(x api.Calc, other bool, depth int) {
	c.enter(depth)
	most, kids := 0, 0
	switch x.Op {
	case api.CalcInt:
		most = api.RecMost
	case api.CalcAt, api.CalcKey, api.CalcVal:
	case api.CalcOther:
		want(other)
	case api.CalcAdd, api.CalcSub, api.CalcMul, api.CalcLess, api.CalcSame:
		kids = 2
	default:
		want(false)
	}
	want(-most <= x.N && x.N <= most && len(x.Kids) == kids)
	for _, kid := range x.Kids {
		c.calc(kid, other, depth+1)
	}
}
