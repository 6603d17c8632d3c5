package term_test

import (
	"math"
	"math/rand/v2"
	"reflect"
	"slices"
	"strings"
	"testing"

	"afterword/api"
	"afterword/term"
)

// The words of the chapter that are no names.
const keywordText = "after and as at both by count each else great group in is key lack least less let of once or other pair prev rest same shift slide source sum total val where within"

func num(n int) api.Calc { return api.Calc{Op: api.CalcInt, N: n} }

func leaf(op api.CalcOp) api.Calc { return api.Calc{Op: op} }

func two(op api.CalcOp, a, b api.Calc) api.Calc { return api.Calc{Op: op, Kids: []api.Calc{a, b}} }

// deepCalc is a term that is some deep.
func deepCalc(depth int) api.Calc {
	if depth == 1 {
		return leaf(api.CalcVal)
	}
	return two(api.CalcAdd, num(1), deepCalc(depth-1))
}

func src(name string) api.TermExp { return api.TermExp{Op: api.TermSrc, Name: name} }

func ref(name string) api.TermExp { return api.TermExp{Op: api.TermRef, Name: name} }

func prev(n int, name string) api.TermExp { return api.TermExp{Op: api.TermPrev, Name: name, N: n} }

func once(x api.TermExp) api.TermExp {
	return api.TermExp{Op: api.TermOnce, Kids: []api.TermExp{x}}
}

func both(x, y api.TermExp) api.TermExp {
	return api.TermExp{Op: api.TermBoth, Kids: []api.TermExp{x, y}}
}

func shift(n int, x api.TermExp) api.TermExp {
	return api.TermExp{Op: api.TermShift, N: n, Kids: []api.TermExp{x}}
}

func slide(n int, f api.TermFold, x api.TermExp) api.TermExp {
	return api.TermExp{Op: api.TermSlide, N: n, Fold: f, Kids: []api.TermExp{x}}
}

func lack(n int, x, y api.TermExp) api.TermExp {
	return api.TermExp{Op: api.TermLack, N: n, Kids: []api.TermExp{x, y}}
}

func where(c api.Calc, x api.TermExp) api.TermExp {
	return api.TermExp{Op: api.TermWhere, Calcs: []api.Calc{c}, Kids: []api.TermExp{x}}
}

func asof(c api.Calc, x, y api.TermExp) api.TermExp {
	return api.TermExp{Op: api.TermAsof, Calcs: []api.Calc{c}, Kids: []api.TermExp{x, y}}
}

// deepExp has some nodes, and is as deep.
func deepExp(depth int, x api.TermExp) api.TermExp {
	for range depth - 1 {
		x = once(x)
	}
	return x
}

// wideExp has some nodes, an odd number, and is no deeper than it must be.
func wideExp(nodes int, x api.TermExp) api.TermExp {
	if nodes == 1 {
		return x
	}
	left := (nodes - 1) / 2
	left -= 1 - left%2
	return both(wideExp(left, x), wideExp(nodes-1-left, x))
}

func let(name string, x api.TermExp) api.TermDef { return api.TermDef{Name: name, Exp: x} }

func prog(srcs string, defs ...api.TermDef) api.TermProg {
	return api.TermProg{Srcs: strings.Fields(srcs), Defs: defs}
}

// example is the P of the chapter.
func example() api.TermProg {
	return prog("x y",
		let("a", once(src("x"))),
		let("b", both(slide(5, api.FoldSum, ref("a")), prev(3, "b"))),
		let("c", lack(2, ref("a"), src("y"))))
}

// row is a row of the chapter's table.
type row struct {
	op          api.TermOp
	name        string // what it names
	least, most int
	fold        bool
	calcs, kids int
}

var rows = []row{
	{op: api.TermSrc, name: "source"},
	{op: api.TermRef, name: "ahead"},
	{op: api.TermPrev, name: "any", least: 1, most: 50},
	{op: api.TermBoth, kids: 2},
	{op: api.TermWhere, calcs: 1, kids: 1},
	{op: api.TermEach, calcs: 2, kids: 1},
	{op: api.TermShift, least: -50, most: 50, kids: 1},
	{op: api.TermGroup, least: 1, most: 50, fold: true, kids: 1},
	{op: api.TermRest, least: 1, most: 50, fold: true, kids: 1},
	{op: api.TermSlide, most: 50, fold: true, kids: 1},
	{op: api.TermTotal, fold: true, kids: 1},
	{op: api.TermPair, most: 50, calcs: 1, kids: 2},
	{op: api.TermAsof, calcs: 1, kids: 2},
	{op: api.TermLack, most: 50, kids: 2},
	{op: api.TermOnce, kids: 1},
}

// names tells which definitions each one names, by a look at all nodes.
func names(p api.TermProg) [][]bool {
	out := make([][]bool, len(p.Defs))
	for i, d := range p.Defs {
		out[i] = make([]bool, len(p.Defs))
		for _, x := range preorder(d.Exp) {
			for j, f := range p.Defs {
				if (x.Op == api.TermRef || x.Op == api.TermPrev) && x.Name == f.Name {
					out[i][j] = true
				}
			}
		}
	}
	return out
}

// closure adds ways of two steps until there are all.
func closure(l [][]bool) [][]bool {
	for k := range l {
		for i := range l {
			for j := range l {
				l[i][j] = l[i][j] || l[i][k] && l[k][j]
			}
		}
	}
	return l
}

func preorder(x api.TermExp) []api.TermExp {
	out := []api.TermExp{x}
	for _, k := range x.Kids {
		out = append(out, preorder(k)...)
	}
	return out
}

func calcNodes(c api.Calc) int {
	n := 1
	for _, k := range c.Kids {
		n += calcNodes(k)
	}
	return n
}

func depth(x api.TermExp) int {
	n := 0
	for _, k := range x.Kids {
		n = max(n, depth(k))
	}
	return n + 1
}

func calcDepth(c api.Calc) int {
	n := 0
	for _, k := range c.Kids {
		n = max(n, calcDepth(k))
	}
	return n + 1
}

// expNodes leaves terms out.
func expNodes(p api.TermProg) int {
	n := 0
	for _, d := range p.Defs {
		n += len(preorder(d.Exp))
	}
	return n
}

func nodes(p api.TermProg) int {
	n := 0
	for _, d := range p.Defs {
		for _, x := range preorder(d.Exp) {
			n++
			for _, c := range x.Calcs {
				n += calcNodes(c)
			}
		}
	}
	return n
}

func isFormedCalc(c api.Calc, other bool) bool {
	switch {
	case c.Op < api.CalcInt || c.Op > api.CalcSame,
		c.Op == api.CalcOther && !other,
		c.Op >= api.CalcAdd && len(c.Kids) != 2,
		c.Op < api.CalcAdd && len(c.Kids) != 0,
		c.Op != api.CalcInt && c.N != 0,
		c.N < -1000000000 || c.N > 1000000000:
		return false
	}
	return !slices.ContainsFunc(c.Kids, func(k api.Calc) bool { return !isFormedCalc(k, other) })
}

// isFormedNode leaves the Kids out.
func isFormedNode(p api.TermProg, at int, x api.TermExp) bool {
	i := slices.IndexFunc(rows, func(r row) bool { return r.op == x.Op })
	if i < 0 {
		return false
	}
	r := rows[i]
	def := slices.IndexFunc(p.Defs, func(d api.TermDef) bool { return d.Name == x.Name })
	named := map[string]bool{"": x.Name == "", "source": slices.Contains(p.Srcs, x.Name), "ahead": 0 <= def && def < at, "any": def >= 0}
	for _, c := range x.Calcs {
		if calcDepth(c) > 10 || !isFormedCalc(c, x.Op == api.TermPair || x.Op == api.TermAsof) {
			return false
		}
	}
	return named[r.name] && r.least <= x.N && x.N <= r.most && (x.Fold >= 1 && x.Fold <= 4) == r.fold && (r.fold || x.Fold == 0) && len(x.Calcs) == r.calcs && len(x.Kids) == r.kids
}

// isFormed says of a program that is no deeper than some, and not too long, whether it is formed.
func isFormed(p api.TermProg) bool {
	if len(p.Srcs) < 1 || len(p.Srcs) > 4 || len(p.Defs) > 6 {
		return false
	}
	all := slices.Clone(p.Srcs)
	for _, d := range p.Defs {
		all = append(all, d.Name)
	}
	for i, s := range all {
		if !isName(s) || slices.Index(all, s) != i {
			return false
		}
	}
	for i, d := range p.Defs {
		if depth(d.Exp) > 10 {
			return false
		}
		for _, x := range preorder(d.Exp) {
			if !isFormedNode(p, i, x) {
				return false
			}
		}
	}
	for i, l := range closure(names(p)) {
		for _, x := range preorder(p.Defs[i].Exp) {
			if l[i] && (x.Op == api.TermLack || x.Op == api.TermShift && x.N < 0) {
				return false
			}
		}
	}
	return nodes(p) <= 60
}

func isName(s string) bool {
	return s != "" && len(s) <= 8 && strings.Trim(s, "abcdefghijklmnopqrstuvwxyz") == "" && !slices.Contains(strings.Fields(keywordText), s)
}

func randomCalc(r *rand.Rand, depth int, other bool) api.Calc {
	op := api.CalcOp(1 + r.IntN(10))
	switch {
	case op == api.CalcOther && !other, op >= api.CalcAdd && depth <= 1:
		return num(r.IntN(7) - 3)
	case op == api.CalcInt:
		return num(r.IntN(2000000001) - 1000000000)
	case op >= api.CalcAdd:
		return two(op, randomCalc(r, depth-1, other), randomCalc(r, depth-1, other))
	}
	return leaf(op)
}

// randomExp names only what there is, and is formed but for its length, and for rings that look ahead.
func randomExp(r *rand.Rand, srcs, ahead, all []string, depth int) api.TermExp {
	if depth <= 1 || r.IntN(4) == 0 {
		switch {
		case r.IntN(3) == 0:
			return prev(1+r.IntN(50), all[r.IntN(len(all))])
		case len(ahead) > 0 && r.IntN(2) == 0:
			return ref(ahead[r.IntN(len(ahead))])
		}
		return src(srcs[r.IntN(len(srcs))])
	}
	w := rows[3+r.IntN(len(rows)-3)]
	x := api.TermExp{Op: w.op, N: w.least + r.IntN(w.most-w.least+1)}
	if w.op == api.TermShift && r.IntN(3) > 0 {
		x.N = max(x.N, -x.N)
	}
	if w.fold {
		x.Fold = api.TermFold(1 + r.IntN(4))
	}
	for range w.calcs {
		x.Calcs = append(x.Calcs, randomCalc(r, 1+r.IntN(3), w.op == api.TermPair || w.op == api.TermAsof))
	}
	for range w.kids {
		x.Kids = append(x.Kids, randomExp(r, srcs, ahead, all, depth-1))
	}
	return x
}

var pool = []string{"a", "b", "c", "d", "e", "f", "g", "h", "i", "j", "k", "z", "aa", "abc", "sources", "zzzzzzzz"}

// randomProg is formed but for its length, and for rings that look ahead.
func randomProg(r *rand.Rand) api.TermProg {
	l := slices.Clone(pool)
	r.Shuffle(len(l), func(i, j int) { l[i], l[j] = l[j], l[i] })
	n, m := 1+r.IntN(4), r.IntN(7)
	p := api.TermProg{Srcs: slices.Clone(l[:n])}
	for i, name := range l[n : n+m] {
		p.Defs = append(p.Defs, let(name, randomExp(r, l[:n], l[n:n+i], l[n:n+m], 1+r.IntN(4))))
	}
	return p
}

// formedProgs are some random programs that are formed.
func formedProgs(t *testing.T, seed uint64, count int) []api.TermProg {
	r := rand.New(rand.NewPCG(seed, 2))
	var out []api.TermProg
	for len(out) < count {
		if p := randomProg(r); isFormed(p) {
			out = append(out, p)
		}
	}
	if len(out) == 0 {
		t.Fatal("no programs")
	}
	return out
}

// badProgs are not formed, each for another reason.
func badProgs() []api.TermProg {
	loop := []api.TermExp{once(src("x"))}
	loop[0].Kids = loop
	wide := []api.TermExp{src("x"), src("x")}
	wide[0], wide[1] = api.TermExp{Op: api.TermBoth, Kids: wide}, api.TermExp{Op: api.TermBoth, Kids: wide}
	calcs := []api.Calc{num(1), num(2)}
	calcs[0], calcs[1] = api.Calc{Op: api.CalcAdd, Kids: calcs}, api.Calc{Op: api.CalcMul, Kids: calcs}
	return []api.TermProg{
		{},
		prog("", let("a", prev(1, "a"))),
		prog("x x"),
		prog("x", let("x", src("x"))),
		prog("x", let("a", src("x")), let("a", src("x"))),
		prog("x at"),
		prog("x", let("val", src("x"))),
		prog("x", let("a", ref("a"))),
		prog("x", let("a", ref("b")), let("b", src("x"))),
		prog("x", let("a", src("y"))),
		prog("x", let("a", api.TermExp{})),
		prog("x", let("a", lack(1, src("x"), prev(1, "a")))),
		prog("x", let("a", once(once(loop[0])))),
		prog("x", let("a", wide[0])),
		prog("x", let("a", where(calcs[0], src("x")))),
		prog("x", let("a", where(leaf(api.CalcOther), src("x")))),
		prog("x", let("a", prev(math.MaxInt, "a"))),
		prog("x", let("a", shift(math.MinInt, src("x")))),
	}
}

// extents are the places in memory of all lists in some values.
func extents(l ...any) [][2]uintptr {
	var out [][2]uintptr
	var walk func(v reflect.Value)
	walk = func(v reflect.Value) {
		switch v.Kind() {
		case reflect.Struct:
			for i := range v.NumField() {
				walk(v.Field(i))
			}
		case reflect.Slice:
			if v.Cap() > 0 {
				out = append(out, [2]uintptr{v.Pointer(), v.Pointer() + uintptr(v.Cap())*v.Type().Elem().Size()})
			}
			for i := range v.Len() {
				walk(v.Index(i))
			}
		}
	}
	for _, x := range l {
		walk(reflect.ValueOf(x))
	}
	return out
}

// shares reports whether results share memory with arguments, or with each other.
func shares(args, results []any) bool {
	own, given := extents(results...), extents(args...)
	for i, x := range own {
		for _, y := range slices.Concat(own[i+1:], given) {
			if x[0] < y[1] && y[0] < x[1] {
				return true
			}
		}
	}
	return false
}

// equal does not tell nil from empty.
func equal(p, q api.TermProg) bool {
	return reflect.DeepEqual(full(p), full(q))
}

func equalExps(x, y []api.TermExp) bool {
	return reflect.DeepEqual(fullExps(x), fullExps(y))
}

// full is a copy of a program in which no list is nil.
func full(p api.TermProg) api.TermProg {
	out := api.TermProg{Srcs: append([]string{}, p.Srcs...), Defs: []api.TermDef{}}
	for _, d := range p.Defs {
		out.Defs = append(out.Defs, let(d.Name, fullExps([]api.TermExp{d.Exp})[0]))
	}
	return out
}

func fullExps(l []api.TermExp) []api.TermExp {
	out := []api.TermExp{}
	for _, x := range l {
		x.Calcs, x.Kids = fullCalcs(x.Calcs), fullExps(x.Kids)
		out = append(out, x)
	}
	return out
}

func fullCalcs(l []api.Calc) []api.Calc {
	out := []api.Calc{}
	for _, c := range l {
		c.Kids = fullCalcs(c.Kids)
		out = append(out, c)
	}
	return out
}

// change puts another node in place of the one with a number, in a copy of a program.
func change(p api.TermProg, at int, with func(x *api.TermExp)) api.TermProg {
	p = full(p)
	var walk func(x *api.TermExp)
	walk = func(x *api.TermExp) {
		at--
		if at == -1 {
			with(x)
			return
		}
		for i := range x.Kids {
			walk(&x.Kids[i])
		}
	}
	for i := range p.Defs {
		walk(&p.Defs[i].Exp)
	}
	return p
}

func mustCheck(t *testing.T, p api.TermProg) {
	t.Helper()
	if e := term.Check(p); e != api.OK {
		t.Error("not formed", p, e)
	}
}
