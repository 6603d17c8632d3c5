package term_test

import (
	"math"
	"math/rand/v2"
	"reflect"
	"slices"
	"strings"
	"testing"

	"afterword/api"
	"afterword/term"
)

var anyNames = append([]string{"", "at", "A", "\xff", strings.Repeat("a", 9)}, pool...)

var anyNumbers = []int{0, 0, 0, 1, 2, -1, 50, 51, -51, math.MaxInt, math.MinInt}

func pick[T any](r *rand.Rand, l []T) T { return l[r.IntN(len(l))] }

func anyCalc(r *rand.Rand, depth int) api.Calc {
	c := api.Calc{Op: api.CalcOp(r.IntN(14) - 2), N: pick(r, anyNumbers)}
	for range r.IntN(4) {
		if depth > 0 {
			c.Kids = append(c.Kids, anyCalc(r, depth-1))
		}
	}
	return c
}

func anyExp(r *rand.Rand, depth int) api.TermExp {
	x := api.TermExp{Op: api.TermOp(r.IntN(19) - 2), Name: pick(r, anyNames), N: pick(r, anyNumbers), Fold: api.TermFold(r.IntN(7) - 1)}
	for range r.IntN(4) {
		x.Calcs = append(x.Calcs, anyCalc(r, r.IntN(3)))
	}
	for range r.IntN(4) {
		if depth > 0 {
			x.Kids = append(x.Kids, anyExp(r, depth-1))
		}
	}
	return x
}

func anyProg(r *rand.Rand) api.TermProg {
	p := api.TermProg{}
	for range r.IntN(6) {
		p.Srcs = append(p.Srcs, pick(r, anyNames))
	}
	for range r.IntN(8) {
		p.Defs = append(p.Defs, let(pick(r, anyNames), anyExp(r, r.IntN(4))))
	}
	return p
}

// callAll returns what all functions return, and whether each one that has an error has zero values beside it.
func callAll(p, q api.TermProg, def int, defs []int) (results []any, clean bool) {
	clean = true
	add := func(e api.Errno, l ...any) {
		for _, x := range l {
			v := reflect.ValueOf(x)
			clean = clean && (e == api.OK || v.IsZero() || v.Kind() == reflect.Slice && v.Len() == 0)
		}
		results = append(append(results, e), l...)
	}
	add(term.Check(p))
	n, e := term.Nodes(p)
	add(e, n)
	n, e = term.Depth(p, def)
	add(e, n)
	parts, e := term.Parts(p, def)
	add(e, parts)
	srcs, reached, e := term.Reach(p, def)
	add(e, srcs, reached)
	rings, e := term.Rings(p)
	add(e, rings)
	inlined, e := term.Inline(p, def)
	add(e, inlined)
	kept, e := term.Keep(p, defs)
	add(e, kept)
	canon, e := term.Canon(p)
	add(e, canon)
	is, e := term.Alike(p, q)
	add(e, is)
	return results, clean
}

// P2.1 to P2.5, P0.16: any arguments stay as they are, no memory is shared, and a second call says the same.
func TestAnyArguments(t *testing.T) {
	r := rand.New(rand.NewPCG(27, 27))
	for i := range 6000 {
		p, q := anyProg(r), anyProg(r)
		if i%2 == 0 {
			p, q = randomProg(r), randomProg(r)
		}
		def := r.IntN(8) - 1
		var defs []int
		for range r.IntN(4) {
			defs = append(defs, r.IntN(7)-r.IntN(2))
		}
		p0, q0, defs0 := full(p), full(q), slices.Clone(defs)
		first, clean := callAll(p, q, def, defs)
		second, _ := callAll(p, q, def, defs)
		if !clean || !reflect.DeepEqual(first, second) {
			t.Error(p, q, def, defs, first, second)
		}
		if !equal(p, p0) || !equal(q, q0) || !slices.Equal(defs, defs0) {
			t.Error("changed", p, q, defs)
		}
		if shares([]any{p, q, defs}, first) {
			t.Error("shared", p, q, defs)
		}
		if (first[0] == api.OK) != isFormed(p) {
			t.Error(p, first[0])
		}
	}
}

// P0.16: lists that have themselves in them.
func TestEndless(t *testing.T) {
	for _, p := range badProgs() {
		for _, def := range badNumbers(1) {
			if l, clean := callAll(p, p, def, []int{def, 0}); !clean || l[0] != api.ErrArg {
				t.Error(l)
			}
		}
	}
}
