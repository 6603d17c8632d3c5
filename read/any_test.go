package read_test

import (
	"math"
	"math/rand/v2"
	"reflect"
	"strings"
	"testing"

	"afterword/api"
	"afterword/read"
)

// callAll returns what all functions return, and whether each one that has an error has zero values beside it.
func callAll(text string, p api.TermProg) (results []any, clean bool) {
	clean = true
	add := func(e api.Errno, l ...any) {
		for _, x := range l {
			v := reflect.ValueOf(x)
			clean = clean && (e == api.OK || v.IsZero() || v.Kind() == reflect.Slice && v.Len() == 0)
		}
		results = append(append(results, e), l...)
	}
	tokens, e := read.Tokens(text)
	add(e, tokens)
	fault, e := read.Fault(text)
	add(e, fault)
	next, e := read.Next(text)
	add(e, next)
	mended, faults, e := read.Mend(text)
	add(e, mended, faults)
	parsed, e := read.Parse(text)
	add(e, parsed)
	spots, e := read.Spots(text)
	add(e, spots)
	printed, e := read.Print(p)
	add(e, printed)
	return results, clean
}

// extents are the places in memory of all lists in some values.
func extents(l ...any) [][2]uintptr {
	var out [][2]uintptr
	var walk func(v reflect.Value)
	walk = func(v reflect.Value) {
		if v.Kind() == reflect.Struct {
			for i := range v.NumField() {
				walk(v.Field(i))
			}
		}
		if v.Kind() == reflect.Slice {
			if v.Cap() > 0 {
				out = append(out, [2]uintptr{v.Pointer(), v.Pointer() + uintptr(v.Cap())*v.Type().Elem().Size()})
			}
			for i := range v.Len() {
				walk(v.Index(i))
			}
		}
	}
	for _, x := range l {
		walk(reflect.ValueOf(x))
	}
	return out
}

// shared reports whether two lists in some values share memory.
func shared(l ...any) bool {
	places := extents(l...)
	for i, x := range places {
		for _, y := range places[i+1:] {
			if x[0] < y[1] && y[0] < x[1] {
				return true
			}
		}
	}
	return false
}

// anyText is made of bytes, or of tokens, or is almost a program.
func anyText(r *rand.Rand, p api.TermProg) string {
	var out strings.Builder
	switch r.IntN(4) {
	case 0:
		for range r.IntN(40) {
			out.WriteByte(byte(r.IntN(256)))
		}
	case 1:
		for range r.IntN(40) {
			out.WriteString(pick(r, candidates()) + pick(r, []string{" ", " ", "\n", ""}))
		}
	case 2:
		out.WriteString(strings.Join(spoil(r, words(loose(r).prog(p).all)), " "))
	case 3:
		out.WriteString(loose(r).prog(p).text)
	}
	return out.String()
}

// P3.1 to P3.5, P0.16: any texts and programs: they stay as they are, no memory is shared, and a second call says the same.
func TestAnyArguments(t *testing.T) {
	r := rand.New(rand.NewPCG(39, 39))
	for _, p := range randomProgs(39, 3000) {
		text := anyText(r, p)
		if r.IntN(3) == 0 && len(p.Defs) > 0 {
			x := &p.Defs[r.IntN(len(p.Defs))].Exp
			x.Op, x.N, x.Fold = api.TermOp(r.IntN(19)-2), pick(r, []int{x.N, 0, 51, math.MaxInt, math.MinInt}), api.TermFold(r.IntN(7)-1)
		}
		before := full(p)
		first, clean := callAll(text, p)
		second, _ := callAll(text, p)
		mustBe(t, clean && reflect.DeepEqual(first, second), text, p, first, second)
		mustBe(t, equal(p, before), "changed", p)
		mustBe(t, !shared(append(first, p)...), "shared", text, p)
	}
}

// P0.16: texts as long and as deep as can be, and longer ones.
func TestLongTexts(t *testing.T) {
	for _, head := range []string{"", "source a let x = ", "source a let x = a where ", "let x = "} {
		for _, s := range []string{"(", "a ", "let ", "source ", "source a ", "let x = a ", "once ", "1+", "1 * ", "a and ", "a lack (", "prev 1 ", ",", "%\n", "\n", "~", "a pair (", "(1 less "} {
			for _, n := range []int{20000, 20001} {
				text := head + strings.Repeat(s, n/len(s))
				text = text[:min(n, len(text))]
				results, clean := callAll(text, api.TermProg{})
				mustBe(t, clean && (results[0] == api.ErrLong) == (len(text) > api.ReadLong), head, s, n)
			}
		}
	}
}

// P0.16: programs with lists that have themselves in them.
func TestEndless(t *testing.T) {
	wide := []api.TermExp{src("a"), src("a")}
	wide[0], wide[1] = both(wide[0], wide[1]), both(wide[1], wide[0])
	wide[0].Kids, wide[1].Kids = wide, wide
	terms := []api.Calc{num(1), num(2)}
	terms[0], terms[1] = api.Calc{Op: api.CalcAdd, Kids: terms}, api.Calc{Op: api.CalcMul, Kids: terms}
	for _, p := range []api.TermProg{prog("a", let("x", wide[0])), prog("a", let("x", with(kids(api.TermWhere, 0, src("a")), terms[0])))} {
		s, e := read.Print(p)
		mustBe(t, s == "" && e == api.ErrArg, s, e)
	}
}
