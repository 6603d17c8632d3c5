package mean_test

import (
	"math"
	"math/rand/v2"
	"reflect"
	"slices"
	"testing"

	"afterword/api"
	"afterword/mean"
	"afterword/term"
)

// arguments are those of all functions.
type arguments struct {
	c         api.Calc
	r         api.Rec
	other     int
	f         api.TermFold
	b         api.Bag
	p         api.TermProg
	l         []api.Event
	def, node int
}

// callAll returns what all functions return, and whether each one that has an error has zero values beside it.
func callAll(x arguments) (results []any, clean bool) {
	clean = true
	add := func(e api.Errno, y any) {
		v := reflect.ValueOf(y)
		clean = clean && (e == api.OK || v.IsZero() || v.Kind() == reflect.Slice && v.Len() == 0)
		results = append(results, e, y)
	}
	n, e := mean.Calc(x.c, x.r, x.other)
	add(e, n)
	n, e = mean.Fold(x.f, x.b)
	add(e, n)
	answers, e := mean.Of(x.p, x.l)
	add(e, answers)
	b, e := mean.Node(x.p, x.l, x.def, x.node)
	add(e, b)
	b, e = mean.Says(x.p, x.l, x.def)
	add(e, b)
	order, e := mean.Order(x.p)
	add(e, order)
	return results, clean
}

// extents are the places in memory of all lists in some values.
func extents(l ...any) [][2]uintptr {
	var out [][2]uintptr
	var walk func(v reflect.Value)
	walk = func(v reflect.Value) {
		switch v.Kind() {
		case reflect.Struct:
			for i := range v.NumField() {
				walk(v.Field(i))
			}
		case reflect.Slice:
			if v.Cap() > 0 {
				out = append(out, [2]uintptr{v.Pointer(), v.Pointer() + uintptr(v.Cap())*v.Type().Elem().Size()})
			}
			for i := range v.Len() {
				walk(v.Index(i))
			}
		}
	}
	for _, x := range l {
		walk(reflect.ValueOf(x))
	}
	return out
}

// shared reports whether results share memory with arguments, or with each other.
func shared(args []any, results []any) bool {
	own := extents(results...)
	given := extents(args...)
	for i, x := range own {
		for _, y := range slices.Concat(own[i+1:], given) {
			if x[0] < y[1] && y[0] < x[1] {
				return true
			}
		}
	}
	return false
}

var anyNumbers = []int{0, 0, 0, 1, 1, 2, 3, 4, -1, 200, 201, 999, 1000, 1000000000, 1000000001, -1000000000, -1000000001, math.MaxInt, math.MinInt}

func anyArguments(t *testing.T, r *rand.Rand) arguments {
	x := arguments{
		c: anyTerm(r, 4, true), r: rec(pick(r, anyNumbers), pick(r, anyNumbers), pick(r, anyNumbers)), other: pick(r, anyNumbers),
		f: api.TermFold(r.IntN(7) - 1), p: anyProg(r, nil), def: r.IntN(6) - 1, node: r.IntN(8) - 1,
	}
	x.l = anyEvents(r, len(x.p.Srcs), 15)
	switch r.IntN(6) {
	case 0:
		x.c = pick(r, badTerms())
		x.p = pick(r, badProgs(t))
	case 1:
		x.l = pick(r, badEvents())
	case 2:
		x.def, x.node = pick(r, anyNumbers), pick(r, anyNumbers)
	case 3:
		x.l = append(x.l, event(pick(r, anyNumbers), pick(r, anyNumbers), pick(r, anyNumbers), pick(r, anyNumbers), pick(r, anyNumbers)))
	}
	for at := range r.IntN(4) {
		x.b = append(x.b, api.BagItem{Rec: rec(at, pick(r, anyNumbers), pick(r, anyNumbers)), N: pick(r, anyNumbers)})
	}
	x.b, x.l = slices.Grow(x.b, 2), slices.Grow(x.l, 2)
	return x
}

func (x arguments) lists() []any { return []any{x.c.Kids, x.b, x.p.Srcs, x.p.Defs, x.l} }

// P6.1 to P6.3, P0.16: any arguments stay as they are, no memory is shared, and a second call says the same.
func TestAnyArguments(t *testing.T) {
	r := rand.New(rand.NewPCG(71, 6))
	fine, refused := 0, 0
	for range 3000 {
		x := anyArguments(t, r)
		formed := term.Check(x.p) == api.OK
		var text api.TermProg
		if formed {
			text, _ = term.Keep(x.p, []int{0, 1, 2, 3}[:len(x.p.Defs)])
		}
		b, l := slices.Clone(x.b[:cap(x.b)]), slices.Clone(x.l[:cap(x.l)])
		first, clean := callAll(x)
		second, _ := callAll(x)
		mustBe(t, clean && reflect.DeepEqual(first, second), first, second)
		mustBe(t, slices.Equal(b, x.b[:cap(x.b)]) && slices.Equal(l, x.l[:cap(x.l)]), "changed", x.b, x.l)
		if formed {
			after, _ := term.Keep(x.p, []int{0, 1, 2, 3}[:len(x.p.Defs)])
			mustBe(t, reflect.DeepEqual(text, after), "changed", text, after)
			mustBe(t, !shared(x.lists(), slices.Concat(first, second)), "shared", x.p, x.l)
		}
		if first[4] == api.OK {
			fine++
		}
		if first[4] == api.ErrArg {
			refused++
		}
	}
	mustBe(t, fine > 1000 && refused > 500, fine, refused)
}

// P6.2, P6.3: programs and events that are not formed, and numbers of what there is not.
func TestRefused(t *testing.T) {
	good, l := example(t)
	refuse := func(p api.TermProg, l []api.Event, def, node, src int) {
		t.Helper()
		if src == 0 && def == 0 && node == 0 {
			got, e := mean.Of(p, l)
			mustBe(t, len(got) == 0 && e == api.ErrArg, p, l, got, e)
		}
		if src == 0 {
			b, e := mean.Node(p, l, def, node)
			mustBe(t, len(b) == 0 && e == api.ErrArg, p, l, def, node, b, e)
		}
		if def == 0 && node == 0 {
			b, e := mean.Says(p, l, src)
			mustBe(t, len(b) == 0 && e == api.ErrArg, p, l, src, b, e)
		}
	}
	for _, p := range badProgs(t) {
		refuse(p, nil, 0, 0, 0)
		refuse(p, l, 0, 0, 0)
	}
	for _, m := range badEvents() {
		refuse(good, m, 0, 0, 0)
	}
	for _, n := range []int{-1, 3, math.MaxInt, math.MinInt} {
		refuse(good, l, n, 0, 0)
		refuse(good, l, 0, n, 0)
		refuse(good, l, 0, 0, n)
	}
	for def, nodes := range []int{2, 4, 3} {
		_, e := mean.Node(good, l, def, nodes-1)
		mustBe(t, e == api.OK, def, e)
		refuse(good, l, def, nodes, 0)
	}
	b, e := mean.Node(prog(t, "source x"), nil, 0, 0)
	mustBe(t, len(b) == 0 && e == api.ErrArg, b, e)
	_, e = mean.Of(prog(t, "source x, y let a = x and y"), wide(60))
	mustBe(t, e == api.OK, e)
}

// P6.3: what is not there comes first, however much there is too much.
func TestErrorsOrder(t *testing.T) {
	p := prog(t, "source x let a = x and prev 1 a and prev 1 a")
	l := []api.Event{event(0, 0, 0, 0, 0)}
	for _, x := range []struct {
		def, node int
		want      api.Errno
	}{{0, 0, api.ErrLong}, {0, 4, api.ErrLong}, {0, 5, api.ErrArg}, {1, 0, api.ErrArg}, {-1, 0, api.ErrArg}, {0, -1, api.ErrArg}} {
		b, e := mean.Node(p, l, x.def, x.node)
		mustBe(t, len(b) == 0 && e == x.want, x, b, e)
	}
	b, e := mean.Node(p, append(l, l[0]), 0, 0)
	mustBe(t, len(b) == 0 && e == api.ErrArg, b, e)
}

// R3: empty lists are as good as none.
func TestEmpty(t *testing.T) {
	p := api.TermProg{Srcs: []string{"x"}, Defs: []api.TermDef{}}
	q := prog(t, "source x let a = x where val")
	q.Defs[0].Exp.Kids[0].Kids, q.Defs[0].Exp.Kids[0].Calcs = []api.TermExp{}, []api.Calc{}
	for _, x := range []arguments{{p: p, b: api.Bag{}, l: []api.Event{}, c: api.Calc{Op: api.CalcAt, Kids: []api.Calc{}}, f: 1}, {p: q, l: []api.Event{}, c: num(1), f: 1}} {
		results, clean := callAll(x)
		mustBe(t, clean && results[0] == api.OK && results[2] == api.ErrNone && results[4] == api.OK && results[8] == api.OK && results[10] == api.OK, results)
	}
}
