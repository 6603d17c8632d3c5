package lag_test

import (
	"math"
	"math/rand/v2"
	"reflect"
	"slices"
	"testing"

	"afterword/api"
	"afterword/lag"
	"afterword/term"
)

// arguments are those of all functions.
type arguments struct {
	p                  api.TermProg
	marks              []int
	def, node, src, at int
}

// callAll returns what all functions return, and whether each one that has an error has zero values beside it.
func callAll(x arguments) (results []any, clean bool) {
	clean = true
	add := func(e api.Errno, l ...any) {
		for _, y := range l {
			v := reflect.ValueOf(y)
			clean = clean && (e == api.OK || v.IsZero() || v.Kind() == reflect.Slice && v.Len() == 0)
		}
		results = append(append(results, e), l...)
	}
	all, e := lag.Of(x.p)
	add(e, all)
	l, e := lag.Node(x.p, x.def, x.node)
	add(e, l)
	n, e := lag.Seal(x.p, x.marks, x.def)
	add(e, n)
	need, e := lag.Need(x.p, x.def, x.at)
	add(e, need)
	first, last, e := lag.Touch(x.p, x.def, x.src, x.at)
	add(e, first, last)
	return results, clean
}

// extents are the places in memory of all lists in some values.
func extents(l ...any) [][2]uintptr {
	var out [][2]uintptr
	var walk func(v reflect.Value)
	walk = func(v reflect.Value) {
		switch v.Kind() {
		case reflect.Struct:
			for i := range v.NumField() {
				walk(v.Field(i))
			}
		case reflect.Slice:
			if v.Cap() > 0 {
				out = append(out, [2]uintptr{v.Pointer(), v.Pointer() + uintptr(v.Cap())*v.Type().Elem().Size()})
			}
			for i := range v.Len() {
				walk(v.Index(i))
			}
		}
	}
	for _, x := range l {
		walk(reflect.ValueOf(x))
	}
	return out
}

// shared reports whether results share memory with arguments, or with each other.
func shared(args []any, results []any) bool {
	own := extents(results...)
	given := extents(args...)
	for i, x := range own {
		for _, y := range slices.Concat(own[i+1:], given) {
			if x[0] < y[1] && y[0] < x[1] {
				return true
			}
		}
	}
	return false
}

var anyNumbers = []int{0, 0, 0, 1, 1, 2, 3, 4, -1, 5, 199, 200, 201, 202, 999, math.MaxInt, math.MinInt}

func anyArguments(t *testing.T, r *rand.Rand) arguments {
	x := arguments{p: anyProg(r, 6), def: r.IntN(6) - 1, node: r.IntN(8) - 1, src: r.IntN(5) - 1, at: r.IntN(203) - 1}
	x.marks = slices.Grow(anyMarks(r, len(x.p.Srcs)), 2)
	switch r.IntN(6) {
	case 0:
		x.p = pick(r, badProgs(t))
	case 1:
		x.marks = anyMarks(r, r.IntN(6))
	case 2:
		x.marks[r.IntN(len(x.marks))] = pick(r, anyNumbers)
	case 3:
		x.def, x.node, x.src, x.at = pick(r, anyNumbers), pick(r, anyNumbers), pick(r, anyNumbers), pick(r, anyNumbers)
	}
	return x
}

// P7.1 to P7.3, P0.16: any arguments stay as they are, no memory is shared, and a second call says the same.
func TestAnyArguments(t *testing.T) {
	r := rand.New(rand.NewPCG(78, 7))
	fine, refused := 0, 0
	for range 5000 {
		x := anyArguments(t, r)
		formed := term.Check(x.p) == api.OK
		whole := func() (p api.TermProg) {
			if formed {
				p, _ = term.Keep(x.p, numbers(len(x.p.Defs)))
			}
			return p
		}
		marks, text := slices.Clone(x.marks[:cap(x.marks)]), whole()
		first, clean := callAll(x)
		second, _ := callAll(x)
		mustBe(t, clean && reflect.DeepEqual(first, second), first, second)
		mustBe(t, slices.Equal(marks, x.marks[:cap(x.marks)]) && reflect.DeepEqual(text, whole()), "changed", x)
		if formed {
			mustBe(t, !shared([]any{x.p, x.marks}, slices.Concat(first, second)), "shared", x)
		}
		if first[4] == api.OK {
			fine++
		} else {
			mustBe(t, first[4] == api.ErrArg, first)
			refused++
		}
	}
	mustBe(t, fine > 1000 && refused > 1000, fine, refused)
}

// refused holds that all functions for which an argument is none return ErrArg, and nothing else.
func refused(t *testing.T, x arguments, calls ...string) {
	t.Helper()
	results, clean := callAll(x)
	for name, i := range map[string]int{"Of": 0, "Node": 2, "Seal": 4, "Need": 6, "Touch": 8} {
		want := api.OK
		if slices.Contains(calls, name) {
			want = api.ErrArg
		}
		mustBe(t, clean && results[i] == want, name, x, results)
	}
}

// P7.1 to P7.3: programs that are not formed, and definitions, nodes, sources, times and marks that there are not.
func TestRefused(t *testing.T) {
	good := arguments{p: example(t), marks: []int{20, 15}, def: 2, node: 2, src: 1, at: 11}
	refused(t, good)
	for _, p := range badProgs(t) {
		x := good
		x.p, x.def, x.node, x.src, x.marks = p, 0, 0, 0, make([]int, len(p.Srcs))
		refused(t, x, "Of", "Node", "Seal", "Need", "Touch")
	}
	for _, n := range beyond(2) {
		x := good
		x.def = n
		refused(t, x, "Node", "Seal", "Need", "Touch")
		x = good
		x.node = n
		refused(t, x, "Node")
	}
	for _, n := range beyond(1) {
		x := good
		x.src = n
		refused(t, x, "Touch")
	}
	for _, n := range beyond(200) {
		x := good
		x.at = n
		refused(t, x, "Need", "Touch")
	}
	for _, marks := range [][]int{nil, {}, {0}, {20, 15, 0}, {20, 15, 11, 9}} {
		x := good
		x.marks = marks
		refused(t, x, "Seal")
	}
	for _, n := range beyond(201) {
		for i := range good.marks {
			x := good
			x.marks = slices.Clone(good.marks)
			x.marks[i] = n
			refused(t, x, "Seal")
		}
	}
	for def, nodes := range []int{2, 4, 3} {
		x := good
		x.def, x.node, x.src = def, nodes-1, 0
		refused(t, x)
		x.node = nodes
		refused(t, x, "Node")
	}
	refused(t, arguments{p: prog(t, "source x"), marks: []int{0}}, "Node", "Seal", "Need", "Touch")
}

// P7.3: what is not there comes ahead of what touches nothing.
func TestErrorsOrder(t *testing.T) {
	p := prog(t, "source x, y let a = x shift 5")
	for _, c := range []struct {
		def, src, at int
		want         api.Errno
	}{{0, 0, 196, api.ErrNone}, {0, 1, 10, api.ErrNone}, {1, 1, 10, api.ErrArg}, {0, 2, 196, api.ErrArg}, {0, 1, 201, api.ErrArg}, {0, 0, 201, api.ErrArg}, {-1, 0, 196, api.ErrArg}, {0, 1, -1, api.ErrArg}} {
		first, last, e := lag.Touch(p, c.def, c.src, c.at)
		mustBe(t, first == 0 && last == 0 && e == c.want, c, first, last, e)
	}
}

// R3: empty lists are as good as none.
func TestEmpty(t *testing.T) {
	p := prog(t, "source x let a = x where val")
	p.Defs[0].Exp.Kids[0].Kids, p.Defs[0].Exp.Kids[0].Calcs = []api.TermExp{}, []api.Calc{}
	refused(t, arguments{p: p, marks: []int{0}})
	all, e := lag.Of(api.TermProg{Srcs: []string{"x"}, Defs: []api.TermDef{}})
	mustBe(t, len(all) == 0 && e == api.OK, all, e)
}
