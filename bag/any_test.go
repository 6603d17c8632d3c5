package bag_test

import (
	"math"
	"math/rand/v2"
	"reflect"
	"slices"
	"testing"

	"afterword/api"
	"afterword/bag"
)

// arguments are those of all functions.
type arguments struct {
	a, b  api.Bag
	items []api.BagItem
	times []int
	n     int
	edits []api.BagEdit
	text  string
	bytes []byte
}

func (x arguments) copy() arguments {
	x.a, x.b, x.items, x.times, x.edits, x.bytes = slices.Clone(x.a), slices.Clone(x.b), slices.Clone(x.items), slices.Clone(x.times), slices.Clone(x.edits), slices.Clone(x.bytes)
	return x
}

// lists are the arguments that have memory.
func (x arguments) lists() []any { return []any{x.a, x.b, x.items, x.times, x.edits, x.bytes} }

// callAll returns what all functions return, and whether each one that has an error has zero values beside it.
func callAll(x arguments) (results []any, clean bool) {
	clean = true
	add := func(e api.Errno, l ...any) {
		for _, y := range l {
			v := reflect.ValueOf(y)
			clean = clean && (e == api.OK || v.IsZero() || v.Kind() == reflect.Slice && v.Len() == 0)
		}
		results = append(append(results, e), l...)
	}
	add(bag.Check(x.a))
	b, e := bag.New(x.items)
	add(e, b)
	b, e = bag.Add(x.a, x.b)
	add(e, b)
	b, e = bag.Neg(x.a)
	add(e, b)
	b, c, e := bag.Split(x.a)
	add(e, b, c)
	parts, e := bag.Parts(x.a, x.times)
	add(e, parts)
	b, e = bag.Shift(x.a, x.n)
	add(e, b)
	b, e = bag.Pair(x.a, x.b, x.n)
	add(e, b)
	edits, e := bag.Edits(x.a, x.b)
	add(e, edits)
	b, e = bag.Do(x.a, x.edits)
	add(e, b)
	text, e := bag.Print(x.a)
	add(e, text)
	b, e = bag.Parse(x.text)
	add(e, b)
	l, e := bag.Bytes(x.a)
	add(e, l)
	b, e = bag.Read(x.bytes)
	add(e, b)
	return results, clean
}

// extents are the places in memory of all lists in some values.
func extents(l ...any) [][2]uintptr {
	var out [][2]uintptr
	var walk func(v reflect.Value)
	walk = func(v reflect.Value) {
		if v.Kind() != reflect.Slice {
			return
		}
		if v.Cap() > 0 {
			out = append(out, [2]uintptr{v.Pointer(), v.Pointer() + uintptr(v.Cap())*v.Type().Elem().Size()})
		}
		for i := range v.Len() {
			walk(v.Index(i))
		}
	}
	for _, x := range l {
		walk(reflect.ValueOf(x))
	}
	return out
}

// shared reports whether two lists in some values share memory.
func shared(l ...any) bool {
	places := extents(l...)
	for i, x := range places {
		for _, y := range places[i+1:] {
			if x[0] < y[1] && y[0] < x[1] {
				return true
			}
		}
	}
	return false
}

var anyNumbers = []int{0, 0, 1, 1, 2, 3, 4, -1, -2, 200, 201, 1000000, 1000001, 1000000000, -1000000000, 1000000001, math.MaxInt, math.MinInt}

func anyRec(r *rand.Rand) api.Rec {
	if r.IntN(3) > 0 {
		return small.rec(r)
	}
	return rec(pick(r, anyNumbers), pick(r, anyNumbers), pick(r, anyNumbers))
}

func anyBag(r *rand.Rand) api.Bag {
	b := pick(r, []pool{small, great}).bag(r, 8)
	if r.IntN(8) == 0 {
		b = wide(295+r.IntN(10), 1+r.IntN(3))
	}
	if len(b) > 0 && r.IntN(4) == 0 {
		b[r.IntN(len(b))] = api.BagItem{Rec: anyRec(r), N: pick(r, anyNumbers)}
	}
	return b
}

func anyArguments(r *rand.Rand) arguments {
	x := arguments{a: anyBag(r), b: anyBag(r), n: pick(r, anyNumbers)}
	for range r.IntN(6) {
		x.items = append(x.items, api.BagItem{Rec: anyRec(r), N: pick(r, anyNumbers[:12])})
		x.edits = append(x.edits, api.BagEdit{Do: api.BagDo(r.IntN(6) - 1), Old: pick(r, []api.Rec{{}, anyRec(r)}), New: pick(r, []api.Rec{{}, anyRec(r)}), N: pick(r, anyNumbers)})
		x.times = append(x.times, pick(r, anyNumbers))
		x.bytes = append(x.bytes, byte(r.IntN(256)))
	}
	if r.IntN(2) == 0 {
		slices.Sort(x.times)
		x.times = slices.Compact(x.times)
	}
	x.text = string(x.bytes)
	if r.IntN(2) == 0 {
		x.text, x.bytes = textOf(x.b), bytesOf(of(exampleC))
	}
	return x
}

// P4.1 to P4.6, P0.16: any arguments stay as they are, no memory is shared, and a second call says the same.
func TestAnyArguments(t *testing.T) {
	r := rand.New(rand.NewPCG(56, 4))
	for range 4000 {
		x := anyArguments(r)
		before := x.copy()
		first, clean := callAll(x)
		second, _ := callAll(x)
		mustBe(t, clean && reflect.DeepEqual(first, second), x, first, second)
		mustBe(t, reflect.DeepEqual(x, before), "changed", x)
		mustBe(t, !shared(slices.Concat(x.lists(), first, second)...), "shared", x)
	}
}

// R3: empty lists are as good as none.
func TestEmpty(t *testing.T) {
	none, clean := callAll(arguments{})
	empty, also := callAll(arguments{a: api.Bag{}, b: api.Bag{}, items: []api.BagItem{}, times: []int{}, edits: []api.BagEdit{}, bytes: []byte{}})
	mustBe(t, clean && also && len(none) == len(empty))
	for i := range none {
		x, y := reflect.ValueOf(none[i]), reflect.ValueOf(empty[i])
		same := reflect.DeepEqual(none[i], empty[i]) || x.Kind() == reflect.Slice && x.Len() == 0 && y.Len() == 0
		mustBe(t, same, i, none[i], empty[i])
	}
}
