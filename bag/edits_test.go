package bag_test

import (
	"math"
	"math/rand/v2"
	"slices"
	"testing"

	"afterword/api"
	"afterword/bag"
)

func say(r api.Rec, n int) api.BagEdit { return api.BagEdit{Do: api.BagSay, New: r, N: n} }

func gone(r api.Rec, n int) api.BagEdit { return api.BagEdit{Do: api.BagGone, Old: r, N: n} }

func turn(x, y api.Rec, n int) api.BagEdit { return api.BagEdit{Do: api.BagTurn, Old: x, New: y, N: n} }

// difference is what has to be added to the one bag, however much that is.
func difference(from, to api.Bag) api.Bag { return gathered(slices.Concat(to, negated(from))) }

// oneByOne are the edits by the definition: records stand side by side as often as they are missing, or there.
func oneByOne(from, to api.Bag) []api.BagEdit {
	missing, there := map[int][]api.Rec{}, map[int][]api.Rec{}
	var keys []int
	for _, x := range difference(from, to) {
		keys = append(keys, x.Rec.Key)
		for range x.N {
			there[x.Rec.Key] = append(there[x.Rec.Key], x.Rec)
		}
		for range -x.N {
			missing[x.Rec.Key] = append(missing[x.Rec.Key], x.Rec)
		}
	}
	slices.Sort(keys)
	var out []api.BagEdit
	for _, key := range slices.Compact(keys) {
		m, l := missing[key], there[key]
		for i := range max(len(m), len(l)) {
			switch {
			case i >= len(m):
				out = append(out, say(l[i], 1))
			case i >= len(l):
				out = append(out, gone(m[i], 1))
			default:
				out = append(out, turn(m[i], l[i], 1))
			}
		}
	}
	return merged(out)
}

func merged(l []api.BagEdit) []api.BagEdit {
	var out []api.BagEdit
	for _, x := range l {
		if n := len(out) - 1; n >= 0 && out[n].Do == x.Do && out[n].Old == x.Old && out[n].New == x.New {
			out[n].N += x.N
		} else {
			out = append(out, x)
		}
	}
	return out
}

func length(l []api.BagEdit) int {
	n := 0
	for _, x := range l {
		n += x.N
	}
	return n
}

// done are the items of a bag and of what edits add.
func done(b api.Bag, l []api.BagEdit) []api.BagItem {
	out := slices.Clone([]api.BagItem(b))
	for _, x := range l {
		if x.Do == api.BagSay || x.Do == api.BagTurn {
			out = append(out, api.BagItem{Rec: x.New, N: x.N})
		}
		if x.Do == api.BagGone || x.Do == api.BagTurn {
			out = append(out, api.BagItem{Rec: x.Old, N: -x.N})
		}
	}
	return out
}

// P4.5
func TestEdits(t *testing.T) {
	for _, x := range []struct {
		from, to string
		want     []api.BagEdit
	}{
		{exampleB, exampleC, []api.BagEdit{gone(rec(4, 0, 0), 1), turn(rec(1, 2, 3), rec(1, 2, 5), 2), say(rec(2, 2, 7), 3)}},
		{exampleB, exampleB, nil},
		{"", "", nil},
		{"", "0 0 0 1", []api.BagEdit{say(rec(0, 0, 0), 1)}},
		{"0 0 0 1", "", []api.BagEdit{gone(rec(0, 0, 0), 1)}},
		{"", "0 0 0 -4", []api.BagEdit{gone(rec(0, 0, 0), 4)}},
		{"0 0 0 5", "1 0 0 5", []api.BagEdit{turn(rec(0, 0, 0), rec(1, 0, 0), 5)}},
		{"0 0 0 5", "1 1 0 5", []api.BagEdit{gone(rec(0, 0, 0), 5), say(rec(1, 1, 0), 5)}},
		{"1 1 0 5", "0 0 0 5", []api.BagEdit{say(rec(0, 0, 0), 5), gone(rec(1, 1, 0), 5)}},
		{"0 9 0 1; 5 -9 0 1", "1 9 0 1; 4 -9 0 1", []api.BagEdit{turn(rec(5, -9, 0), rec(4, -9, 0), 1), turn(rec(0, 9, 0), rec(1, 9, 0), 1)}},
		{"0 1 0 2; 1 1 0 2; 2 1 0 2", "3 1 0 3; 4 1 0 2", []api.BagEdit{
			turn(rec(0, 1, 0), rec(3, 1, 0), 2), turn(rec(1, 1, 0), rec(3, 1, 0), 1), turn(rec(1, 1, 0), rec(4, 1, 0), 1), turn(rec(2, 1, 0), rec(4, 1, 0), 1), gone(rec(2, 1, 0), 1),
		}},
		{"0 1 2 1", "0 1 1 1; 0 1 3 1; 1 1 0 2", []api.BagEdit{turn(rec(0, 1, 2), rec(0, 1, 1), 1), say(rec(0, 1, 3), 1), say(rec(1, 1, 0), 2)}},
		{"", "0 0 0 1000000", []api.BagEdit{say(rec(0, 0, 0), 1000000)}},
		{"0 0 0 -500000; 1 0 0 1", "0 0 0 500001; 1 0 0 -1", []api.BagEdit{turn(rec(1, 0, 0), rec(0, 0, 0), 2), say(rec(0, 0, 0), 999999)}},
		{"0 0 0 -1000000; 1 0 0 1000000", "0 0 0 1000000", []api.BagEdit{turn(rec(1, 0, 0), rec(0, 0, 0), 1000000), say(rec(0, 0, 0), 1000000)}},
		{"0 0 0 1000000", "0 0 0 -1000000; 1 0 0 1000000", []api.BagEdit{turn(rec(0, 0, 0), rec(1, 0, 0), 1000000), gone(rec(0, 0, 0), 1000000)}},
	} {
		got, e := bag.Edits(of(x.from), of(x.to))
		mustBe(t, e == api.OK && equal(got, x.want), x, got, e)
	}
	for _, x := range [][2]string{
		{"0 0 0 -1", "0 0 0 1000000"}, {"0 0 0 1000000", "0 0 0 -1"}, {"0 0 0 -1000000", "0 0 0 1000000; 1 1 1 1"},
		{"0 0 0 -1000000; 1 0 0 1000000", "0 0 0 1000000; 1 0 0 -1000000"}, {"0 0 0 -1000000; 1 0 0 999999", "0 0 0 1000000"}, {"0 0 0 -1000000; 1 1 0 1000000", "0 0 0 1000000"},
	} {
		got, e := bag.Edits(of(x[0]), of(x[1]))
		mustBe(t, e == api.ErrLong && len(got) == 0, x, got, e)
	}
}

// P4.5: by the definition, and back to the other bag.
func TestEditsOfAny(t *testing.T) {
	r := rand.New(rand.NewPCG(49, 4))
	for range 4000 {
		a, b := small.bag(r, 20), small.bag(r, 20)
		got, e := bag.Edits(a, b)
		mustBe(t, e == api.OK && equal(got, oneByOne(a, b)), a, b, got, e)
	}
	twoBags(50, 2000, func(_ *rand.Rand, a, b api.Bag) {
		l, e := bag.Edits(a, b)
		if e != api.OK {
			most := slices.MaxFunc(difference(a, b), func(x, y api.BagItem) int { return max(x.N, -x.N) - max(y.N, -y.N) })
			mustBe(t, e == api.ErrLong && len(l) == 0 && max(most.N, -most.N) > 1000000, a, b, e)
			return
		}
		got, e := bag.Do(a, l)
		mustBe(t, e == api.OK && equal(got, b), a, b, l, got, e)
		mustBe(t, equal(l, merged(l)), a, b, l)
	})
	most := wide(300, 1)
	for i := range most {
		most[i].Rec.At += 100
	}
	for _, x := range [][2]api.Bag{{wide(300, 7), most}, {wide(300, 1000000), negated(most)}, {nil, most}, {most, wide(150, -3)}} {
		l, e := bag.Edits(x[0], x[1])
		got, f := bag.Do(x[0], l)
		mustBe(t, e == api.OK && f == api.OK && equal(got, x[1]), x, e, f)
	}
}

// P4.5: no edits that lead from one bag to another one are shorter: all are tried, shorter ones first.
func TestShortest(t *testing.T) {
	records := []api.Rec{rec(0, 1, 0), rec(1, 1, 0), rec(1, 1, 5), rec(0, 2, 0)}
	const bound = 4
	type state [4]int
	var moves []state
	for i, x := range records {
		var one state
		one[i] = 1
		moves = append(moves, one)
		one[i] = -1
		moves = append(moves, one)
		for j, y := range records {
			if i != j && x.Key == y.Key {
				var two state
				two[i], two[j] = -1, 1
				moves = append(moves, two)
			}
		}
	}
	far := map[state]int{{}: 0}
	for queue := []state{{}}; len(queue) > 0; queue = queue[1:] {
		for _, m := range moves {
			next := queue[0]
			ok := true
			for i := range next {
				next[i] += m[i]
				ok = ok && max(next[i], -next[i]) <= bound
			}
			if _, seen := far[next]; ok && !seen {
				far[next] = far[queue[0]] + 1
				queue = append(queue, next)
			}
		}
	}
	r := rand.New(rand.NewPCG(51, 4))
	for s, n := range far {
		var from, to []api.BagItem
		for i, x := range records {
			k := r.IntN(7) - 3
			from = append(from, api.BagItem{Rec: x, N: k})
			to = append(to, api.BagItem{Rec: x, N: k + s[i]})
		}
		l, e := bag.Edits(gathered(from), gathered(to))
		mustBe(t, e == api.OK && length(l) == n, from, to, l, n)
	}
	mustBe(t, len(far) == 9*9*9*9, len(far))
}

// P4.5
func TestDo(t *testing.T) {
	x, y := rec(1, 2, 3), rec(1, 2, 5)
	for _, c := range []struct {
		b    string
		l    []api.BagEdit
		want string
	}{
		{exampleB, nil, exampleB},
		{"", []api.BagEdit{say(x, 2)}, "1 2 3 2"},
		{"", []api.BagEdit{gone(x, 2)}, "1 2 3 -2"},
		{"", []api.BagEdit{turn(x, y, 2)}, "1 2 3 -2; 1 2 5 2"},
		{"", []api.BagEdit{say(rec(0, 0, 0), 1)}, "0 0 0 1"},
		{"", []api.BagEdit{gone(rec(0, 0, 0), 1)}, "0 0 0 -1"},
		{"", []api.BagEdit{turn(rec(0, 0, 0), rec(200, 0, -1000000000), 1000000)}, "0 0 0 -1000000; 200 0 -1000000000 1000000"},
		{"1 2 3 1", []api.BagEdit{gone(x, 1)}, ""},
		{"1 2 3 1", []api.BagEdit{turn(x, y, 3), turn(y, x, 3)}, "1 2 3 1"},
		{"1 2 3 1000000", []api.BagEdit{say(x, 1000000), gone(x, 1000000)}, "1 2 3 1000000"},
		{"1 2 3 -1000000", []api.BagEdit{gone(x, 7), say(y, 1), say(x, 7)}, "1 2 3 -1000000; 1 2 5 1"},
		{exampleB, []api.BagEdit{gone(rec(4, 0, 0), 1), turn(x, y, 2), say(rec(2, 2, 7), 3)}, exampleC},
	} {
		got, e := bag.Do(of(c.b), c.l)
		mustBe(t, e == api.OK && equal(got, of(c.want)), c, got, e)
	}
	for _, c := range []struct {
		b api.Bag
		l []api.BagEdit
	}{
		{of("1 2 3 1000000"), []api.BagEdit{say(x, 1)}},
		{of("1 2 3 -1000000"), []api.BagEdit{gone(x, 1)}},
		{of("1 2 3 1000000"), []api.BagEdit{turn(y, x, 1)}},
		{of("1 2 3 1"), []api.BagEdit{say(x, 1000000)}},
		{wide(300, 1), []api.BagEdit{say(rec(200, 0, 0), 1)}},
		{wide(300, 1), []api.BagEdit{turn(rec(200, 0, 1), rec(200, 0, 0), 1), say(rec(200, 0, 1), 1)}},
	} {
		got, e := bag.Do(c.b, c.l)
		mustBe(t, e == api.ErrLong && len(got) == 0, c, got, e)
	}
	got, e := bag.Do(wide(300, 1), []api.BagEdit{say(rec(200, 0, 0), 1), gone(rec(0, 0, 0), 1)})
	check(t, got, e, append(wide(300, 1)[1:], item(200, 0, 0, 1)))
	for _, count := range []int{599, 600, 601, 1200} {
		got, e := bag.Do(nil, slices.Repeat([]api.BagEdit{say(x, 2)}, count))
		mustBe(t, (e == api.OK) == (count <= 600) && (e == api.OK || e == api.ErrArg && len(got) == 0), count, got, e)
		mustBe(t, e != api.OK || equal(got, api.Bag{{Rec: x, N: 2 * count}}), count, got)
	}
}

// badEdits are not as defined.
func badEdits() []api.BagEdit {
	x, y, zero := rec(1, 2, 3), rec(1, 2, 5), api.Rec{}
	out := []api.BagEdit{
		{}, {N: 1}, {Do: api.BagSay, Old: x, New: y, N: 1}, {Do: api.BagGone, Old: x, New: y, N: 1}, {Do: api.BagSay, Old: x, N: 1}, {Do: api.BagGone, New: x, N: 1},
		{Do: api.BagSay, Old: x, New: x, N: 1}, {Do: api.BagGone, Old: x, New: x, N: 1},
		turn(x, x, 1), turn(zero, zero, 1), turn(x, rec(1, 3, 3), 1), turn(x, zero, 1), turn(zero, x, 1),
	}
	for _, do := range []api.BagDo{-1, 0, 4, math.MaxInt, math.MinInt} {
		out = append(out, api.BagEdit{Do: do, Old: x, New: y, N: 1}, api.BagEdit{Do: do, New: y, N: 1}, api.BagEdit{Do: do, Old: y, N: 1})
	}
	for _, n := range []int{0, -1, 1000001, math.MinInt, math.MaxInt} {
		out = append(out, say(x, n), gone(x, n), turn(x, y, n))
	}
	for _, z := range badRecords() {
		good := rec(5, z.Key, 5)
		out = append(out, say(z, 1), gone(z, 1), turn(z, good, 1), turn(good, z, 1))
	}
	return out
}

// P4.5
func TestBadEdits(t *testing.T) {
	good := say(rec(1, 2, 3), 1)
	for _, x := range badEdits() {
		for _, l := range [][]api.BagEdit{{x}, {good, x}, {x, good}, append(slices.Repeat([]api.BagEdit{say(rec(1, 2, 3), 1000000)}, 2), x)} {
			got, e := bag.Do(of("1 2 5 2"), l)
			mustBe(t, e == api.ErrArg && len(got) == 0, l, got, e)
		}
	}
}

// P4.5: by the definition; what edits come first does not matter.
func TestDoOfAny(t *testing.T) {
	twoBags(52, 2000, func(r *rand.Rand, a, _ api.Bag) {
		var l []api.BagEdit
		p := pick(r, []pool{small, great})
		for range r.IntN(12) {
			x, y, n := p.rec(r), p.rec(r), pick(r, []int{1, 2, 3, 500000, 1000000})
			y.Key = x.Key
			l = append(l, pick(r, []api.BagEdit{say(x, n), gone(x, n)}))
			if x != y {
				l = append(l, turn(x, y, n))
			}
		}
		got, e := bag.Do(a, l)
		check(t, got, e, gathered(done(a, l)), a, l)
		slices.Reverse(l)
		again, f := bag.Do(a, l)
		mustBe(t, e == f && equal(got, again), a, l)
	})
}
