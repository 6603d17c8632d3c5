package lag_test

import (
	"math/rand/v2"
	"slices"
	"testing"

	"afterword/api"
	"afterword/lag"
)

// P7.2: the example, and programs whose definitions ask for nothing, for little, or for all that there is.
func TestNeed(t *testing.T) {
	for _, c := range []struct {
		text    string
		def, at int
		want    []int
	}{
		{"source x, y let a = x once let b = a slide 5 by sum and prev 3 b let c = a lack y within 2", 2, 12, []int{13, 15}},
		{"source x, y let a = x", 0, 0, []int{1, 0}}, {"source x, y let a = x", 0, 7, []int{8, 0}}, {"source x, y let a = x", 0, 200, []int{201, 0}},
		{"source x let a = x shift 5", 0, 3, []int{0}}, {"source x let a = x shift 5", 0, 4, []int{0}}, {"source x let a = x shift 5", 0, 5, []int{1}}, {"source x let a = x shift 5", 0, 200, []int{196}},
		{"source x let a = x shift ~5", 0, 0, []int{6}}, {"source x let a = x shift ~5", 0, 194, []int{200}}, {"source x let a = x shift ~5", 0, 195, []int{201}}, {"source x let a = x shift ~5", 0, 196, []int{201}}, {"source x let a = x shift ~5", 0, 200, []int{201}},
		{"source x let a = x shift 50 shift 50 shift 50 shift 50", 0, 199, []int{0}}, {"source x let a = x shift 50 shift 50 shift 50 shift 50", 0, 200, []int{1}}, {"source x let a = x shift 50 shift 50 shift 50 shift 50 shift 50", 0, 200, []int{0}},
		{"source x, y, z let a = z lack x within 50 total by sum", 0, 100, []int{151, 0, 101}},
		{"source x, y, z, u let a = prev 1 a", 0, 200, []int{0, 0, 0, 0}},
		{"source x let a = x and prev 9 b let b = a total by sum", 1, 50, []int{51}},
		{"source x let a = prev 9 b let b = x let c = a", 2, 50, []int{42}},
	} {
		l, e := lag.Need(prog(t, c.text), c.def, c.at)
		mustBe(t, slices.Equal(l, c.want) && e == api.OK, c, l, e)
	}
}

// P7.2: the examples, and marks at the ends of time.
func TestSeal(t *testing.T) {
	const chapter = "source x, y let a = x once let b = a slide 5 by sum and prev 3 b let c = a lack y within 2"
	for _, c := range []struct {
		text  string
		marks []int
		def   int
		want  int
	}{
		{chapter, []int{20, 15}, 2, 13}, {chapter, []int{201, 199}, 2, 197}, {chapter, []int{201, 200}, 2, 198}, {chapter, []int{201, 201}, 2, 201}, {chapter, []int{200, 201}, 2, 200}, {chapter, []int{0, 201}, 2, 0}, {chapter, []int{201, 0}, 2, 0}, {chapter, []int{201, 2}, 2, 0}, {chapter, []int{201, 3}, 2, 1},
		{chapter, []int{20, 15}, 0, 20}, {chapter, []int{20, 0}, 0, 20}, {chapter, []int{0, 201}, 0, 0}, {chapter, []int{1, 0}, 1, 1}, {chapter, []int{201, 0}, 1, 201},
		{"source x let a = x shift 5", []int{0}, 0, 5}, {"source x let a = x shift 5", []int{1}, 0, 6}, {"source x let a = x shift 5", []int{195}, 0, 200}, {"source x let a = x shift 5", []int{196}, 0, 201}, {"source x let a = x shift 5", []int{200}, 0, 201}, {"source x let a = x shift 5", []int{201}, 0, 201},
		{"source x let a = x shift ~5", []int{0}, 0, 0}, {"source x let a = x shift ~5", []int{5}, 0, 0}, {"source x let a = x shift ~5", []int{6}, 0, 1}, {"source x let a = x shift ~5", []int{200}, 0, 195}, {"source x let a = x shift ~5", []int{201}, 0, 201},
		{"source x let a = x shift 50 shift 50 shift 50 shift 50", []int{0}, 0, 200}, {"source x let a = x shift 50 shift 50 shift 50 shift 50 shift 1", []int{0}, 0, 201},
		{"source x, y let a = prev 1 a", []int{0, 0}, 0, 201}, {"source x, y let a = y total by sum", []int{0, 77}, 0, 77},
	} {
		n, e := lag.Seal(prog(t, c.text), c.marks, c.def)
		mustBe(t, n == c.want && e == api.OK, c, n, e)
	}
}

// P7.2: random programs, by the definition: marks that are needed seal, and none of them is too much.
func TestSealsAny(t *testing.T) {
	r := rand.New(rand.NewPCG(72, 7))
	less, some := 0, 0
	for range 1500 {
		p := anyProg(r, 4)
		def := r.IntN(len(p.Defs))
		g := lags(t, p)[def]
		marks := anyMarks(r, len(p.Srcs))
		want := 0
		for want <= 200 && !slices.ContainsFunc(numbers(len(g)), func(src int) bool { return marks[src] < needed(g[src], want) }) {
			want++
		}
		n, e := lag.Seal(p, marks, def)
		mustBe(t, n == want && e == api.OK, p, marks, def, n, want, e)
		if 0 < n && n < 201 {
			some++
		}
		for _, at := range []int{0, r.IntN(201), r.IntN(201), 200} {
			need, e := lag.Need(p, def, at)
			mustBe(t, len(need) == len(g) && e == api.OK, p, def, at, need, e)
			n, e := lag.Seal(p, need, def)
			mustBe(t, n > at && e == api.OK, p, def, at, need, n, e)
			for src, mark := range need {
				mustBe(t, mark == needed(g[src], at), p, def, at, src, mark)
				if mark == 0 {
					continue
				}
				fewer := slices.Clone(need)
				fewer[src]--
				n, e := lag.Seal(p, fewer, def)
				mustBe(t, n <= at && e == api.OK, p, def, at, fewer, n, e)
				less++
			}
		}
	}
	mustBe(t, less > 3000 && some > 300, less, some)
}

func numbers(n int) []int {
	var out []int
	for i := range n {
		out = append(out, i)
	}
	return out
}

// P7.2: marks that grow unseal nothing, and marks above all times seal everything.
func TestMarksGrow(t *testing.T) {
	r := rand.New(rand.NewPCG(73, 7))
	later := 0
	for range 300 {
		p := anyProg(r, 4)
		for def := range p.Defs {
			marks := make([]int, len(p.Srcs))
			for last := -1; ; {
				n, e := lag.Seal(p, marks, def)
				mustBe(t, n >= last && e == api.OK, p, marks, def, last, n, e)
				if n > last && last >= 0 {
					later++
				}
				last = n
				src := slices.IndexFunc(marks, func(mark int) bool { return mark < 201 })
				if src < 0 {
					mustBe(t, n == 201, p, marks, def, n)
					break
				}
				for marks[src] == 201 || r.IntN(2) == 0 {
					src = r.IntN(len(marks))
				}
				marks[src] += 1 + r.IntN(201-marks[src])
			}
		}
	}
	mustBe(t, later > 500, later)
}
