package mean_test

import (
	"slices"
	"testing"

	"afterword/api"
	"afterword/mean"
)

// P6.3: the example.
func TestExample(t *testing.T) {
	p, l := example(t)
	got := answers(t, p, l)
	mustBe(t, slices.Equal(got[0], of(t, "10 1 5 1; 14 1 7 1")), got[0])
	mustBe(t, slices.Equal(upTo(got[1], 19), of(t, "10 1 5 1; 13 1 5 1; 14 1 12 1; 16 1 5 1; 17 1 12 1; 19 1 5 1")), got[1])
	mustBe(t, len(got[1]) == 64+63 && got[1][126].Rec == rec(200, 1, 12), got[1])
	mustBe(t, slices.Equal(got[2], of(t, "14 1 7 1")), got[2])
	b, e := mean.Node(p, l, 1, 1)
	mustBe(t, slices.Equal(b, of(t, "10 1 5 1; 14 1 12 1")) && e == api.OK, b, e)
}

// rowCase is an expression, what the sources x and y say, and its bag.
type rowCase struct{ exp, x, y, want string }

func checkRows(t *testing.T, l []rowCase) {
	t.Helper()
	for _, c := range l {
		p := prog(t, "source x, y let a = "+c.exp)
		events := inOrder(says(t, 0, c.x), says(t, 1, c.y))
		got, e := mean.Of(p, events)
		mustBe(t, e == api.OK && len(got) == 1 && slices.Equal(got[0], of(t, c.want)), c, got, e)
		b, e := mean.Node(p, events, 0, 0)
		mustBe(t, e == api.OK && slices.Equal(b, of(t, c.want)), c, b, e)
	}
}

// P6.3, P6.4: rows that leave times as they are, or move them.
func TestPlainRows(t *testing.T) {
	const x = "0 1 2 1; 3 1 2 2; 3 2 -1 1; 200 0 0 1"
	checkRows(t, []rowCase{
		{"x", x, "1 1 1 1", x}, {"x", "", "1 1 1 1", ""},
		{"x and y", x, "3 1 2 1; 4 0 0 3", "0 1 2 1; 3 1 2 3; 3 2 -1 1; 4 0 0 3; 200 0 0 1"}, {"x and x", x, "", "0 1 2 2; 3 1 2 4; 3 2 -1 2; 200 0 0 2"},
		{"x where val", x, "", "0 1 2 1; 3 1 2 2; 3 2 -1 1"}, {"x where 0", x, "", ""}, {"x where ~7", x, "", x}, {"x where at same 3", x, "", "3 1 2 2; 3 2 -1 1"}, {"x where val less key", x, "", "3 2 -1 1"},
		{"x each val, key", x, "", "0 2 1 1; 3 -1 2 1; 3 2 1 2; 200 0 0 1"}, {"x each 0, at", x, "", "0 0 0 1; 3 0 3 3; 200 0 200 1"}, {"x each at * 900000000, ~2 * 900000000", "1 0 0 1; 2 1 1 1", "", "1 900000000 -1000000000 1; 2 1000000000 -1000000000 1"},
		{"x each key + val, key * val", "1 1 6 1; 1 2 3 1; 1 3 2 2", "", "1 5 6 3; 1 7 6 1"},
		{"x shift 0", x, "", x}, {"x shift 1", x, "", "1 1 2 1; 4 1 2 2; 4 2 -1 1"}, {"x shift ~1", x, "", "2 1 2 2; 2 2 -1 1; 199 0 0 1"}, {"x shift ~3", x, "", "0 1 2 2; 0 2 -1 1; 197 0 0 1"}, {"x shift ~4", x, "", "196 0 0 1"},
		{"x shift 50", "150 1 1 1; 151 1 1 1", "", "200 1 1 1"}, {"x shift ~50", "49 1 1 1; 50 1 1 1", "", "0 1 1 1"}, {"x shift ~3 shift 3", x, "", "3 1 2 2; 3 2 -1 1; 200 0 0 1"}, {"x shift 1 shift ~1", x, "", "0 1 2 1; 3 1 2 2; 3 2 -1 1"},
		{"x once", x, "", "0 1 2 1; 3 1 2 1; 3 2 -1 1; 200 0 0 1"}, {"(x and x) once", "5 0 0 7", "", "5 0 0 1"},
	})
}

// P6.3, P6.4: rows that fold.
func TestFoldRows(t *testing.T) {
	const x = "0 1 2 1; 3 1 2 2; 3 2 -1 1; 4 1 9 1; 5 1 1 1; 9 1 5 1"
	checkRows(t, []rowCase{
		{"x group 5 by sum", x, "", "4 1 15 1; 4 2 -1 1; 9 1 6 1"}, {"x group 5 by count", x, "", "4 1 4 1; 4 2 1 1; 9 1 2 1"}, {"x group 5 by least", x, "", "4 1 2 1; 4 2 -1 1; 9 1 1 1"}, {"x group 5 by great", x, "", "4 1 9 1; 4 2 -1 1; 9 1 5 1"},
		{"x group 1 by count", x, "", "0 1 1 1; 3 1 2 1; 3 2 1 1; 4 1 1 1; 5 1 1 1; 9 1 1 1"}, {"x group 4 by count", x, "", "3 1 3 1; 3 2 1 1; 7 1 2 1; 11 1 1 1"}, {"x group 10 by sum", x, "", "9 1 21 1; 9 2 -1 1"},
		{"x group 50 by sum", "149 0 1 1; 150 0 2 1; 199 0 3 1; 200 0 4 1", "", "149 0 1 1; 199 0 5 1"}, {"x group 2 by sum", "199 0 1 1; 200 0 1 1", "", "199 0 1 1"}, {"x group 1 by sum", "200 0 3 2", "", "200 0 6 1"}, {"x group 3 by sum", "198 0 1 1; 200 0 1 1", "", "200 0 2 1"},
		{"x slide 0 by sum", x, "", "0 1 2 1; 3 1 4 1; 3 2 -1 1; 4 1 9 1; 5 1 1 1; 9 1 5 1"}, {"x slide 1 by sum", x, "", "0 1 2 1; 3 1 4 1; 3 2 -1 1; 4 1 13 1; 5 1 10 1; 9 1 5 1"}, {"x slide 3 by count", x, "", "0 1 1 1; 3 1 3 1; 3 2 1 1; 4 1 3 1; 5 1 4 1; 9 1 1 1"},
		{"x slide 4 by least", x, "", "0 1 2 1; 3 1 2 1; 3 2 -1 1; 4 1 2 1; 5 1 1 1; 9 1 1 1"}, {"x slide 50 by great", "0 0 9 1; 50 0 1 1; 100 0 0 1; 151 0 -1 1; 200 0 -2 1", "", "0 0 9 1; 50 0 9 1; 100 0 1 1; 151 0 -1 1; 200 0 -1 1"},
		{"x total by sum", x, "", "0 1 2 1; 3 1 6 1; 3 2 -1 1; 4 1 15 1; 5 1 16 1; 9 1 21 1"}, {"x total by count", "0 0 5 3; 200 0 5 2; 200 1 1 1", "", "0 0 3 1; 200 0 5 1; 200 1 1 1"}, {"x total by great", "1 0 5 1; 2 0 3 1; 3 0 7 1", "", "1 0 5 1; 2 0 5 1; 3 0 7 1"},
		{"x total by sum", "0 0 1000000000 1; 1 0 1 1; 2 0 -5 1; 3 1 -1000000000 3", "", "0 0 1000000000 1; 1 0 1000000000 1; 2 0 999999996 1; 3 1 -1000000000 1"},
		{"x rest 1 by sum", x, "", "1 1 2 1; 4 2 -1 1; 6 1 14 1; 10 1 5 1"}, {"x rest 2 by sum", x, "", "2 1 2 1; 5 2 -1 1; 7 1 14 1; 11 1 5 1"}, {"x rest 3 by sum", x, "", "6 2 -1 1; 8 1 16 1; 12 1 5 1"}, {"x rest 4 by count", x, "", "7 2 1 1; 13 1 6 1"},
		{"x rest 5 by count", "0 0 0 1; 5 0 0 2; 11 0 0 1", "", "10 0 3 1; 16 0 1 1"}, {"x rest 50 by least", "50 1 7 1; 100 1 3 1; 150 1 5 1", "", "200 1 3 1"}, {"x rest 50 by least", "50 1 7 1; 101 1 3 1; 151 1 5 1", "", "100 1 7 1"}, {"x rest 1 by sum", "199 0 4 1; 200 0 4 1", "", ""}, {"x rest 1 by sum", "0 0 0 1; 0 0 4 1; 0 1 0 1", "", "1 0 4 1; 1 1 0 1"},
	})
}

// P6.3, P6.4: rows with two Kids.
func TestMeetingRows(t *testing.T) {
	checkRows(t, []rowCase{
		{"x pair y within 2 as val * 10 + other", "5 1 3 1; 8 1 4 1; 8 2 4 1", "3 1 1 1; 4 1 2 1; 7 1 5 1; 10 1 6 1; 11 1 7 1", "5 1 31 1; 5 1 32 1; 7 1 35 1; 8 1 45 1; 10 1 46 1"},
		{"x pair y within 0 as other - val", "5 1 3 2; 5 2 3 1; 6 1 3 1", "5 1 0 1; 5 1 1 3; 5 2 9 1", "5 1 -3 2; 5 1 -2 6; 5 2 6 1"}, {"x pair y within 50 as at + key", "0 1 0 1; 150 1 0 1", "50 1 1 1; 99 1 1 1; 200 1 1 1", "50 1 51 1; 200 1 201 1"},
		{"x pair y within 3 as 7", "1 0 1 2; 4 0 2 1", "4 0 5 1; 4 0 6 3", "4 0 7 12"}, {"x pair x within 1 as val + other", "1 0 1 1; 2 0 2 2", "", "1 0 2 1; 2 0 3 4; 2 0 4 4"}, {"x pair y within 5 as 0", "1 0 1 1", "", ""}, {"x pair y within 5 as 0", "", "1 0 1 1", ""}, {"x pair y within 5 as 0", "1 0 0 1", "1 1 0 1", ""},
		{"x at y as other", "3 1 7 1; 4 1 9 1; 5 1 9 2; 6 2 8 1", "0 0 4 1; 4 1 2 5; 4 1 3 1; 5 1 -1 1; 7 2 0 1", "4 1 3 1; 5 1 -1 2"}, {"x at y as val * 100 + other + at", "5 1 1 1; 5 1 2 1; 200 1 3 1", "0 1 5 1; 5 2 6 1; 200 1 4 1; 200 1 7 2", "5 1 110 1; 5 1 210 1; 200 1 507 1"},
		{"x at y as 0", "5 1 1 1; 5 1 2 3; 6 1 1 1", "4 1 9 9", "5 1 0 4; 6 1 0 1"}, {"x at y as other", "5 1 1 1", "6 1 1 1", ""}, {"x at x as val - other", "5 1 1 1; 5 1 4 1; 7 1 2 1", "", "5 1 -3 1; 5 1 0 1; 7 1 0 1"},
		{"x lack y within 2", "5 1 3 2; 9 1 4 1; 9 2 4 1; 14 1 0 1", "3 1 0 1; 11 2 0 1; 12 1 7 1", "9 1 4 1"}, {"x lack y within 1", "5 1 3 2; 9 1 4 1; 9 2 4 1; 14 1 0 1", "3 1 0 1; 11 2 0 1; 12 1 7 1", "5 1 3 2; 9 1 4 1; 9 2 4 1; 14 1 0 1"}, {"x lack y within 0", "0 0 1 3; 200 0 1 1; 200 1 1 1", "0 1 0 1; 200 0 5 1", "0 0 1 3; 200 1 1 1"},
		{"x lack y within 50", "50 0 0 1; 100 0 0 1; 151 0 0 1", "0 0 9 1; 200 0 9 1", "100 0 0 1"}, {"x lack y within 50", "49 0 0 1; 51 0 0 1", "0 0 9 1", "51 0 0 1"}, {"x lack y within 3", "", "1 1 1 1", ""}, {"x lack x within 0", "1 1 1 1", "", ""},
	})
}

// P6.3, P6.4: definitions that name others, and rings.
func TestNames(t *testing.T) {
	for _, c := range []struct {
		text, x string
		want    []string
	}{
		{"source x let a = x where val let b = a shift 1 let c = a and b and prev 2 b", "0 1 2 1; 1 1 2 1; 5 0 0 1", []string{"0 1 2 1; 1 1 2 1", "1 1 2 1; 2 1 2 1", "0 1 2 1; 1 1 2 2; 2 1 2 1; 3 1 2 1; 4 1 2 1"}},
		{"source x let a = prev 50 b let b = x", "0 1 1 1; 150 1 1 2; 151 1 1 1", []string{"50 1 1 1; 200 1 1 2", "0 1 1 1; 150 1 1 2; 151 1 1 1"}},
		{"source x let a = prev 1 b let b = x shift ~2", "3 1 1 1", []string{"2 1 1 1", "1 1 1 1"}},
		{"source x let a = prev 1 a", "3 1 1 1", []string{""}},
		{"source x let a = x and prev 50 a", "10 0 1 1", []string{"10 0 1 1; 60 0 1 1; 110 0 1 1; 160 0 1 1"}},
		{"source x let a = x and prev 40 b let b = prev 20 a where at less 150", "10 0 1 1; 70 0 1 1", []string{"10 0 1 1; 70 0 1 2; 130 0 1 2", "30 0 1 1; 90 0 1 2"}},
		{"source x let a = (x and prev 30 a each key, val + 1) total by sum", "5 0 1 1; 100 0 7 1", []string{"5 0 1 1; 35 0 3 1; 65 0 7 1; 95 0 15 1; 100 0 22 1; 125 0 38 1; 130 0 61 1; 155 0 100 1; 160 0 162 1; 185 0 263 1; 190 0 426 1"}},
		{"source x let a = x and prev 1 b let b = a where val less 3 each key, val + 1", "195 0 0 1; 198 0 1 2", []string{"195 0 0 1; 196 0 1 1; 197 0 2 1; 198 0 1 2; 198 0 3 1; 199 0 2 2; 200 0 3 2", "195 0 1 1; 196 0 2 1; 197 0 3 1; 198 0 2 2; 199 0 3 2"}},
		{"source x let a = x at prev 1 a as other + 1 and (x where val same 9)", "1 0 0 1; 4 0 9 1; 5 0 0 1; 7 0 0 1; 7 1 0 1", []string{"4 0 9 1; 5 0 10 1; 7 0 11 1"}},
		{"source x let a = (x and prev 9 a) group 10 by count", "0 0 0 1; 5 0 0 1; 12 0 0 1", []string{"9 0 2 1; 19 0 2 1; 29 0 1 1; 39 0 1 1; 49 0 1 1; 59 0 1 1; 69 0 1 1; 79 0 1 1; 89 0 1 1; 99 0 1 1; 109 0 1 1; 119 0 1 1; 129 0 1 1; 139 0 1 1; 149 0 1 1; 159 0 1 1; 169 0 1 1; 179 0 1 1; 189 0 1 1; 199 0 1 1"}},
	} {
		p := prog(t, c.text)
		got := answers(t, p, says(t, 0, c.x))
		for i, want := range c.want {
			mustBe(t, slices.Equal(got[i], of(t, want)), c, i, got[i])
		}
	}
}
