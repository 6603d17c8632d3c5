package mean_test

import (
	"fmt"
	"slices"
	"testing"

	"afterword/api"
	"afterword/mean"
)

// checkMuch asks whether there is too much, of all answers and of each node.
func checkMuch(t *testing.T, text string, l []api.Event, want api.Errno) {
	t.Helper()
	p := prog(t, text)
	got, e := mean.Of(p, l)
	mustBe(t, e == want && (e == api.OK) == (len(got) > 0), text, got, e)
	for def, d := range p.Defs {
		for node := range preorder(d.Exp) {
			b, e := mean.Node(p, l, def, node)
			mustBe(t, e == want && (e == api.OK || len(b) == 0), text, def, node, b, e)
		}
	}
	_, e = mean.Says(p, l, 0)
	mustBe(t, e == api.OK, text, e)
}

// P6.3: 300 items are enough for a bag, 301 are too much; also in a ring, and in a node of which little is left.
func TestTooManyItems(t *testing.T) {
	for _, c := range []struct {
		text, x string
		want    api.Errno
	}{
		{"source x let a = x and prev 1 a", "0 1 0 1; 102 2 0 1", api.OK}, // 201 and 99
		{"source x let a = x and prev 1 a", "0 1 0 1; 101 2 0 1", api.ErrLong},
		{"source x let a = x and prev 1 a", "0 1 0 1; 99 2 0 1; 200 1 0 1", api.ErrLong},
		{"source x let a = x and prev 1 b let b = a let c = a and (b each 5, 5)", "51 1 0 1", api.OK}, // 150 and 150
		{"source x let a = x and prev 1 b let b = a let c = a and (b each 5, 5)", "50 1 0 1", api.ErrLong},
		{"source x let a = prev 1 b where val less 2 and x let b = a where key less 1", "0 0 0 1; 0 1 0 9", api.OK},
		{"source x let a = x let b = a pair a within 50 as val * 100 + other", sequence(17), api.OK},
		{"source x let a = x let b = a pair a within 50 as val * 100 + other", sequence(18), api.ErrLong},
		{"source x let a = x let b = a pair a within 50 as val * 100 + other where 0", sequence(18), api.ErrLong},
		{"source x let a = x let b = (a pair a within 50 as val * 100 + other) each 0, 0 let c = b", sequence(18), api.ErrLong},
		{"source x let a = x let b = (a pair a within 50 as val * 100 + other) total by sum", sequence(18), api.ErrLong},
	} {
		checkMuch(t, c.text, says(t, 0, c.x), c.want)
	}
}

// sequence is a bag of some records of a time and a key with different values.
func sequence(n int) string {
	text := ""
	for i := range n {
		text += fmt.Sprintf("; %d 0 %d 1", 10, i)
	}
	return text[2:]
}

// P6.3: a record may be there 1000000 times, once more is too much.
func TestTooMany(t *testing.T) {
	const million = "source x, y let a = x pair x within 0 as 0 let b = a pair a within 0 as 0 let c = b pair a within 0 as 0 "
	ten, one := says(t, 0, "5 1 0 10"), says(t, 1, "5 1 0 1")
	got := answers(t, prog(t, million), ten)
	mustBe(t, slices.Equal(got[2], of(t, "5 1 0 1000000")), got)
	for _, c := range []struct {
		text string
		want api.Errno
	}{
		{million, api.OK}, {million + "let d = c and c", api.ErrLong}, {million + "let d = c and y", api.ErrLong}, {million + "let d = c and (y each 2, 0)", api.OK}, {million + "let d = c and (y shift 1) ", api.OK},
		{million + "let d = (c and y) once", api.ErrLong}, {million + "let d = (c and y) where 0", api.ErrLong}, {million + "let d = (c and y) shift 50", api.ErrLong}, {million + "let d = (c and y) total by count", api.ErrLong},
		{million + "let d = c total by count let e = c shift ~5 let f = e and c", api.OK}, {million + "let d = c pair c within 0 as 0", api.ErrLong}, {million + "let d = c pair c within 50 as 0 pair c within 0 as 0", api.ErrLong},
		{million + "let d = x and y and prev 1 d let e = d pair (d pair d within 0 as 0) within 0 as 0", api.OK},
		{million + "let d = c and prev 1 d", api.OK}, {million + "let d = c and prev 1 d and y", api.ErrLong}, {million + "let d = c and (y shift 5) and prev 1 d", api.ErrLong}, {million + "let d = c and (y shift 5) and prev 4 d", api.OK},
	} {
		checkMuch(t, c.text, inOrder(ten, one), c.want)
	}
	for at, want := range map[int]api.Errno{181: api.OK, 180: api.ErrLong} { // twice as often, 19 or 20 times
		checkMuch(t, "source x let a = x and prev 1 a and prev 1 a", []api.Event{event(0, 0, at, 0, 0)}, want)
	}
}

// P6.3: what is beyond the ends of time is not counted, and what is only too much on the way up in a ring is none.
func TestNotTooMuch(t *testing.T) {
	checkMuch(t, "source x let a = x shift 50 let b = a shift ~50", wideFrom(141, 60), api.OK)
	checkMuch(t, "source x let a = (x each at, val) pair (x each at, val) within 50 as 0", wideFrom(0, 60), api.OK)
	checkMuch(t, "source x let a = x and prev 1 b let b = a total by sum where val less 4", says(t, 0, "0 0 1 1; 0 1 1 1; 3 0 2 1"), api.OK)
	// As long as nothing of b has come to 10, all that x says then would meet all of it.
	text := "source x let a = x and prev 10 b let b = (a where at same 0 each key, ~1) and " +
		"((x pair (a total by least where val same 0) within 0 as val) pair x within 0 as val * 100 + other where 0)"
	checkMuch(t, text, slices.Concat([]api.Event{event(0, 99, 0, 0, 0)}, says(t, 0, sequence(18))), api.OK)
	for _, n := range []int{0, 1, 2} {
		checkMuch(t, "source x let a = prev 1 b let b = a where 1", wideFrom(0, n), api.OK)
	}
}

// wideFrom are n events of the source 0, one behind the other.
func wideFrom(at, n int) []api.Event {
	var out []api.Event
	for i := range n {
		out = append(out, event(0, i, min(at+i, 200), i%7, i))
	}
	return inOrder(out)
}

// P6.3: all kinds of sums stay in bounds, however great what comes of a pair is.
func TestGreatPairs(t *testing.T) {
	p := prog(t, "source x let a = x total by sum let b = a pair a within 50 as val * other let c = b pair b within 0 as val * other")
	var l []api.Event
	for i := range 15 {
		l = append(l, event(0, i, i, 0, most))
	}
	got, e := mean.Of(p, l)
	mustBe(t, e == api.OK && len(got[1]) == 15 && got[1][14] == api.BagItem{Rec: rec(14, 0, most), N: 29} && got[2][14].N == 29*29, got, e)
	mustBe(t, got[0][14] == api.BagItem{Rec: rec(14, 0, most), N: 1}, got)
}
