package lag_test

import (
	"math/rand/v2"
	"testing"

	"afterword/api"
	"afterword/lag"
)

// P7.3: the examples, and events at both ends of time.
func TestTouch(t *testing.T) {
	const chapter = "source x, y let a = x once let b = a slide 5 by sum and prev 3 b let c = a lack y within 2"
	for _, c := range []struct {
		text         string
		def, src, at int
		first, last  int
		e            api.Errno
	}{
		{chapter, 2, 1, 11, 9, 13, api.OK}, {chapter, 0, 1, 11, 0, 0, api.ErrNone}, {chapter, 0, 0, 11, 11, 11, api.OK}, {chapter, 1, 0, 11, 11, 200, api.OK}, {chapter, 1, 1, 11, 0, 0, api.ErrNone},
		{chapter, 2, 1, 0, 0, 2, api.OK}, {chapter, 2, 1, 1, 0, 3, api.OK}, {chapter, 2, 1, 2, 0, 4, api.OK}, {chapter, 2, 1, 3, 1, 5, api.OK}, {chapter, 2, 1, 198, 196, 200, api.OK}, {chapter, 2, 1, 199, 197, 200, api.OK}, {chapter, 2, 1, 200, 198, 200, api.OK}, {chapter, 0, 0, 0, 0, 0, api.OK}, {chapter, 0, 0, 200, 200, 200, api.OK},
		{"source x let a = x shift 5", 0, 0, 0, 5, 5, api.OK}, {"source x let a = x shift 5", 0, 0, 195, 200, 200, api.OK}, {"source x let a = x shift 5", 0, 0, 196, 0, 0, api.ErrNone}, {"source x let a = x shift 5", 0, 0, 200, 0, 0, api.ErrNone},
		{"source x let a = x shift ~5", 0, 0, 4, 0, 0, api.ErrNone}, {"source x let a = x shift ~5", 0, 0, 5, 0, 0, api.OK}, {"source x let a = x shift ~5", 0, 0, 200, 195, 195, api.OK},
		{"source x let a = x shift 5 total by sum", 0, 0, 195, 200, 200, api.OK}, {"source x let a = x shift 5 total by sum", 0, 0, 196, 0, 0, api.ErrNone}, {"source x let a = x shift ~5 total by sum", 0, 0, 0, 0, 200, api.OK}, {"source x let a = x shift ~5 total by sum", 0, 0, 9, 4, 200, api.OK},
		{"source x let a = x group 7 by sum shift 3", 0, 0, 10, 13, 19, api.OK}, {"source x let a = x slide 7 by sum shift ~3", 0, 0, 10, 7, 14, api.OK}, {"source x let a = x slide 7 by sum shift ~3", 0, 0, 200, 197, 200, api.OK},
		{"source x let a = x shift 50 shift 50 shift 50 shift 50", 0, 0, 0, 200, 200, api.OK}, {"source x let a = x shift 50 shift 50 shift 50 shift 50", 0, 0, 1, 0, 0, api.ErrNone}, {"source x let a = x shift 50 shift 50 shift 50 shift 50 shift 1", 0, 0, 0, 0, 0, api.ErrNone},
		{"source x let a = prev 1 a", 0, 0, 100, 0, 0, api.ErrNone}, {"source x let a = x and prev 50 b let b = a", 1, 0, 100, 100, 200, api.OK},
	} {
		first, last, e := lag.Touch(prog(t, c.text), c.def, c.src, c.at)
		mustBe(t, first == c.first && last == c.last && e == c.e, c, first, last, e)
	}
}

// P7.3: random programs, each answer by the definition.
func TestTouchAny(t *testing.T) {
	r := rand.New(rand.NewPCG(74, 7))
	some, none := 0, 0
	for range 1500 {
		p := anyProg(r, 4)
		for def, l := range lags(t, p) {
			for src, g := range l {
				at := pick(r, []int{0, 1, r.IntN(201), r.IntN(201), 199, 200})
				first, last, e := lag.Touch(p, def, src, at)
				count := 0
				for answer := range 201 {
					touched := touches(g, at, answer)
					mustBe(t, touched == (e == api.OK && first <= answer && answer <= last), p, def, src, at, answer, first, last, e)
					if touched {
						count++
					}
				}
				if e == api.OK {
					mustBe(t, 0 <= first && last <= 200 && count > 0, p, def, src, at, first, last)
					some++
				} else {
					mustBe(t, e == api.ErrNone && first == 0 && last == 0, p, def, src, at, first, last, e)
					none++
				}
			}
		}
	}
	mustBe(t, some > 1500 && none > 1500, some, none)
}
