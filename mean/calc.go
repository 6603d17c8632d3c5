package mean

import (
	"iter"
	"math"

	"afterword/api"
)

// value is a term that is ready to be asked: for a record, and the value of the one that was found for it.
type value func(r api.Rec, other int) int

func valueOf(c api.Calc) value {
	switch c.Op {
	case api.CalcInt:
		return func(api.Rec, int) int { return c.N }
	case api.CalcAt:
		return func(r api.Rec, _ int) int { return r.At }
	case api.CalcKey:
		return func(r api.Rec, _ int) int { return r.Key }
	case api.CalcVal:
		return func(r api.Rec, _ int) int { return r.Val }
	case api.CalcOther:
		return func(_ api.Rec, other int) int { return other }
	}
	op, a, b := c.Op, valueOf(c.Kids[0]), valueOf(c.Kids[1])
	return func(r api.Rec, other int) int { return joined(op, a(r, other), b(r, other)) }
}

// joined is what the values of both Kids become.
func joined(op api.CalcOp, a, b int) int {
	switch op {
	case api.CalcAdd:
		return clamped(a + b)
	case api.CalcSub:
		return clamped(a - b)
	case api.CalcMul:
		return clamped(a * b)
	case api.CalcLess:
		return truth(a < b)
	}
	return truth(a == b)
}

func clamped(n int) int { return max(-api.RecMost, min(n, api.RecMost)) }

func truth(is bool) int {
	if is {
		return 1
	}
	return 0
}

// folded is what at least one record is folded to.
func folded(f api.TermFold, items iter.Seq[api.BagItem]) int {
	count, sum, least, great := 0, 0, math.MaxInt, math.MinInt
	for x := range items {
		count += x.N
		sum += x.N * x.Rec.Val
		least, great = min(least, x.Rec.Val), max(great, x.Rec.Val)
	}
	switch f {
	case api.FoldCount:
		return clamped(count)
	case api.FoldSum:
		return clamped(sum)
	case api.FoldLeast:
		return least
	}
	return great
}
