package read_test

import (
	"math/rand/v2"
	"slices"
	"strings"
	"testing"

	"afterword/api"
	"afterword/read"
)

func mendIs(t *testing.T, text string, want api.TermProg, faults ...api.ReadFault) {
	t.Helper()
	p, l, e := read.Mend(text)
	mustBe(t, e == api.OK && equal(p, want) && slices.Equal(l, faults), text, p, l, e)
}

func faultOf(at, line int, text string) api.ReadFault {
	return api.ReadFault{At: at, Line: line, Text: text}
}

// P3.3: the chapter's example.
func TestMendExample(t *testing.T) {
	mendIs(t, "let x = a source b let y = source c let z = b", prog("b", let("x", ref("a")), let("z", src("b"))), faultOf(27, 1, "source"), faultOf(27, 1, "source"))
	mendIs(t, exampleText, exampleProg())
}

// P3.3: pieces and what is wrong with them.
func TestMendPieces(t *testing.T) {
	mendIs(t, "", prog(""))
	mendIs(t, "% let\n", prog(""))
	mendIs(t, "source a", prog("a"))
	mendIs(t, "source", prog(""), faultOf(6, 1, ""))
	mendIs(t, "source ", prog(""), faultOf(7, 1, ""))
	mendIs(t, "source source a", prog("a"), faultOf(7, 1, "source"))
	mendIs(t, "source a source b source c", prog("a"), faultOf(9, 1, "source"), faultOf(18, 1, "source"))
	mendIs(t, "source a,\nsource b source c c\nsource d", prog("b"), faultOf(10, 2, "source"), faultOf(28, 2, "c"), faultOf(30, 3, "source"))
	mendIs(t, "a b c", prog(""), faultOf(0, 1, "a"))
	mendIs(t, "where source a", prog("a"), faultOf(0, 1, "where"))
	mendIs(t, "x = a let y = a source a", prog("a", let("y", src("a"))), faultOf(0, 1, "x"))
	mendIs(t, "let", prog(""), faultOf(3, 1, ""))
	mendIs(t, "let let x = a let", prog("", let("x", ref("a"))), faultOf(4, 1, "let"), faultOf(17, 1, ""))
	mendIs(t, "let x = a) let y = (a let z = (a)", prog("", let("z", ref("a"))), faultOf(9, 1, ")"), faultOf(22, 1, "let"))
	mendIs(t, "let x = a where let y = a where 5 source b let z = b + b", prog("b", let("y", with(kids(api.TermWhere, 0, ref("a")), num(5)))), faultOf(16, 1, "let"), faultOf(53, 1, "+"))
	mendIs(t, "let x\n= a each 5,\n\nlet y = b %", prog("", let("y", ref("b"))), faultOf(19, 4, "let"))
	mendIs(t, "let x = (a let y = b)", prog(""), faultOf(11, 1, "let"), faultOf(20, 1, ")"))
}

// P3.3: what is mended need not be formed; its names are told apart by the sources, wherever these stand.
func TestMendNotFormed(t *testing.T) {
	mendIs(t, "let x = x and y and z let x = prev 0 q and prev ~9999999999 y shift 99 source y, y, x",
		prog("y y x", let("x", both(both(src("x"), src("y")), ref("z"))), let("x", both(prev(0, "q"), kids(api.TermShift, 99, prev(-9999999999, "y"))))))
	mendIs(t, "source a, let x = b let y = a source b, c", prog("b c", let("x", src("b")), let("y", ref("a"))), faultOf(10, 1, "let"))
	mendIs(t, "let x = a where other * 9999999999 let x = a group ~3 by least", prog("",
		let("x", with(kids(api.TermWhere, 0, ref("a")), two(api.CalcMul, leaf(api.CalcOther), num(9999999999)))),
		let("x", folded(kids(api.TermGroup, -3, ref("a")), api.FoldLeast))))
	mendIs(t, "source a, b, c, d, e, f, g", prog("a b c d e f g"))
	deep := "let x = a" + strings.Repeat(" once", 3990)
	p, l, e := read.Mend(deep)
	x := p.Defs[0].Exp
	for range 3990 {
		mustBe(t, x.Op == api.TermOnce && len(x.Kids) == 1, x.Op)
		x = x.Kids[0]
	}
	mustBe(t, e == api.OK && len(l) == 0 && x.Op == api.TermRef, l, e)
}

// piece is one of a text: what it is as a definition, if that is known, and its tokens.
type piece struct {
	def   *api.TermDef
	words []string
}

// randomPiece is good, or spoiled somehow; no source and no let stands in it but ahead.
func randomPiece(r *rand.Rand) piece {
	s := loose(r)
	var p piece
	if r.IntN(3) == 0 {
		s.add("source", pick(r, pool))
		for range r.IntN(3) {
			s.add(",", pick(r, pool))
		}
	} else {
		leaf := func() api.TermExp {
			if r.IntN(3) == 0 {
				return prev(pick(r, numbers), pick(r, pool))
			}
			return ref(pick(r, pool))
		}
		d := let(pick(r, pool), randomExp(r, leaf, 1+r.IntN(4)))
		p.def = &d
		s.def(d)
	}
	p.words = words(s.all)
	if r.IntN(2) == 0 {
		p.def = nil
		at := r.IntN(len(p.words) + 1)
		if r.IntN(2) == 0 {
			p.words = slices.Delete(p.words, min(at, len(p.words)-1), len(p.words))
		} else {
			p.words = slices.Insert(p.words, at, pick(r, []string{"a", "5", "and", ",", ")", "(", "where", "once"}))
		}
	}
	return p
}

// named has a TermSrc for each name of a source.
func named(x api.TermExp, srcs []string) api.TermExp {
	if x.Op == api.TermRef && slices.Contains(srcs, x.Name) {
		x.Op = api.TermSrc
	}
	l := slices.Clone(x.Kids)
	for i := range l {
		l[i] = named(l[i], srcs)
	}
	x.Kids = l
	return x
}

// holdMend holds what is mended of a text, whose pieces may begin anywhere, against the definitions.
func holdMend(t *testing.T, text string, defs map[string]api.TermDef) (good, bad int) {
	t.Helper()
	all, end, _ := cut(text)
	var want []api.ReadFault
	var srcs []string
	found := false
	var lets []string // the texts of good definitions
	for i := 0; i < len(all); {
		n := i + 1
		for n < len(all) && all[n].Text != "source" && all[n].Text != "let" {
			n++
		}
		start, behind := "Let", faultOf(end, lineOf(text, end), "")
		if all[i].Text == "source" {
			start = "Source"
		}
		if n < len(all) {
			behind = faultOf(all[n].At, all[n].Line, all[n].Text)
		}
		k, c := follow(start, all[i:n])
		switch {
		case k < n-i:
			want = append(want, faultOf(all[i+k].At, all[i+k].Line, all[i+k].Text))
		case !c.isWhole(start):
			want = append(want, behind)
		case start == "Let":
			lets = append(lets, strings.Join(words(all[i:n]), " "))
		case found:
			want = append(want, faultOf(all[i].At, all[i].Line, "source"))
		default:
			found = true
			for _, x := range all[i:n] {
				if x.Kind == api.ReadName {
					srcs = append(srcs, x.Text)
				}
			}
		}
		i = n
	}
	p, l, e := read.Mend(text)
	mustBe(t, e == api.OK && slices.Equal(l, want), text, l, want, e)
	mustBe(t, slices.Equal(p.Srcs, srcs) && len(p.Defs) == len(lets), text, p, lets)
	for i, s := range lets {
		if d, ok := defs[s]; ok {
			d.Exp = named(d.Exp, srcs)
			mustBe(t, equal(prog("", p.Defs[i]), prog("", d)), text, i, p.Defs[i], d)
		}
	}
	return len(lets), len(l)
}

// P3.3: random pieces, good and spoiled, in any order.
func TestRandomMend(t *testing.T) {
	r := rand.New(rand.NewPCG(34, 34))
	good, bad := 0, 0
	for range 2500 {
		defs := map[string]api.TermDef{}
		text := ""
		for range r.IntN(7) {
			p := randomPiece(r)
			if p.def != nil {
				defs[strings.Join(p.words, " ")] = *p.def
			}
			for _, w := range p.words {
				text += w + pick(r, []string{" ", " ", "\n", " % source let ?\n"})
			}
		}
		a, b := holdMend(t, text, defs)
		good, bad = good+a, bad+b
	}
	mustBe(t, good > 1000 && bad > 1000, good, bad)
}

// P3.3: a text that can be read is mended without faults, to its program; without its sources, names are those of definitions.
func TestMendWhole(t *testing.T) {
	r := rand.New(rand.NewPCG(35, 35))
	for _, p := range randomProgs(35, 600) {
		s := loose(r).prog(p)
		mendIs(t, s.text, p)
		q, e := read.Parse(s.text)
		mustBe(t, e == api.OK && equal(p, q), s.text, q, e)
	}
}

// P3.3: which errors there are, and which comes first.
func TestMendErrors(t *testing.T) {
	wrong := func(text string, want api.Errno) {
		t.Helper()
		p, l, e := read.Mend(text)
		mustBe(t, e == want && len(l) == 0 && equal(p, api.TermProg{}), text, p, l, e)
	}
	for _, text := range []string{"?", "source a ?", "let let 07", "source a let x = a ~", "abcdefghi", "source \xff a"} {
		wrong(text, api.ErrText)
	}
	long := strings.Repeat(" ", 20000)
	wrong(long+" ", api.ErrLong)
	wrong(long+"?", api.ErrLong)
	wrong("source a ?"+long, api.ErrLong)
	mendIs(t, long, prog(""))
}
