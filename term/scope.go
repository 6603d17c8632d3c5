package term

import (
	"slices"

	"afterword/api"
)

// sources is the outermost scope: it knows the names of a program's sources.
type sources struct {
	srcs []string
}

// program knows the names of all definitions, too.
type program struct {
	sources
	defs []string
}

// definition also knows which one it is: others stand ahead of it.
type definition struct {
	program
	at int
}

func scopeOf(p api.TermProg) program {
	names := changed(p.Defs, func(d api.TermDef) string { return d.Name })
	return program{sources{p.Srcs}, names}
}

// src is the number of a source, or -1.
func (s sources) src(name string) int { return slices.Index(s.srcs, name) }

// def is the number of a definition, or -1.
func (s program) def(name string) int { return slices.Index(s.defs, name) }

func (s sources) isSrc(name string) bool { return s.src(name) >= 0 }

func (s program) isDef(name string) bool { return s.def(name) >= 0 }

func (s definition) isAhead(name string) bool {
	i := s.def(name)
	return 0 <= i && i < s.at
}
