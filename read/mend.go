package read

import "afterword/api"

// Mend returns the program of the pieces that can be read, and the faults of the others.
func Mend(text string) (api.TermProg, []api.ReadFault, api.Errno) {
	l, e := scanAll(text)
	if e != api.OK {
		return api.TermProg{}, nil, e
	}
	r := newReader(l)
	pieces := piecesOf(l)
	good, srcs := goodSources(r, pieces)
	r.srcs = srcs
	out := api.TermProg{Srcs: srcs}
	var faults []api.ReadFault
	for i, p := range pieces {
		r.left = p
		switch {
		case i == good:
		case p.next().Text == "source":
			faults = append(faults, r.sourceFault())
		default:
			d, fault, ok := attempt(r.letPiece)
			if ok {
				out.Defs = append(out.Defs, d)
			} else {
				faults = append(faults, fault)
			}
		}
	}
	return out, faults, api.OK
}

// piecesOf cuts tokens ahead of each source and let.
func piecesOf(l left) []left {
	var out []left
	from := 0
	for i, t := range l.tokens {
		if i > 0 && (t.Text == "source" || t.Text == "let") {
			out = append(out, left{l.tokens[from:i], t})
			from = i
		}
	}
	if from < len(l.tokens) {
		out = append(out, left{l.tokens[from:], l.behind})
	}
	return out
}

// goodSources returns the number of the good piece that begins with source, or -1, and its names.
func goodSources(r *reader, pieces []left) (int, []string) {
	good := -1
	var srcs []string
search:
	for i, p := range pieces {
		switch p.next().Text {
		case "source":
			r.left = p
			if names, _, ok := attempt(r.sourcePiece); ok {
				good, srcs = i, names
				break search
			}
		}
	}
	return good, srcs
}

// sourceFault is that of a piece that begins with source: its first token, if there was a good one ahead of it.
func (r *reader) sourceFault() api.ReadFault {
	first := r.next()
	_, fault, ok := attempt(r.sourcePiece)
	if ok {
		return faultAt(first)
	}
	return fault
}
