package hist

import (
	"maps"
	"slices"

	"afterword/api"
)

// event is how an event is known, whatever its versions say.
type event struct{ src, id int }

// heard is what some news, all of them formed, come to: for each event the one that counts, and the marks.
type heard struct {
	counts map[event]api.News
	marks  [api.HistSrcs]int
}

func eventOf(n api.News) event { return event{n.Src, n.Id} }

func hearAll(l []api.News) *heard {
	h := &heard{counts: map[event]api.News{}}
	for _, n := range l {
		h.hear(n)
	}
	return h
}

// hear takes one more of the news, and returns what it changes.
func (h *heard) hear(n api.News) (was, is []api.Event) {
	does := [...]func(api.News) (was, is []api.Event){
		api.NewsSay:  h.version,
		api.NewsGone: h.version,
		api.NewsMark: h.mark,
	}
	return does[n.Do](n)
}

// version lets an earlier one stay if it is as great: it is the first one that counts.
func (h *heard) version(n api.News) (was, is []api.Event) {
	e := eventOf(n)
	was = h.standing(e)
	if n.Ver > h.counts[e].Ver {
		h.counts[e] = n
	}
	is = h.standing(e)
	if slices.Equal(was, is) {
		return nil, nil
	}
	return was, is
}

func (h *heard) mark(n api.News) (was, is []api.Event) {
	h.marks[n.Src] = max(h.marks[n.Src], n.Rec.At)
	return nil, nil
}

// standing is the event, if it stands.
func (h *heard) standing(e event) []api.Event {
	n := h.counts[e]
	if n.Do != api.NewsSay {
		return nil
	}
	return []api.Event{{Src: n.Src, Id: n.Id, Rec: n.Rec}}
}

// events are all that stand, in right order.
func (h *heard) events() []api.Event {
	var out []api.Event
	for e := range h.counts {
		out = append(out, h.standing(e)...)
	}
	sortBy(out, func(e api.Event) [3]int { return [3]int{e.Rec.At, e.Src, e.Id} })
	return out
}

// least is the least list that says the same.
func (h *heard) least() []api.News {
	out := slices.Collect(maps.Values(h.counts))
	for src, at := range h.marks {
		if at > 0 {
			out = append(out, newMark(src, at))
		}
	}
	sortBy(out, func(n api.News) [3]int {
		if n.Do == api.NewsMark {
			return [3]int{n.Src, 1, 0}
		}
		return [3]int{n.Src, 0, n.Id}
	})
	return out
}

// same holds what counts and the marks against each other: a least list says just these.
func (h *heard) same(o *heard) bool {
	return h.marks == o.marks && maps.Equal(h.counts, o.counts)
}

// late are the numbers of the news that change something below the mark of their source.
func late(l []api.News) []int {
	var out []int
	h := hearAll(nil)
	for i, n := range l {
		was, is := h.hear(n)
		below := func(e api.Event) bool { return e.Rec.At < h.marks[n.Src] }
		if slices.ContainsFunc(was, below) || slices.ContainsFunc(is, below) {
			out = append(out, i)
		}
	}
	return out
}

// sortBy sorts by three numbers, the first one ahead of the others.
func sortBy[T any](l []T, numbers func(T) [3]int) {
	slices.SortFunc(l, func(a, b T) int {
		x, y := numbers(a), numbers(b)
		return slices.Compare(x[:], y[:])
	})
}
