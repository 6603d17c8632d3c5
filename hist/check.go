package hist

import (
	"slices"

	"afterword/api"
)

// isList reports whether a list of news is formed.
func isList(l []api.News, srcs int) bool {
	if !areNews(l, srcs) {
		return false
	}
	_, _, found := clash(l)
	return !found
}

// areNews reports whether a list would be formed if nothing clashed.
func areNews(l []api.News, srcs int) bool {
	if !within(srcs, 1, api.HistSrcs) || len(l) > api.HistNews {
		return false
	}
	return !slices.ContainsFunc(l, func(n api.News) bool { return !isNews(n, srcs) })
}

func isNews(n api.News, srcs int) bool {
	if !within(n.Src, 0, srcs-1) {
		return false
	}
	switch n.Do {
	case api.NewsSay:
		return isVersion(n) && isRecord(n.Rec)
	case api.NewsGone:
		return isVersion(n) && n.Rec == api.Rec{}
	case api.NewsMark:
		return within(n.Rec.At, 0, api.RecTime+1) && n == newMark(n.Src, n.Rec.At)
	}
	return false
}

func isVersion(n api.News) bool { return within(n.Id, 0, api.HistId) && within(n.Ver, 1, api.HistVer) }

func isRecord(r api.Rec) bool {
	return within(r.At, 0, api.RecTime) && within(r.Key, -api.RecMost, api.RecMost) && within(r.Val, -api.RecMost, api.RecMost)
}

func within(n, least, most int) bool { return least <= n && n <= most }

// newMark is the one of the news that gives a source a mark.
func newMark(src, at int) api.News {
	return api.News{Do: api.NewsMark, Src: src, Rec: api.Rec{At: at}}
}

// clash finds the two that clash whose second one comes first, and of these those with the first first one.
func clash(l []api.News) (first, second int, found bool) {
pairs:
	for j, n := range l {
		for i, m := range l[:j] {
			if clashes(m, n) {
				first, second, found = i, j, true
				break pairs
			}
		}
	}
	return first, second, found
}

func clashes(m, n api.News) bool {
	if m.Do == api.NewsMark || n.Do == api.NewsMark {
		return false
	}
	return eventOf(m) == eventOf(n) && m.Ver == n.Ver && m != n
}
