package term

const longestName = 8

// keywords are the words of the language that are no names.
var keywords = [...]string{
	"after", "and", "as", "at", "both", "by", "count", "each", "else", "great", "group", "in", "is", "key", "lack", "least", "less",
	"let", "of", "once", "or", "other", "pair", "prev", "rest", "same", "shift", "slide", "source", "sum", "total", "val", "where", "within",
}

// Name reports whether a string is a name.
func Name(s string) bool {
	return 1 <= len(s) && len(s) <= longestName && hasLettersOnly(s) && !isKeyword(s)
}

// Fresh returns the first name that is none of some strings.
func Fresh(l []string) string {
	taken := map[string]bool{}
	for _, s := range l {
		taken[s] = true
	}
	s := "a"
	for taken[s] || !Name(s) {
		s = following(s)
	}
	return s
}

func hasLettersOnly(s string) bool {
	for _, b := range []byte(s) {
		if b < 'a' || b > 'z' {
			return false
		}
	}
	return true
}

func isKeyword(s string) bool {
	for _, k := range keywords {
		if k == s {
			return true
		}
	}
	return false
}

// following is the string of letters behind another one: shorter ones come first, then it goes by letters.
func following(s string) string {
	b := []byte(s)
	for i := len(b) - 1; i >= 0; i-- {
		if b[i] < 'z' {
			b[i]++
			return string(b)
		}
		b[i] = 'a'
	}
	return "a" + string(b)
}
