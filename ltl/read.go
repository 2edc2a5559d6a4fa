package ltl

import "olivette/api"

// reader reads a formula; rest is what has not been read of its text, and words counts those that have.
type reader struct {
	rest  string
	words int
}

// read returns the formula that a text says, and the number of its words.
func read(text string) (f node, words int, e api.Errno) {
	defer func() {
		if reason := recover(); reason != nil {
			f, words, e = nil, 0, api.ErrSyntax
		}
	}()
	r := reader{rest: text}
	f = r.formula()
	if r.token() != "" {
		panic(api.ErrSyntax)
	}
	return f, r.words, api.OK
}

// formula reads a formula. Each formula within another one comes after a word of that one, so the limit for words is one for the depth, too.
func (r *reader) formula() node {
	token := r.token()
	if token != "(" {
		return leaf(token)
	}
	word := r.token()
	var parts []node
	for range arity(word) {
		parts = append(parts, r.formula())
	}
	if r.token() != ")" {
		panic(api.ErrSyntax)
	}
	return joined(word, parts)
}

// token reads a parenthesis or a word; at the end of the text it returns the empty string.
func (r *reader) token() string {
	for r.rest != "" && isGap(r.rest[0]) {
		r.rest = r.rest[1:]
	}
	if r.rest == "" {
		return ""
	}
	end := 1
	if !isParenthesis(r.rest[0]) {
		r.words++
		if r.words > api.MaxSize {
			panic(api.ErrSyntax)
		}
		for end < len(r.rest) && !isGap(r.rest[end]) && !isParenthesis(r.rest[end]) {
			end++
		}
	}
	token := r.rest[:end]
	r.rest = r.rest[end:]
	return token
}

func isGap(b byte) bool { return b == ' ' || b == '\n' }

func isParenthesis(b byte) bool { return b == '(' || b == ')' }
