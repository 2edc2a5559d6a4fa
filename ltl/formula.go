package ltl

import (
	"strconv"

	"olivette/api"
)

// node is a formula. Its type tells which one; parts are the formulas that it is made of.
type node interface {
	parts() []node
}

type (
	constant bool
	property int
	not      struct{ one }
	next     struct{ one }
	always   struct{ one }
	finally  struct{ one }
	and      struct{ two }
	or       struct{ two }
	until    struct{ two }
	release  struct{ two }
)

type one struct{ part node }

type two struct{ left, right node }

func (constant) parts() []node { return nil }

func (property) parts() []node { return nil }

func (o one) parts() []node { return []node{o.part} }

func (t two) parts() []node { return []node{t.left, t.right} }

// leaf returns the formula that is one word.
func leaf(word string) node {
	switch word {
	case "true", "false":
		return constant(word == "true")
	case "p0", "p1", "p2", "p3":
		return property(word[1] - '0')
	}
	panic(api.ErrSyntax)
}

// arity returns of how many parts the word makes a formula.
func arity(word string) int {
	switch word {
	case "not", "next", "always", "finally":
		return 1
	case "and", "or", "until", "release":
		return 2
	}
	panic(api.ErrSyntax)
}

// joined returns the formula that the word makes of as many parts as it takes.
func joined(word string, parts []node) node {
	switch word {
	case "not":
		return not{one{parts[0]}}
	case "next":
		return next{one{parts[0]}}
	case "always":
		return always{one{parts[0]}}
	case "finally":
		return finally{one{parts[0]}}
	case "and":
		return and{two{parts[0], parts[1]}}
	case "or":
		return or{two{parts[0], parts[1]}}
	case "until":
		return until{two{parts[0], parts[1]}}
	}
	return release{two{parts[0], parts[1]}}
}

// wordOf returns the word with which the formula is written.
func wordOf(f node) string {
	switch f := f.(type) {
	case constant:
		return strconv.FormatBool(bool(f))
	case property:
		return "p" + strconv.Itoa(int(f))
	case not:
		return "not"
	case next:
		return "next"
	case always:
		return "always"
	case finally:
		return "finally"
	case and:
		return "and"
	case or:
		return "or"
	case until:
		return "until"
	}
	return "release"
}

// written returns the text of the formula.
func written(f node) string {
	parts := f.parts()
	if len(parts) == 0 {
		return wordOf(f)
	}
	text := "(" + wordOf(f)
	for _, part := range parts {
		text += " " + written(part)
	}
	return text + ")"
}

// pushed returns the formula, or its `not` if that is asked for, with `not` only before properties.
func pushed(f node, deny bool) node {
	switch f := f.(type) {
	case constant:
		return constant(bool(f) != deny)
	case property:
		if deny {
			return not{one{f}}
		}
		return f
	case not:
		return pushed(f.part, !deny)
	}
	var parts []node
	for _, part := range f.parts() {
		parts = append(parts, pushed(part, deny))
	}
	word := wordOf(f)
	if deny {
		word = opposite(word)
	}
	return joined(word, parts)
}

// opposite returns the word that makes, of the `not` of the parts, the `not` of what this word makes of the parts.
func opposite(word string) string {
	switch word {
	case "and":
		return "or"
	case "or":
		return "and"
	case "until":
		return "release"
	case "release":
		return "until"
	case "always":
		return "finally"
	case "finally":
		return "always"
	}
	return word // next
}
