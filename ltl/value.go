package ltl

// view is all on which it depends whether a formula is true at a position: the mark there, whether its first and its last part are true there, and whether its first part, and the formula itself, are true at the next position.
type view struct {
	mark        int
	left, right bool
	soon, again bool
}

// value returns whether the formula is true at a position that is seen like this.
func value(f node, v view) bool {
	switch f := f.(type) {
	case constant:
		return bool(f)
	case property:
		return v.mark>>f&1 == 1
	case not:
		return !v.left
	case and:
		return v.left && v.right
	case or:
		return v.left || v.right
	case next:
		return v.soon
	case until:
		return v.right || v.left && v.again
	case release:
		return v.right && (v.left || v.again)
	case always:
		return v.left && v.again
	}
	return v.left || v.again // finally
}
