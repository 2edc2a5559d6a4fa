package planar

import (
	"slices"

	"olivette/sets"
)

// block is a part of a graph that is being drawn: it begins as a circle, and grows by paths that divide its faces (by the way of Demoucron, Malgrange and Pertuiset). In the end it is a bridge alone, or all that no removal of one vertex divides.
type block struct {
	rest  graph // the edges that are not drawn
	drawn sets.Set
	faces []face
}

// face is a face that comes to no vertex twice, as is each of a block with more than one edge.
type face struct {
	circle []int
	on     sets.Set
}

// piece is what hangs together of the edges that are not drawn: a single one, with inside empty, or all those at the vertices of inside, which are not drawn.
type piece struct {
	inside, contacts sets.Set
}

// planeRotation returns a plane rotation of the graph, or false if it has none.
func planeRotation(g graph) ([][]int, bool) {
	rest := slices.Clone(g)
	rotation := make([][]int, len(g))
	for u := range rest {
		for rest[u] != 0 {
			b := beginBlock(rest, u, rest[u].Least())
			if !b.finish() {
				return nil, false
			}
			// Blocks have at most one vertex in common, so that each of them fits into a face of the others there.
			b.addTurns(rotation)
		}
	}
	return rotation, true
}

// beginBlock draws a circle with the edge from u to v, or the edge alone if no circle has it. It removes from rest all that it draws.
func beginBlock(rest graph, u, v int) *block {
	rest.separate(u, v)
	circle := rest.path(v, rest.vertices(), sets.Only(u))
	if circle == nil {
		circle = []int{u, v}
	}
	b := &block{rest: rest, drawn: sets.Of(circle)}
	b.removePath(circle)
	b.addFace(circle)
	if len(circle) > 2 {
		back := slices.Clone(circle)
		slices.Reverse(back)
		b.addFace(back)
	}
	return b
}

func (b *block) removePath(path []int) {
	for i := 1; i < len(path); i++ {
		b.rest.separate(path[i-1], path[i])
	}
}

func (b *block) addFace(circle []int) {
	b.faces = append(b.faces, face{circle: circle, on: sets.Of(circle)})
}

// finish draws all the rest of the block, or returns false if that can't be done.
func (b *block) finish() bool {
	for {
		p, rooms := b.tightest()
		if p.contacts == 0 {
			return true
		}
		if len(rooms) == 0 {
			return false
		}
		b.divide(rooms[0], p.path(b.rest))
	}
}

// tightest returns a piece that fits into the fewest faces, and their positions. The piece has no contacts if all is drawn.
//
// A piece that fits into one face only must go there. If all of them fit into several, any choice is as good as the others.
func (b *block) tightest() (piece, []int) {
	var tight piece
	var least []int
	for _, p := range b.pieces() {
		var rooms []int
		for i, f := range b.faces {
			if p.contacts&^f.on == 0 {
				rooms = append(rooms, i)
			}
		}
		if tight.contacts == 0 || len(rooms) < len(least) {
			tight, least = p, rooms
		}
	}
	return tight, least
}

// pieces returns the pieces that hang on the drawn vertices in at least two places. Others belong to other blocks.
func (b *block) pieces() []piece {
	var list []piece
	for u := range b.drawn.All() {
		for v := range (b.rest[u] & b.drawn).All() {
			if u < v {
				list = append(list, piece{contacts: sets.Only(u) | sets.Only(v)})
			}
		}
	}
	for inside := range b.rest.groups(b.rest.vertices() &^ b.drawn) {
		contacts := sets.Near(b.rest, inside) & b.drawn
		if contacts.Size() > 1 {
			list = append(list, piece{inside, contacts})
		}
	}
	return list
}

// path returns a path through the piece from one contact to another.
func (p piece) path(rest graph) []int {
	from := p.contacts.Least()
	ends := p.contacts &^ sets.Only(from)
	if p.inside == 0 {
		return []int{from, ends.Least()}
	}
	// An edge between two contacts is a piece of its own: the path must begin inside.
	second := (rest[from] & p.inside).Least()
	return append([]int{from}, rest.path(second, p.inside, ends)...)
}

// divide draws the path through a face between its ends.
func (b *block) divide(room int, path []int) {
	from, to := path[0], path[len(path)-1]
	circle := b.faces[room].circle
	start := slices.Index(circle, from)
	circle = slices.Concat(circle[start:], circle[:start])
	end := slices.Index(circle, to)
	back := slices.Clone(path)
	slices.Reverse(back)

	b.faces = slices.Delete(b.faces, room, room+1)
	b.addFace(slices.Concat(path, circle[end+1:]))
	b.addFace(slices.Concat(back, circle[1:end]))
	b.removePath(path)
	b.drawn |= sets.Of(path)
}

// addTurns adds the neighbors in the block to the lists of its vertices, in the order in which the faces have them.
func (b *block) addTurns(rotation [][]int) {
	first := map[int]int{}
	after := map[arc]int{} // for an edge, the neighbor that follows the one it leads to
	for _, f := range b.faces {
		n := len(f.circle)
		for i, v := range f.circle {
			first[v] = f.circle[(i+1)%n]
			after[arc{v, f.circle[(i+n-1)%n]}] = first[v]
		}
	}
	for v := range b.drawn.All() {
		rotation[v] = append(rotation[v], first[v])
		for u := after[arc{v, first[v]}]; u != first[v]; u = after[arc{v, u}] {
			rotation[v] = append(rotation[v], u)
		}
	}
}
