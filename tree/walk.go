package tree

import (
	"iter"
	"slices"
)

// stretch is how deep a function that produces parts calls itself. What is deeper waits in a list, as a tree may be deeper than a stack can be.
const stretch = 32

// heads are those of parts, and of all that are below these.
func heads(parts ...part) []head {
	var out []head
	for p := range all(parts...) {
		out = append(out, p.head())
	}
	return out
}

// all produces parts, and those below them, at all depths.
func all(parts ...part) iter.Seq[part] {
	return func(yield func(p part) bool) {
		for later := slices.Clone(parts); len(later) > 0; {
			last := len(later) - 1
			top := later[last]
			later = later[:last]
			for p, deep := range within(top, stretch) {
				switch {
				case deep:
					later = append(later, p)
				case !yield(p):
					return
				}
			}
		}
	}
}

// within produces a part, and those below it to some depth. One that is deeper is produced with a true: what it is and has is still to come.
func within(p part, depth int) iter.Seq2[part, bool] {
	return func(yield func(p part, deep bool) bool) {
		if !yield(p, depth == 0) || depth == 0 {
			return
		}
		for _, b := range p.below() {
			for q, deep := range within(b, depth-1) {
				if !yield(q, deep) {
					return
				}
			}
		}
	}
}
