// Package index tells where in a file something with a key is to be looked for.
package index

import (
	"cmp"
	"sort"
)

// Index is of things that stand one behind the other in a file, each of which has a key. The keys need not rise: what it finds is the first thing whose key is at least some key.
type Index[K cmp.Ordered] struct {
	gap   int
	high  K // the greatest key of all things; of none it is worth nothing
	marks []mark[K]
}

// mark is a place at which a thing begins, and the greatest key of those ahead of it (which the first mark has not).
type mark[K cmp.Ordered] struct {
	ahead K
	at    int
}

// New makes an index of nothing. Once in gap bytes it keeps a mark, so that it stays small: a thing begins less than gap bytes behind the last mark that is not behind it.
func New[K cmp.Ordered](gap int) Index[K] { return Index[K]{gap: gap} }

// Note tells of the next thing: its key, and where it begins.
func (x *Index[K]) Note(key K, at int) {
	n := len(x.marks)
	if n == 0 || at-x.marks[n-1].at >= x.gap {
		x.marks = append(x.marks, mark[K]{x.high, at})
	}
	if n == 0 || key > x.high {
		x.high = key
	}
}

// Span tells between which bytes the first thing stands whose key is at least key, in a file of size bytes; ok is false if there is none.
func (x *Index[K]) Span(key K, size int) (from, to int, ok bool) {
	if len(x.marks) == 0 || x.high < key {
		return 0, 0, false
	}
	behind := x.marks[1:]
	i := sort.Search(len(behind), func(i int) bool { return behind[i].ahead >= key })
	if i < len(behind) {
		size = behind[i].at
	}
	return x.marks[i].at, size, true
}
