package index

import "testing"

// thing stands in a file, from a byte on.
type thing struct {
	key, at int
}

// firstOf is the first thing whose key is at least key, of which there is one.
func firstOf(things []thing, key int) (i int, ok bool) {
	for i, x := range things {
		if x.key >= key {
			return i, true
		}
	}
	return 0, false
}

// check holds that all keys are found, in spans as short as the gap allows.
func check(t *testing.T, things []thing, size, gap int) {
	t.Helper()
	x := New[int](gap)
	for _, y := range things {
		x.Note(y.key, y.at)
	}
	for key := -3; key <= 12; key++ {
		i, want := firstOf(things, key)
		from, to, ok := x.Span(key, size)
		if ok != want {
			t.Fatalf("%v: Span(%d) is %v, want %v", things, key, ok, want)
		}
		if !ok {
			if from != 0 || to != 0 {
				t.Fatalf("%v: Span(%d) is %d to %d beside false", things, key, from, to)
			}
			continue
		}
		end := size
		if i+1 < len(things) {
			end = things[i+1].at
		}
		if begin := things[i].at; begin < from || begin >= from+gap || end > to {
			t.Fatalf("%v: Span(%d) is %d to %d with the gap %d, want %d to %d within it", things, key, from, to, gap, begin, end)
		}
		for _, y := range things {
			if y.at >= from+gap && y.at < to {
				t.Fatalf("%v: Span(%d) is %d to %d with the gap %d, which is longer than need be", things, key, from, to, gap)
			}
		}
	}
}

func TestSpans(t *testing.T) {
	check(t, nil, 0, 5)
	seed := uint32(3)
	below := func(n int) int {
		seed = seed*1664525 + 1013904223
		return int(seed>>8) % n
	}
	for range 3000 {
		var things []thing
		at := 0
		for range 1 + below(12) {
			things = append(things, thing{below(10) - 1, at})
			at += 1 + below(6)
		}
		check(t, things, at, 1+below(15))
	}
}

// TestFewMarks: an index keeps no more than a mark in gap bytes.
func TestFewMarks(t *testing.T) {
	for _, gap := range []int{1, 10, 15, 100} {
		x := New[string](gap)
		for i := range 1000 {
			x.Note("k", 10*i)
		}
		if most := 10000/max(gap, 10) + 1; len(x.marks) > most {
			t.Errorf("%d marks with the gap %d, want at most %d", len(x.marks), gap, most)
		}
	}
}
