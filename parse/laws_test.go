package parse_test

import (
	"slices"
	"strings"
	"testing"

	"litmus/api"
	"litmus/node"
	"litmus/parse"
)

// P7.2

func TestTreesAreRight(t *testing.T) {
	g, from := grammar(), source(77)
	for range 3000 {
		s, _ := from.laid(from.program(g), from.below(2) == 0)
		tree := wantWritten(t, s)
		if len(tree.Nodes) > len(s) || node.Depth(tree) > 256 {
			t.Fatalf("%q: %d nodes, depth %d", s, len(tree.Nodes), node.Depth(tree))
		}
		last := -1
		for _, d := range tree.Defs {
			if p := tree.Nodes[d].Pos; p <= last {
				t.Fatalf("%q: a def at %d behind one at %d", s, p, last)
			}
			last = tree.Nodes[d].Pos
		}
		for _, x := range tree.Nodes {
			if x.Pos < 0 || x.Pos >= len(s) {
				t.Fatalf("%q: a node at %d", s, x.Pos)
			}
		}
	}
}

// Other blanks and comments between the tokens change nothing but places, and these by as much as what stands ahead.
func TestBlanksChangePlacesAlone(t *testing.T) {
	g, from := grammar(), source(79)
	for range 3000 {
		toks := from.program(g)
		one, places := from.laid(toks, false)
		other, others := from.laid(toks, true)
		a, err := parse.Parse(one)
		b, err2 := parse.Parse(other)
		if err != nil || err2 != nil || !node.Same(a, b) {
			t.Fatalf("%q, %q: %v, %v; %v, %v", one, other, a, b, err, err2)
		}
		for i := range a.Nodes {
			if slices.Index(places, a.Nodes[i].Pos) != slices.Index(others, b.Nodes[i].Pos) {
				t.Fatalf("%q, %q: node %d at %d, at %d", one, other, i, a.Nodes[i].Pos, b.Nodes[i].Pos)
			}
		}
	}
}

// What is wrong first is the same, whatever stands behind it that are tokens.
func TestWhatStandsBehindIsNotAsked(t *testing.T) {
	g, from := grammar(), source(83)
	wrong := 0
	for range 3000 {
		s, _ := from.laid(from.changed(from.program(g)), false)
		_, err := parse.Parse(s)
		told := api.Told(err)
		if err == nil || told.At == len(s) {
			continue
		}
		wrong++
		for _, more := range []string{" )", " (", "\n+ 1 \"\"", " ;"} {
			wantWrong(t, s+more, told.Code, told.At)
		}
	}
	if wrong < 1000 {
		t.Errorf("only %d texts were wrong", wrong)
	}
}

// What is answered is the caller's: no two lists of it share memory, and no other answer has it.
func TestAnswersAreNew(t *testing.T) {
	s := "(def f (x (or Int Str Top)) Top (dict \"a\" (+ x 1) \"b\" (if x (and_ x) 0)))"
	s = strings.ReplaceAll(s, "(and_ x)", "(set x x x)") + " (def g (y Top) Top y)"
	first, err := parse.Parse(s)
	if err != nil {
		t.Fatal(err)
	}
	kept := node.Copy(first)
	for i := range first.Nodes {
		whole := first.Nodes[i].Kids
		for j := range whole[:cap(whole)] {
			whole[:cap(whole)][j] = -5
		}
		if i > 0 && !slices.Equal(first.Nodes[i-1].Kids, slices.Repeat([]int{-5}, len(first.Nodes[i-1].Kids))) || i+1 < len(first.Nodes) && !slices.Equal(first.Nodes[i+1].Kids, kept.Nodes[i+1].Kids) {
			t.Errorf("the kids of node %d are others' too", i)
		}
	}
	if !slices.Equal(first.Defs, kept.Defs) {
		t.Errorf("the defs are kids too: %v", first.Defs)
	}
	again, err := parse.Parse(s)
	if err != nil || !node.Same(again, kept) {
		t.Errorf("again: %v, %v", again, err)
	}
}

func TestLongTexts(t *testing.T) {
	const many = 1 << 16
	for _, s := range []string{"(", ")", "x ", "(def ", "(def f (x Top) Top ", "(not "} {
		_, err := parse.Parse(strings.Repeat(s, many))
		if api.Told(err).Code == api.OK {
			t.Errorf("%q, many times, is a program", s)
		}
	}
	long := strings.Repeat("n", many)
	tree, err := parse.Parse("(def " + long + " (x Top) Top " + strings.Repeat(" ", many) + long + ")")
	if err != nil || tree.Nodes[3].Name != long || tree.Nodes[2].Name != long || tree.Nodes[2].Pos != 18+2*many {
		t.Error("a long name, far away")
	}
}
