package states_test

import (
	"slices"
	"testing"

	"groove/api"
	"groove/states"
)

// Sets have the states that they are made of, the greatest one among them, in ascending order.
func TestSets(t *testing.T) {
	for _, list := range [][]int{nil, {0}, {63}, {0, 63}, {1, 2, 5, 31, 32, 62}} {
		set := states.Of(list...)
		if !slices.Equal(set.Members(), list) {
			t.Errorf("Members of %v: %v", list, set.Members())
		}
		for s := range api.MaxState {
			if set.Has(s) != slices.Contains(list, s) {
				t.Errorf("Has %v, %d: %t", list, s, set.Has(s))
			}
		}
	}
	if set := states.Of(5, 1, 5, 3); !slices.Equal(set.Members(), []int{1, 3, 5}) {
		t.Errorf("Members of 5, 1, 5, 3: %v", set.Members())
	}
	for _, n := range []int{0, 1, 2, 63, 64} {
		list := states.Every(api.Graph{Labels: 1, States: n}).Members()
		if len(list) != n || n > 0 && (list[0] != 0 || list[n-1] != n-1) {
			t.Errorf("Every of %d states: %v", n, list)
		}
	}
}

// Sets move along all edges with a label from each of their states; labels that lead on are followed in ascending order.
func TestMoves(t *testing.T) {
	g := api.Graph{Labels: 4, States: 64, Edges: []api.Edge{{From: 0, Label: 0, To: 1}, {From: 0, Label: 0, To: 63}, {From: 0, Label: 3, To: 0}, {From: 1, Label: 1, To: 2}, {From: 63, Label: 0, To: 2}, {From: 63, Label: 3, To: 5}}}
	m := states.MovesOf(g)
	if ends := m.Step(states.Of(0, 63), 0); ends != states.Of(1, 2, 63) {
		t.Errorf("Step: %v", ends.Members())
	}
	if ends := m.Step(states.Every(g), 2); ends != states.Of() {
		t.Errorf("Step with a label of no edge: %v", ends.Members())
	}
	var labels []int
	var sets []states.Set
	m.Follow(states.Of(0, 63), func(label int, ends states.Set) {
		labels, sets = append(labels, label), append(sets, ends)
	})
	if !slices.Equal(labels, []int{0, 3}) || !slices.Equal(sets, []states.Set{states.Of(1, 2, 63), states.Of(0, 5)}) {
		t.Errorf("Follow: %v, %v", labels, sets)
	}
	m.Follow(states.Of(), func(label int, ends states.Set) { t.Errorf("Follow from no state: %d", label) })
}
