package matrix_test

import (
	"math/rand"
	"slices"
	"testing"

	"groove/api"
	"groove/matrix"
)

// P4.7: columns against the definition, and against products.
func TestApply(t *testing.T) {
	sides(61, 500, func(r *rand.Rand, k, m, _ int) {
		a, v := random(r, k, m), random(r, 1, m)[0]
		w := apply(t, a, v)
		want := flipped(times(a, flipped([][]api.Int{v})))[0]
		if !slices.Equal(w, want) {
			t.Fatalf("P4.7: %v applied to %v: %v", a, v, w)
		}
		for j := range m {
			if column := apply(t, a, unit(m)[j]); !slices.Equal(column, flipped(a)[j]) {
				t.Fatalf("P4.7: the column %d of %v: %v", j, a, column)
			}
		}
	})
}

// P4.7: applying a product is applying one factor after the other.
func TestApplyProduct(t *testing.T) {
	sides(62, 600, func(r *rand.Rand, k, m, n int) {
		a, b, v := random(r, k, m), random(r, m, n), random(r, 1, n)[0]
		if !slices.Equal(apply(t, mul(t, a, b), v), apply(t, a, apply(t, b, v))) {
			t.Fatalf("P4.7: %v and %v applied to %v", a, b, v)
		}
	})
}

// P4.7: columns of another length, and elements that are not canonical, which come first.
func TestColumns(t *testing.T) {
	minus := api.Int{Neg: true}
	for _, a := range [][][]api.Int{{row(1)}, {row(1, 2)}, {row(1), row(2)}, zero(2, 3), unit(api.MaxSide), zero(1, api.MaxSide), zero(api.MaxSide, 1)} {
		for _, length := range []int{0, 1, 2, 3, 4, api.MaxSide - 1, api.MaxSide, api.MaxSide + 1, 5000} {
			v := make([]api.Int, length)
			w, e := matrix.Apply(a, v)
			if length == len(a[0]) {
				if e != api.OK || !slices.Equal(w, make([]api.Int, len(a))) {
					t.Errorf("P4.7: %d * %d applied to zeros: %v, %d", len(a), len(a[0]), w, e)
				}
			} else if e != api.ErrMismatch || w != nil {
				t.Errorf("P4.7: %d * %d applied to %d numbers: %v, %d", len(a), len(a[0]), length, w, e)
			}
			for _, bad := range []api.Int{minus, {Mag: "\x00"}, {Mag: "\x00\x01"}, {Neg: true, Mag: "\x00\x01"}} {
				if w, e := matrix.Apply(a, append(slices.Clone(v), bad)); e != api.ErrArgument || w != nil {
					t.Errorf("P4.7: %d * %d applied to %d numbers and %v: %v, %d", len(a), len(a[0]), length, bad, w, e)
				}
				if w, e := matrix.Apply(a, append([]api.Int{bad}, v...)); e != api.ErrArgument || w != nil {
					t.Errorf("P4.7: %d * %d applied to %v and %d numbers: %v, %d", len(a), len(a[0]), bad, length, w, e)
				}
			}
		}
	}
}
