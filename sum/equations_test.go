package sum

import (
	"fmt"
	"testing"
)

func TestEquations(t *testing.T) {
	for i, x := range []struct {
		rows     [][]int
		solution string
	}{
		{[][]int{{2, 6}}, "[3]"},
		{[][]int{{1, 1, 5}, {1, -1, 2}}, "[7/2 3/2]"},
		{[][]int{{0, 1, 4}, {1, 0, 3}}, "[3 4]"},
		{[][]int{{0, 1, 1, 4}, {0, 0, 2, 3}, {1, 1, 1, 7}}, "[3 5/2 3/2]"},
		{[][]int{{1, 1, 5}}, "[5 0]"},
		{[][]int{{0, 0, 1, 5}, {0, 0, 2, 10}}, "[0 0 5]"},
		{[][]int{{0, 0, 0}, {1, 2, 3}, {2, 4, 6}}, "[3 0]"},
		{[][]int{{1, 2, 3}, {2, 4, 7}}, ""},
		{[][]int{{0, 0, 1}}, ""},
		{[][]int{{1, 5}, {1, 5}, {1, 6}}, ""},
		{[][]int{{0}}, "[]"},
		{[][]int{{3}}, ""},
	} {
		var rows equations[fraction]
		for _, l := range x.rows {
			var row []fraction
			for _, c := range l {
				row = append(row, integer(c))
			}
			rows = append(rows, row)
		}
		solution, ok := solve(rows, len(x.rows[0])-1)
		if ok != (x.solution != "") || ok && fmt.Sprint(solution) != x.solution || !ok && len(solution) != 0 {
			t.Errorf("equations %d: %v, %t instead of %s", i, solution, ok, x.solution)
		}
	}
}
