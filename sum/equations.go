package sum

// number is what the coefficients of equations may be; the zero value is 0.
type number[E any] interface {
	minus(E) E
	times(E) E
	over(E) E
	Sign() int
}

// equations are linear ones, a row for each: the coefficients of the unknowns, then what their sum is to be.
type equations[E number[E]] [][]E

// solve returns values of the unknowns, of which there are that many; those that the equations leave open are 0. It is false if there are none. It changes the rows.
func solve[E number[E]](rows equations[E], unknowns int) ([]E, bool) {
	settled := make([]int, 0, unknowns) // by each of the first rows
	for unknown := range unknowns {
		if rows.settle(len(settled), unknown) {
			settled = append(settled, unknown)
		}
	}
	for _, row := range rows[len(settled):] {
		if row[unknowns].Sign() != 0 {
			return nil, false
		}
	}
	values := make([]E, unknowns)
	for i, unknown := range settled {
		values[unknown] = rows[i][unknowns]
	}
	return values, true
}

// settle brings a row with the unknown to that place, makes its coefficient 1 and takes the unknown from all other rows; it is false if the rows from that place on are without it.
func (rows equations[E]) settle(place, unknown int) bool {
	pivot := place
	for pivot < len(rows) && rows[pivot][unknown].Sign() == 0 {
		pivot++
	}
	if pivot == len(rows) {
		return false
	}
	rows[place], rows[pivot] = rows[pivot], rows[place]
	row := rows[place]
	divisor := row[unknown]
	for i, c := range row {
		row[i] = c.over(divisor)
	}
	for i, other := range rows {
		if i != place {
			takeAway(other, other[unknown], row)
		}
	}
	return true
}

// takeAway takes the multiple of a row from another one.
func takeAway[E number[E]](from []E, multiple E, row []E) {
	if multiple.Sign() == 0 {
		return
	}
	for i, c := range row {
		if c.Sign() != 0 {
			from[i] = from[i].minus(multiple.times(c))
		}
	}
}
