// Package chance is for the tests of the other packages: rows of numbers that look like chance and are the same in each run.
package chance

// Source is such a row. Rows with other beginnings are other rows.
type Source uint64

// Next is the next number of the row.
func (s *Source) Next() uint64 {
	*s += 0x9e3779b97f4a7c15
	z := uint64(*s)
	z = (z ^ z>>30) * 0xbf58476d1ce4e5b9
	z = (z ^ z>>27) * 0x94d049bb133111eb
	return z ^ z>>31
}

// Below is an integer from 0 to n - 1.
func (s *Source) Below(n int) int {
	return int(s.Next() % uint64(n))
}

// From is an integer from a to b.
func (s *Source) From(a, b int) int {
	return a + s.Below(b-a+1)
}
