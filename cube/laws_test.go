package cube_test

import (
	"slices"
	"testing"

	"stadda/api"
	"stadda/chance"
	"stadda/cube"
)

// P7.5, P7.6, P7.7.

// measures are what is counted of a function.
type measures struct {
	sense, blocks, size, depth, degree int
}

// measured are the measures of f; the depth is 0 if f has too many bits.
func measured(t *testing.T, f []bool) measures {
	t.Helper()
	_, l := blocks(t, f)
	m := measures{got(t, "Sensitivity", f, cube.Sensitivity), len(l), got(t, "Certificates", f, cube.Certificates), 0, got(t, "Degree", f, cube.Degree)}
	if width(f) < 6 {
		m.depth = got(t, "Depth", f, cube.Depth)
	}
	return m
}

// Nisan, Huang.
func TestMeasures(t *testing.T) {
	apart := map[string]int{}
	for _, f := range slices.Concat(functions(771, 6, 600), functions(772, 5, 600)) {
		m := measured(t, f)
		if m.sense > m.blocks || m.blocks > m.size || m.degree > m.sense*m.sense || m.size > m.sense*m.blocks {
			t.Errorf("%s: %v", text(f), m)
		}
		if width(f) < 6 && (m.size > m.depth || m.degree > m.depth) {
			t.Errorf("%s: %v", text(f), m)
		}
		for name, is := range map[string]bool{"sense, blocks": m.sense < m.blocks, "size, depth": m.size < m.depth, "degree, depth": m.degree < m.depth} {
			if is {
				apart[name]++
			}
		}
	}
	for _, name := range []string{"sense, blocks", "size, depth", "degree, depth"} {
		if apart[name] < 10 {
			t.Errorf("functions whose measures are apart: %v", apart)
		}
	}
}

// Parseval.
func TestSpectrum(t *testing.T) {
	for _, f := range slices.Concat(small(4)[:1000], functions(773, 6, 500)) {
		s := got(t, "Spectrum", f, cube.Spectrum)
		all, with := 0, make([]int, width(f))
		for m, n := range s {
			all += n * n
			for bit := range with {
				if m>>bit&1 == 1 {
					with[bit] += n * n
				}
			}
		}
		if all != len(f)*len(f) {
			t.Errorf("Spectrum of %s: %v", text(f), s)
		}
		for bit, n := range with {
			if i, e := cube.Influence(f, bit); i*len(f) != n || e != api.OK {
				t.Errorf("Influence of %s, %d: %d, %d, the spectrum is %v", text(f), bit, i, e, s)
			}
		}
	}
}

// Quine: as many primes as there are in the cover are enough.
func TestCoversOfPrimes(t *testing.T) {
	for _, f := range functions(774, 4, 300) {
		cover, primes := got(t, "Cover", f, cube.Cover), got(t, "Primes", f, cube.Primes)
		found := false
		for chosen := range 1 << len(primes) {
			var l [][2]int
			for i, p := range primes {
				if chosen>>i&1 == 1 {
					l = append(l, p)
				}
			}
			is := cube.IsCover(f, l)
			if is && len(l) < len(cover) {
				t.Errorf("Cover of %s: %v, but %v", text(f), cover, l)
			}
			found = found || is && len(l) == len(cover)
		}
		if !found {
			t.Errorf("Cover of %s: %v, and none of %v", text(f), cover, primes)
		}
	}
}

func TestMeasuresOfTwins(t *testing.T) {
	s := chance.Source(775)
	for _, f := range functions(776, 6, 300) {
		m := measured(t, f)
		for range 3 {
			if g := aTwin(&s, f); measured(t, g) != m {
				t.Errorf("%s: %v, and its twin %s: %v", text(f), m, text(g), measured(t, g))
			} else if width(f) < 5 && !slices.Equal(got(t, "Twin", f, cube.Twin), got(t, "Twin", g, cube.Twin)) {
				t.Errorf("Twin of %s and of its twin %s", text(f), text(g))
			}
		}
		if width(f) < 5 && measured(t, got(t, "Twin", f, cube.Twin)) != m {
			t.Errorf("%s: %v, and its first twin", text(f), m)
		}
	}
}
