package sponge

// Permute stirs a state.
func (s *Sponge) Permute(l []int) []int { return s.changed(l, s.permuted) }

// Unpermute gives the state that becomes this one.
func (s *Sponge) Unpermute(l []int) []int { return s.changed(l, s.unpermuted) }

// Mix gives a state times the matrix.
func (s *Sponge) Mix(l []int) []int { return s.changed(l, s.mixed) }

// changed gives what becomes of a list if it is a state, and else nothing.
func (s *Sponge) changed(l []int, change func(state) state) []int {
	if len(l) != width {
		return nil
	}
	var a state
	for i, n := range l {
		a[i] = s.f.Of(n)
	}
	a = change(a)
	return a[:]
}

func (s *Sponge) permuted(a state) state {
	for r := range rounds {
		for i := range width {
			a[i] = s.f.Pow(a[i]+s.constants[r][i], s.power)
		}
		a = s.mixed(a)
	}
	return a
}

// unpermuted does what permuted does, from the end on, and the other way about.
func (s *Sponge) unpermuted(a state) state {
	for k := range rounds {
		r := rounds - 1 - k
		a = s.unmixed(a)
		for i := range width {
			a[i] = s.f.Sub(s.f.Pow(a[i], s.root), s.constants[r][i])
		}
	}
	return a
}

func (s *Sponge) mixed(a state) (out state) {
	for i := range width {
		sum := 0
		for j := range width {
			// All three are elements: a product of two and one more fit in an int.
			sum = s.f.Of(sum + s.matrix[i][j]*a[j])
		}
		out[i] = sum
	}
	return out
}

// unmixed gives the state of which mixed makes this one.
func (s *Sponge) unmixed(a state) state {
	// The matrix is one of Cauchy's: Inv of what stands for its row plus what stands for its column.
	// Such a one is undone by itself, if each of its rows and columns is multiplied by a weight.
	return s.weighted(s.mixed(s.weighted(a)))
}

// weighted gives a state with each place multiplied by its weight.
func (s *Sponge) weighted(a state) state {
	for i := range width {
		a[i] = s.f.Mul(a[i], s.weights[i])
	}
	return a
}
