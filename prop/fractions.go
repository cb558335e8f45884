package prop

// Frac is a fraction.
type Frac struct{ Num, Den int }

// fraction returns a fraction in lowest terms; den is above 0.
func fraction(num, den int) Frac {
	common := commonFactor(max(num, -num), den)
	return Frac{Num: num / common, Den: den / common}
}

// commonFactor returns the greatest number that both numbers are multiples of.
func commonFactor(a, b int) int {
	for b != 0 {
		a, b = b, a%b
	}
	return a
}

func (f Frac) plus(g Frac) Frac {
	return fraction(f.Num*g.Den+g.Num*f.Den, f.Den*g.Den)
}

func (f Frac) minus(g Frac) Frac { return f.plus(Frac{Num: -g.Num, Den: g.Den}) }

// below compares whole parts and the rests beside them, since the products of
// whole numerators and denominators might leave an int.
func (f Frac) below(g Frac) bool {
	wholeF, restF := f.parts()
	wholeG, restG := g.parts()
	if wholeF != wholeG {
		return wholeF < wholeG
	}
	return restF*g.Den < restG*f.Den
}

func (f Frac) above(g Frac) bool { return g.below(f) }

// parts returns the greatest whole number that is not above a fraction, and the
// numerator of the rest.
func (f Frac) parts() (whole, rest int) {
	whole, rest = f.Num/f.Den, f.Num%f.Den
	if rest < 0 {
		whole--
		rest += f.Den
	}
	return whole, rest
}
