package mark

// integer is an integer: its size and, if it is below 0, its sign.
type integer struct {
	negative bool
	size     natural
}

// signed returns the integer of a size; 0 has no sign.
func signed(negative bool, size natural) integer {
	return integer{negative && len(size) > 0, size}
}

func (a integer) negated() integer {
	return signed(!a.negative, a.size)
}

func (a integer) plus(b integer) integer {
	if a.negative == b.negative {
		return signed(a.negative, a.size.plus(b.size))
	}
	if a.size.compare(b.size) < 0 {
		a, b = b, a
	}
	return signed(a.negative, a.size.minus(b.size))
}

func (a integer) minus(b integer) integer {
	return a.plus(b.negated())
}

func (a integer) times(b integer) integer {
	return signed(a.negative != b.negative, a.size.times(b.size))
}

func (a integer) timesNatural(n natural) integer {
	return signed(a.negative, a.size.times(n))
}

// sign returns -1, 0 or 1.
func (a integer) sign() int {
	switch {
	case a.negative:
		return -1
	case len(a.size) == 0:
		return 0
	}
	return 1
}
