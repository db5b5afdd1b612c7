package bars

// follow returns the bars of a complex in no order, or reports that p is no prime of those that there are.
func follow(c [][]int, shades []int, p int) ([]Bar, bool) {
	switch p {
	case 2:
		return followModulo[two](c, shades), true
	case 3:
		return followModulo[three](c, shades), true
	case 5:
		return followModulo[five](c, shades), true
	case 7:
		return followModulo[seven](c, shades), true
	}
	return nil, false
}

// column is a chain: a number for each face, in the order in which they come, up to the last one that it has.
type column[P prime] []residue[P]

// picture is the faces that have come so far.
type picture[P prime] struct {
	place   map[int]int // of each face, by its vertices
	bars    []Bar       // that each face has opened; it has none, or one that ends where it begins, if it has opened none
	columns []column[P] // that end with each face, by 1, and are boundaries; nil as long as there are none
}

func followModulo[P prime](c [][]int, shades []int) []Bar {
	p := picture[P]{place: map[int]int{}}
	for shade, face := range byShade(c, shades) {
		p.add(face, shade)
	}
	var out []Bar
	for _, b := range p.bars {
		if isBar(b) {
			out = append(out, b)
		}
	}
	return out
}

// add adds a face: it opens a hole if its boundary was one before, or closes the last hole that its boundary is a sum of.
func (p *picture[P]) add(face []int, shade int) {
	bar := open(len(face)-1, shade)
	if rest := p.reduce(p.boundary(face)); len(rest) > 0 {
		last := len(rest) - 1
		p.columns[last] = rest
		p.bars[last].Open, p.bars[last].Death = false, shade
		bar = Bar{}
	}
	p.place[setOf(face)] = len(p.bars)
	p.bars = append(p.bars, bar)
	p.columns = append(p.columns, nil)
}

// boundary returns the boundary of the face that comes next.
func (p *picture[P]) boundary(face []int) column[P] {
	out := make(column[P], len(p.bars))
	if len(face) == 1 {
		return out
	}
	sign := modulo[P](1)
	for _, v := range face {
		out[p.place[setOf(face)&^(1<<v)]] = sign
		sign = sign.negative()
	}
	return out
}

// reduce takes boundaries away from a chain, until nothing is left, or a chain that ends with a face, by 1, with which none of them ends.
func (p *picture[P]) reduce(chain column[P]) column[P] {
	for last := len(chain) - 1; last >= 0; last-- {
		switch {
		case chain[last] == 0:
		case p.columns[last] == nil:
			chain = chain[:last+1]
			chain.multiply(chain[last].inverse())
			return chain
		default:
			chain.add(chain[last].negative(), p.columns[last])
		}
	}
	return nil
}

func (c column[P]) multiply(factor residue[P]) {
	for i, x := range c {
		c[i] = x.times(factor)
	}
}

// add adds a multiple of another chain that is not longer.
func (c column[P]) add(factor residue[P], other column[P]) {
	for i, x := range other {
		c[i] = c[i].plus(factor.times(x))
	}
}
