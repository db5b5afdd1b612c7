package bars

// prime is a type that stands for a prime.
type prime interface {
	number() int
}

type (
	two   struct{}
	three struct{}
	five  struct{}
	seven struct{}
)

func (two) number() int   { return 2 }
func (three) number() int { return 3 }
func (five) number() int  { return 5 }
func (seven) number() int { return 7 }

// residue is an integer modulo the prime P, from 0 on.
type residue[P prime] int

func modulo[P prime](n int) residue[P] {
	var p P
	return residue[P](n % p.number())
}

func (x residue[P]) negative() residue[P] {
	var p P
	return modulo[P](p.number() - int(x))
}

func (x residue[P]) plus(y residue[P]) residue[P] {
	return modulo[P](int(x) + int(y))
}

func (x residue[P]) times(y residue[P]) residue[P] {
	return modulo[P](int(x) * int(y))
}

// inverse returns what makes 1 of x, which is not 0: by Fermat, its power by two less than the prime.
func (x residue[P]) inverse() residue[P] {
	var p P
	power := modulo[P](1)
	for range p.number() - 2 {
		power = power.times(x)
	}
	return power
}
