package disk

import "cadastre/api"

// picker deals picks out, one after the other.
type picker struct {
	left []int
}

// next tells the next pick, 0 where none is left.
func (p *picker) next() int {
	if len(p.left) == 0 {
		return 0
	}
	n := p.left[0]
	p.left = p.left[1:]
	return n
}

func odd(n int) bool { return n%2 != 0 }

// kept tells how many of a sector's first bytes a pick keeps as they were seen.
func kept(pick int) int {
	third, rest := divide(pick, 3)
	switch rest {
	case 0:
		return 0
	case 1:
		return api.Sector
	}
	_, k := divide(third, api.Sector+1)
	return k
}

// divide tells n / by rounded down, and the rest, which is from 0 on.
func divide(n, by int) (int, int) {
	if n%by < 0 {
		return n/by - 1, n%by + by
	}
	return n / by, n % by
}
