package parse

import "cadastre/api"

// tooLong tells whether a list of s has too many items.
func tooLong(s api.Stmt) bool {
	for _, row := range s.Rows {
		if len(row) > api.MaxCols {
			return true
		}
	}
	most := max(len(s.Cols), len(s.Names), len(s.Sets), len(s.Out), len(s.Order))
	return most > api.MaxCols || len(s.From) > api.MaxFrom
}

// tooLarge tells whether s has too many expressions, or one that is too high.
func tooLarge(s api.Stmt) bool {
	nodes, highest := size(expressions(s))
	return nodes > api.MaxNodes || highest > api.MaxDeep
}

// expressions tells those of s that are no Args.
func expressions(s api.Stmt) []api.Expr {
	var l []api.Expr
	for _, row := range s.Rows {
		l = append(l, row...)
	}
	for _, set := range s.Sets {
		l = append(l, set.E)
	}
	l = append(l, s.Out...)
	l = append(l, s.Where...)
	for _, key := range s.Order {
		l = append(l, key.E)
	}
	return l
}

// size tells how many expressions there are in those of l, with them, and how high the highest of them is.
func size(l []api.Expr) (nodes, highest int) {
	for _, e := range l {
		n, high := size(e.Args)
		nodes += n + 1
		highest = max(highest, high+1)
	}
	return nodes, highest
}
