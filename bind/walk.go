package bind

import "cadastre/api"

// walk binds the expressions of s, each list from left to right, and tells the first error: that ends it. A kind of statement has not all of the lists.
func (l scope) walk(s *api.Stmt) api.Errno {
	fault := api.OK
	grouped := isGrouped(*s)
	for i := range s.Sets {
		if fault = l.expr(&s.Sets[i].E, false); fault != api.OK {
			goto end
		}
	}
	for i := range s.Out {
		if fault = l.expr(&s.Out[i], grouped); fault != api.OK {
			goto end
		}
	}
	for i := range s.Where {
		if fault = l.expr(&s.Where[i], false); fault != api.OK {
			goto end
		}
	}
	for i := range s.Order {
		if fault = l.expr(&s.Order[i].E, false); fault != api.OK {
			goto end
		}
	}
end:
	return fault
}

// isGrouped tells whether aggregates may be Out of s.
func isGrouped(s api.Stmt) bool {
	for _, e := range s.Out {
		if !isAggregate(e.Op) {
			return false
		}
	}
	return len(s.Order) == 0
}

// expr binds e behind its Args; aggregate tells whether it may be one.
func (l scope) expr(e *api.Expr, aggregate bool) api.Errno {
	fault := api.OK
	for i := range e.Args {
		if fault = l.expr(&e.Args[i], false); fault != api.OK {
			goto end
		}
	}
	switch {
	case isColumn(e.Op):
		*e, fault = l.column(*e)
	case isAggregate(e.Op) && !aggregate:
		fault = api.ErrForm
	}
end:
	return fault
}
