package names

// scope: the names that are used within something, each with the least place where one stands, and the scope around it.
type scope struct {
	uses   map[string]int
	around *scope
}

func (s *scope) use(name string, at int) {
	if least, ok := s.uses[name]; ok && least <= at {
		return
	}
	if s.uses == nil {
		s.uses = map[string]int{}
	}
	s.uses[name] = at
}

// leave: the scope around it, which uses what this one uses and does not bind.
func (s *scope) leave(binds []string) *scope {
	for _, name := range binds {
		delete(s.uses, name)
	}
	to := s.around
	// The lesser map goes into the greater one: else names would be moved once for each scope around them.
	if len(to.uses) < len(s.uses) {
		to.uses, s.uses = s.uses, to.uses
	}
	for name, at := range s.uses {
		to.use(name, at)
	}
	return to
}
