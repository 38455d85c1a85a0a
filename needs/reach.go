package needs

// reach marks a body as reached, and all that can be reached from it.
func (b *body) reach() {
	if b.reached {
		return
	}
	b.reached = true
	for _, p := range b.procs {
		p.gives.reached = append(p.gives.reached, p)
		p.gives.look()
	}
	for _, v := range b.calls {
		v.stand()
	}
	for _, v := range b.uses {
		v.stand()
	}
}

// stand takes note that a variable is called or used in a body that is reached.
func (v *binding) stand() {
	v.stands = true
	v.look()
}

// look reaches a variable's procedures, if what has been reached so far is enough for that.
func (v *binding) look() {
	// Whoever else knows a variable that no `local` binds may call it. Two procs of one variable are
	// unified with each other.
	if v.isLocal && !v.stands && len(v.reached) < 2 {
		return
	}
	for _, p := range v.reached {
		p.reach()
	}
}
