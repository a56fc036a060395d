package rules

import "glossary/api"

// check gives up the first thing that is wrong with rules.
func check(r api.Rules) {
	switch {
	case r.Options.Strength < 1 || r.Options.Strength > mostStrength:
		panic(api.ErrOption)
	case len(r.Items)+len(r.Variable) > api.MaxRules:
		panic(api.ErrMany)
	}
	reset := false
	for _, x := range r.Items {
		switch x.Kind {
		case api.RReset:
			checkReset(x)
			reset = true
		case api.RRelation:
			checkRelation(x, reset)
		default:
			panic(api.ErrForm)
		}
	}
}

// checkReset gives up what is wrong with a reset.
func checkReset(x api.Rule) {
	switch {
	case x.Anchor < 0 || x.Anchor >= len(anchors):
		panic(api.ErrForm)
	case x.Level != 0 || x.Extend != "":
		panic(api.ErrForm)
	case x.Anchor != api.ANone && (x.Before || x.Text != ""):
		panic(api.ErrForm)
	}
}

// checkRelation gives up what is wrong with a relation; reset tells whether one is ahead.
func checkRelation(x api.Rule, reset bool) {
	switch {
	case !reset:
		panic(api.ErrReset)
	case x.Level < 1 || x.Level >= len(signs):
		panic(api.ErrLevel)
	case x.Before || x.Anchor != api.ANone:
		panic(api.ErrForm)
	}
}
