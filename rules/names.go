package rules

import "glossary/api"

const (
	usualStrength = 3 // where a file says nothing else
	mostStrength  = 5
	sameLevel     = 4 // the last one
)

// signs are those of relations, by their levels.
var signs = [...]string{1: "<", 2: "<<", 3: "<<<", sameLevel: "="}

// anchors are the options that tell them.
var anchors = [...]string{api.AIgnored: "ignored", api.AFirst: "first", api.ALast: "last"}

// levelOf is the level that a sign says; 0, if it says none.
func levelOf(sign string) int {
	for level, s := range signs {
		if s == sign {
			return level
		}
	}
	return 0
}

// anchorOf is the anchor that an option tells; api.ANone, if it tells none.
func anchorOf(option string) int {
	for anchor, s := range anchors {
		if s == option {
			return anchor
		}
	}
	return api.ANone
}
