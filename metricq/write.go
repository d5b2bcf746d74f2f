package metricq

import (
	"strings"

	"belfry/api"
	"belfry/attr"
	"belfry/fixed"
	"belfry/scan"
)

// operators are the signs between two parts, in the order of their numbers, which begin with OAdd.
const operators = "+-*/"

const comma = ", "

// text tells the text of nodes, each of which has as its parts the last ones ahead of it that are no other's. Of nodes that do not make one query it is empty; of others that are not as Parse tells them it is the text of some other query, or of none.
func text(l []api.Node) string {
	var parts []string
	for _, n := range l {
		left := len(parts) - arity(n.Kind)
		if left < 0 {
			return ""
		}
		parts = append(parts[:left], nodeText(n, parts[left:]))
	}
	if len(parts) != 1 {
		return ""
	}
	return parts[0]
}

// arity tells how many parts a node of a kind has.
func arity(kind int) int {
	switch kind {
	case api.NAgg, api.NCall, api.NNeg, api.NParen:
		return 1
	case api.NBinary:
		return 2
	}
	return 0
}

// nodeText tells the text of a node with those of its parts.
func nodeText(n api.Node, parts []string) string {
	switch n.Kind {
	case api.NNumber:
		return fixed.Text(n.V)
	case api.NSelect:
		return selectText(n)
	case api.NAgg:
		return n.Name + byText(n.By) + "(" + parts[0] + ")"
	case api.NCall:
		return n.Name + "(" + parts[0] + ")"
	case api.NBinary:
		return parts[0] + " " + operatorText(n.Op) + " " + parts[1]
	case api.NNeg:
		return "-" + parts[0]
	case api.NParen:
		return "(" + parts[0] + ")"
	}
	return ""
}

func selectText(n api.Node) string {
	s := nameText(n.Name)
	if len(n.Match) > 0 {
		s += attr.MatchText(n.Match)
	}
	if n.Range != 0 {
		span, _ := Span(n.Range)
		s += "[" + span + "]"
	}
	return s
}

func nameText(name string) string {
	if name != "" && scan.Word(name) == len(name) && meaning(name) == api.NSelect {
		return name
	}
	return attr.Quote(name)
}

func byText(keys []string) string {
	if len(keys) == 0 {
		return ""
	}
	return " " + by + " (" + strings.Join(keys, comma) + ") "
}

func operatorText(op int) string {
	if op < api.OAdd || op > api.ODiv {
		return ""
	}
	return operators[op-api.OAdd : op-api.OAdd+1]
}
