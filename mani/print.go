package mani

import (
	"slices"
	"strconv"
	"strings"

	"fettle/api"
)

// Print writes m in its one form: a line for each Rule, and one for Default.
func Print(m api.Manifest) []byte {
	var b []byte
	for _, rule := range m.Rules {
		b = write(b, ruleWords(rule))
	}
	if len(m.Default) > 0 {
		b = write(b, slices.Concat([]string{"default"}, m.Default))
	}
	return b
}

// write tells b with a line of words behind it.
func write(b []byte, words []string) []byte {
	return append(append(b, strings.Join(words, " ")...), '\n')
}

// ruleWords tells the words of a Rule's line.
func ruleWords(rule api.Rule) []string {
	first := "rule"
	if rule.Phony {
		first = "phony"
	}
	l := slices.Concat([]string{first}, rule.Outs, []string{":"}, rule.Ins)
	if rule.Phony {
		return l
	}
	if len(rule.Order) > 0 {
		l = append(append(l, "|"), rule.Order...)
	}
	l = append(l, "=")
	for i, do := range rule.Acts {
		if i > 0 {
			l = append(l, ",")
		}
		l = append(l, actionWords(do)...)
	}
	return l
}

// actionWords tells the words of an action.
func actionWords(do []api.Do) []string {
	var l []string
	for i, d := range do {
		if i > 0 {
			l = append(l, ";")
		}
		l = append(l, doWords(d)...)
	}
	return l
}

// doWords tells the words of one Do; none of a Kind that is none.
func doWords(d api.Do) []string {
	switch d.Kind {
	case api.AText:
		return []string{"text", `"` + d.Text + `"`}
	case api.AIn:
		return []string{"in", strconv.Itoa(d.N)}
	case api.AAll:
		return []string{"all"}
	case api.AUpper:
		return []string{"upper"}
	case api.ALower:
		return []string{"lower"}
	case api.ARev:
		return []string{"rev"}
	case api.ATake:
		return []string{"take", strconv.Itoa(d.N)}
	case api.ADrop:
		return []string{"drop", strconv.Itoa(d.N)}
	case api.ATwice:
		return []string{"twice"}
	case api.AJoin:
		return []string{"join", `"` + d.Text + `"`}
	case api.AFail:
		return []string{"fail"}
	}
	return nil
}
