package tests

import (
	"fmt"
	"maps"
	"math"
	"slices"
	"strings"
	"testing"

	"loop.example/g00633/impl"
)

// A second reckoning of the chapter, by that of the chapters ahead of it.

// ruleText goes, of names, in the order of Kind, then Field: no name has a byte 0.
func ruleText(kind, field string) string {
	return kind + "\x00" + field
}

func textOfRule(r impl.Rule) string {
	return ruleText(r.Kind, r.Field)
}

func isRightRule(r impl.Rule) bool {
	return nameForm.MatchString(r.Kind) && nameForm.MatchString(r.Field) && 0 <= r.Least && r.Least <= r.Most && r.Most <= 1000000
}

// ordered is the policy that has of these rules the last one of each Kind and
// Field, and each of these rows once.
func ordered(rules []impl.Rule, held []int64) impl.Policy {
	last, rows := map[string]impl.Rule{}, map[int64]int{}
	for _, r := range rules {
		last[textOfRule(r)] = r
	}
	for _, row := range held {
		rows[row]++
	}
	p := impl.Policy{Held: slices.Sorted(maps.Keys(rows))}
	for _, text := range slices.Sorted(maps.Keys(last)) {
		p.Rules = append(p.Rules, last[text])
	}
	return p
}

func isRightPolicy(p impl.Policy) bool {
	right := len(p.Rules) < 7 && len(p.Held) < 7
	for _, r := range p.Rules {
		right = right && isRightRule(r)
	}
	for _, row := range p.Held {
		right = right && 0 <= row && row <= 5
	}
	return right && samePolicy(p, ordered(p.Rules, p.Held))
}

func rulePutIn(p impl.Policy, r impl.Rule) impl.PolicyOut {
	if !isRightPolicy(p) || !isRightRule(r) {
		return impl.PolicyOut{Code: impl.ErrForm}
	}
	out := ordered(append(slices.Clone(p.Rules), r), p.Held)
	if len(out.Rules) > 6 {
		return impl.PolicyOut{Code: impl.ErrFull}
	}
	return impl.PolicyOut{Policy: out}
}

// otherRules has all but that of a Kind and Field.
func otherRules(p impl.Policy, kind, field string) []impl.Rule {
	return slices.DeleteFunc(slices.Clone(p.Rules), func(r impl.Rule) bool { return r.Kind == kind && r.Field == field })
}

func otherHeld(p impl.Policy, row int64) []int64 {
	return slices.DeleteFunc(slices.Clone(p.Held), func(held int64) bool { return held == row })
}

func ruleDropIn(p impl.Policy, kind, field string) impl.PolicyOut {
	others := otherRules(p, kind, field)
	switch {
	case len(kind) > 8000 || len(field) > 8000:
		return impl.PolicyOut{Code: impl.ErrSize}
	case !isRightPolicy(p):
		return impl.PolicyOut{Code: impl.ErrForm}
	case len(others) == len(p.Rules):
		return impl.PolicyOut{Code: impl.ErrNone}
	}
	return impl.PolicyOut{Policy: impl.Policy{Rules: others, Held: p.Held}}
}

func holdIn(p impl.Policy, row int64) impl.PolicyOut {
	switch {
	case !isRightPolicy(p) || row < 0 || row > 5:
		return impl.PolicyOut{Code: impl.ErrForm}
	case slices.Contains(p.Held, row):
		return impl.PolicyOut{Code: impl.ErrThere}
	}
	return impl.PolicyOut{Policy: ordered(p.Rules, append(slices.Clone(p.Held), row))}
}

func freeIn(p impl.Policy, row int64) impl.PolicyOut {
	switch {
	case !isRightPolicy(p) || row < 0 || row > 5:
		return impl.PolicyOut{Code: impl.ErrForm}
	case !slices.Contains(p.Held, row):
		return impl.PolicyOut{Code: impl.ErrNone}
	}
	return impl.PolicyOut{Policy: impl.Policy{Rules: p.Rules, Held: otherHeld(p, row)}}
}

// duesIn goes from rule to rule.
func duesIn(l impl.Log, p impl.Policy) []impl.Due {
	if !isRightLog(l) || !isRightPolicy(p) {
		return nil
	}
	told := map[string]impl.Due{}
	for _, rule := range p.Rules {
		for i, r := range l.Rows {
			for j, f := range r.Fields {
				end := r.At + rule.Most
				if r.Kind == rule.Kind && f.Name == rule.Field && !f.Gone && end <= l.Now && !slices.Contains(p.Held, int64(i)) {
					told[fmt.Sprintf("%07d %d %d", end, i, j)] = impl.Due{Row: int64(i), Field: int64(j), At: end}
				}
			}
		}
	}
	var out []impl.Due
	for _, text := range slices.Sorted(maps.Keys(told)) {
		out = append(out, told[text])
	}
	return out
}

// mustStay tells whether a rule asks that a field that is there is kept.
func mustStay(l impl.Log, p impl.Policy, row, field int64) bool {
	r := l.Rows[row]
	return slices.ContainsFunc(p.Rules, func(rule impl.Rule) bool {
		return rule.Kind == r.Kind && rule.Field == r.Fields[field].Name && r.At+rule.Least > l.Now
	})
}

func mayIn(l impl.Log, p impl.Policy, row, field int64) int64 {
	if !isRightLog(l) || !isRightPolicy(p) {
		return impl.ErrForm
	}
	switch statusIn(l, row, field) {
	case impl.StNone:
		return impl.ErrNone
	case impl.StErased:
		return impl.ErrThere
	}
	switch {
	case slices.Contains(p.Held, row):
		return impl.ErrHeld
	case mustStay(l, p, row, field):
		return impl.ErrRange
	}
	return impl.OK
}

func askIn(l impl.Log, p impl.Policy, row, field int64) impl.SweepOut {
	if code := mayIn(l, p, row, field); code != impl.OK {
		return impl.SweepOut{Code: code}
	}
	return impl.SweepOut{Log: withGone(l, int(row), int(field), 1), Count: 1}
}

func sweepIn(l impl.Log, p impl.Policy, budget int64) impl.SweepOut {
	if !isRightLog(l) || !isRightPolicy(p) || budget < 0 || budget > 100 {
		return impl.SweepOut{Code: impl.ErrForm}
	}
	out := impl.SweepOut{Log: l}
	for _, due := range duesIn(l, p) {
		if out.Count < budget {
			out.Log = withGone(out.Log, int(due.Row), int(due.Field), 2)
			out.Count++
		}
	}
	return out
}

func samePolicy(a, b impl.Policy) bool {
	return slices.Equal(a.Rules, b.Rules) && slices.Equal(a.Held, b.Held)
}

func wantPolicy(t *testing.T, what string, got, want impl.PolicyOut) {
	t.Helper()
	if got.Code != want.Code || !samePolicy(got.Policy, want.Policy) {
		t.Errorf("%s: got code %d and %s, want %d and %s", what, got.Code, asText(got.Policy), want.Code, asText(want.Policy))
	}
}

func wantPolicyCode(t *testing.T, what string, got impl.PolicyOut, code int64) {
	t.Helper()
	wantPolicy(t, what, got, impl.PolicyOut{Code: code})
}

func wantPolicyRight(t *testing.T, what string, p impl.Policy, want bool) {
	t.Helper()
	if got := impl.PolicyRight(p); got != want {
		t.Errorf("%s: PolicyRight is %t of %s", what, got, asText(p))
	}
}

func wantDues(t *testing.T, what string, got, want []impl.Due) {
	t.Helper()
	if !slices.Equal(got, want) {
		t.Errorf("%s: got %+v, want %+v", what, got, want)
	}
}

func wantSwept(t *testing.T, what string, got, want impl.SweepOut) {
	t.Helper()
	if got.Code != want.Code || got.Count != want.Count || !sameLog(got.Log, want.Log) {
		t.Errorf("%s: got code %d, Count %d and %s, want %d, %d and %s",
			what, got.Code, got.Count, asText(got.Log), want.Code, want.Count, asText(want.Log))
	}
}

func wantSweptCode(t *testing.T, what string, got impl.SweepOut, code int64) {
	t.Helper()
	wantSwept(t, what, got, impl.SweepOut{Code: code})
}

// Policies.

func ruleOf(kind, field string, least, most int64) impl.Rule {
	return impl.Rule{Kind: kind, Field: field, Least: least, Most: most}
}

func policyOf(rules ...impl.Rule) impl.Policy {
	return impl.Policy{Rules: rules}
}

func holding(p impl.Policy, held ...int64) impl.Policy {
	return impl.Policy{Rules: p.Rules, Held: held}
}

func withRules(p impl.Policy, rules ...impl.Rule) impl.Policy {
	return impl.Policy{Rules: rules, Held: p.Held}
}

// risingRules: Kinds and Fields of which one begins the other, or of which both
// together are the same text.
func risingRules() []impl.Rule {
	return []impl.Rule{
		ruleOf("a", "bc", 0, 0), ruleOf("a", "c", 1, 1), ruleOf("a", "c0", 0, impl.MaxTime), ruleOf("a", "c_", impl.MaxTime, impl.MaxTime),
		ruleOf("a", "ca", 5, 6), ruleOf("a", "z", 0, 1), ruleOf("a0", "c", 3, 9), ruleOf("a_", "a", 0, 63), ruleOf("ab", "a", 2, 2),
		ruleOf("ab", "c", 7, 8), ruleOf("b", "a", 1, 8192), ruleOf("b", strings.Repeat("m", 20), 64, 64), ruleOf(strings.Repeat("m", 20), "b", 0, 2),
	}
}

// fullPolicy has MaxRules Rules, and all rows Held but the row 2.
func fullPolicy() impl.Policy {
	all := risingRules()
	return holding(policyOf(all[0], all[2], all[4], all[6], all[8], all[10]), 0, 1, 3, 4, 5)
}

func rightPolicies() []impl.Policy {
	all := risingRules()
	out := []impl.Policy{{}, {Rules: []impl.Rule{}, Held: []int64{}}, fullPolicy(), holding(impl.Policy{}, 0, 1, 2, 3, 4, 5), holding(impl.Policy{}, 0), holding(impl.Policy{}, 5)}
	for from := range all {
		for size := 0; size <= impl.MaxRules && from+size <= len(all); size++ {
			var held []int64
			for row := range int64(impl.MaxRows) {
				if (from+size)>>row&1 == 1 {
					held = append(held, row)
				}
			}
			out = append(out, holding(policyOf(all[from:from+size]...), held...))
		}
	}
	return out
}

// wrongRules has what a Rule is with one fault.
func wrongRules() []impl.Rule {
	var out []impl.Rule
	for _, name := range append(wrongNames(), strings.Repeat("n", impl.MaxBytes+1)) {
		out = append(out, ruleOf(name, "c", 1, 2), ruleOf("a", name, 1, 2))
	}
	for _, at := range wrongTimes() {
		out = append(out, ruleOf("a", "c", at, at), ruleOf("a", "c", at, impl.MaxTime), ruleOf("a", "c", 0, at))
	}
	for _, most := range []int64{0, 1, 5, impl.MaxTime - 1} {
		out = append(out, ruleOf("a", "c", most+1, most), ruleOf("a", "c", impl.MaxTime, most))
	}
	return append(out, ruleOf("a", "c", impl.MaxTime+1, impl.MaxTime), ruleOf("a", "c", -1, 0), ruleOf("a", "c", -1, -1), impl.Rule{})
}

func wrongHeld() [][]int64 {
	out := [][]int64{
		{1, 0}, {0, 0}, {5, 5}, {0, 2, 1}, {0, 1, 1}, {0, 1, 2, 2, 3}, {5, 4, 3, 2, 1, 0}, {0, 1, 2, 3, 5, 4}, {1, 2, 0},
		{0, 1, 2, 3, 4, 5, 5}, {0, 1, 2, 3, 4, 5, 6}, {-1, 0, 1, 2, 3, 4, 5}, {0, 0, 1, 2, 3, 4, 5}, {6}, {-1}, {-1, 0}, {4, 6}, {0, 6, 1}, {0, -1, 1},
	}
	for _, row := range wrongHeldRows() {
		out = append(out, []int64{row}, []int64{0, row}, []int64{row, 5})
	}
	return append(out, make([]int64, 1000))
}

// wrongHeldRows: some of them are right ones when they are cut to fewer bits.
func wrongHeldRows() []int64 {
	return []int64{-1, impl.MaxRows, impl.MaxRows + 1, 63, -impl.MaxRows, 256, 1 << 32, 1<<32 + 3, math.MinInt64, math.MinInt64 + 2, math.MaxInt64}
}

type namedPolicy struct {
	what   string
	policy impl.Policy
}

// wrongOrders: Rules out of order, and two of one Kind and Field.
func wrongOrders() []namedPolicy {
	var out []namedPolicy
	all := risingRules()
	for i := range all[1:] {
		out = append(out, namedPolicy{fmt.Sprintf("rule %d behind the next", i), policyOf(all[i+1], all[i])},
			namedPolicy{fmt.Sprintf("rule %d twice", i), policyOf(all[i], all[i])},
			namedPolicy{fmt.Sprintf("rule %d behind others", i), policyOf(all[max(0, i-1)], all[i+1], all[i])})
	}
	full := fullPolicy()
	for i, r := range full.Rules {
		again := ruleOf(r.Kind, r.Field, 0, impl.MaxTime)
		out = append(out, namedPolicy{fmt.Sprintf("rule %d again, otherwise", i), withRules(full, slices.Insert(slices.Clone(full.Rules[:i+1]), i, again)...)},
			namedPolicy{fmt.Sprintf("rule %d in place of the last", i), withRules(full, append(slices.Clone(full.Rules[:5]), r)...)})
		if i < 5 {
			out = append(out, namedPolicy{fmt.Sprintf("rule %d in place of the next", i), withRules(full, slices.Replace(slices.Clone(full.Rules), i+1, i+2, r)...)})
		}
	}
	reversed := slices.Clone(full.Rules)
	slices.Reverse(reversed)
	return slices.DeleteFunc(append(out, namedPolicy{"the other way round", withRules(full, reversed...)}),
		func(n namedPolicy) bool { return slices.Equal(n.policy.Rules, full.Rules) })
}

func wrongPolicies() []namedPolicy {
	out := wrongOrders()
	all := risingRules()
	for i, r := range wrongRules() {
		out = append(out, namedPolicy{fmt.Sprintf("wrong rule %d alone", i), policyOf(r)},
			namedPolicy{fmt.Sprintf("wrong rule %d among others", i), ordered([]impl.Rule{all[0], r, all[9]}, []int64{1})},
			namedPolicy{fmt.Sprintf("wrong rule %d behind others", i), policyOf(all[0], all[1], r)})
	}
	for _, held := range wrongHeld() {
		out = append(out, namedPolicy{fmt.Sprintf("Held %.60v", held), impl.Policy{Held: held}},
			namedPolicy{fmt.Sprintf("rules, and Held %.60v", held), holding(fullPolicy(), held...)})
	}
	for size := impl.MaxRules + 1; size <= len(all); size++ {
		out = append(out, namedPolicy{fmt.Sprintf("%d rules", size), policyOf(all[:size]...)}, namedPolicy{fmt.Sprintf("the last %d rules", size), policyOf(all[len(all)-size:]...)})
	}
	return append(out, namedPolicy{"very many rules", policyOf(slices.Repeat(all, 1000)...)})
}

func TestKeepConstants(t *testing.T) {
	if impl.MaxRules != 6 {
		t.Error("a constant is not the document's")
	}
}

func TestRightPolicies(t *testing.T) {
	for i, p := range rightPolicies() {
		if !isRightPolicy(p) {
			t.Errorf("policy %d: the second reckoning takes it for wrong", i)
		}
		wantPolicyRight(t, fmt.Sprintf("policy %d", i), p, true)
	}
	for _, name := range rightNames() {
		wantPolicyRight(t, "a Kind of "+name, policyOf(ruleOf(name, "c", 0, 0)), true)
		wantPolicyRight(t, "a Field of "+name, policyOf(ruleOf("a", name, 0, 0)), true)
	}
}

func TestWrongPolicies(t *testing.T) {
	for _, wrong := range wrongPolicies() {
		if isRightPolicy(wrong.policy) {
			t.Errorf("%s: the second reckoning takes it for right", wrong.what)
		}
		wantPolicyRight(t, wrong.what, wrong.policy, false)
	}
}

func spans() []int64 {
	return []int64{-1, 0, 1, 2, 63, 64, impl.MaxTime - 1, impl.MaxTime, impl.MaxTime + 1, -impl.MaxTime, 1 << 32, 1<<32 + 1, math.MinInt64, math.MaxInt64}
}

func TestPolicyRightOfEachLeastAndMost(t *testing.T) {
	for _, least := range spans() {
		for _, most := range append(spans(), least-1, least, least+1) {
			r := ruleOf("a", "c", least, most)
			what, want := fmt.Sprintf("Least %d, Most %d", least, most), 0 <= least && least <= most && most <= 1000000
			wantPolicyRight(t, what, policyOf(r), want)
			wantPolicyRight(t, what+", behind another one", policyOf(ruleOf("a", "b", 0, 0), r), want)
			put := impl.PolicyOut{Code: impl.ErrForm}
			if want {
				put = impl.PolicyOut{Policy: policyOf(r)}
			}
			wantPolicy(t, what, impl.RulePut(impl.Policy{}, r), put)
		}
	}
}

// Each choice of the rows that may be held, in each order of up to three.
func TestPolicyRightOfEachHeld(t *testing.T) {
	for choice := range 1 << impl.MaxRows {
		var held []int64
		for row := range int64(impl.MaxRows) {
			if choice>>row&1 == 1 {
				held = append(held, row)
			}
		}
		wantPolicyRight(t, fmt.Sprintf("Held %v", held), impl.Policy{Held: held}, true)
		wantPolicyRight(t, fmt.Sprintf("rules, and Held %v", held), holding(fullPolicy(), held...), true)
	}
	for a := int64(-2); a < 8; a++ {
		for b := int64(-2); b < 8; b++ {
			wantPolicyRight(t, fmt.Sprintf("Held %d %d", a, b), impl.Policy{Held: []int64{a, b}}, 0 <= a && a < b && b < 6)
			for c := int64(-2); c < 8; c++ {
				wantPolicyRight(t, fmt.Sprintf("Held %d %d %d", a, b, c), impl.Policy{Held: []int64{a, b, c}}, 0 <= a && a < b && b < c && c < 6)
			}
		}
	}
}

// Each two and three of some rules, in each order.
func TestPolicyRightOfEachOrder(t *testing.T) {
	all := risingRules()
	for i, a := range all {
		for j, b := range all {
			wantPolicyRight(t, fmt.Sprintf("rules %d %d", i, j), policyOf(a, b), i < j)
			for k, c := range all {
				wantPolicyRight(t, fmt.Sprintf("rules %d %d %d", i, j, k), policyOf(a, b, c), i < j && j < k)
			}
		}
	}
	full := fullPolicy()
	for _, order := range orders(impl.MaxRules) {
		var rules []impl.Rule
		for _, which := range order {
			rules = append(rules, full.Rules[which])
		}
		wantPolicyRight(t, fmt.Sprintf("rules %v", order), withRules(full, rules...), slices.IsSorted(order))
	}
}

// Rules are put and dropped.

func TestRulePutOfManyPolicies(t *testing.T) {
	for i, p := range rightPolicies() {
		for j, r := range append(risingRules(), ruleOf("a", "c", 8, 9), ruleOf("b", "a", 0, impl.MaxTime), ruleOf("zz", "zz", 0, 0)) {
			wantPolicy(t, fmt.Sprintf("policy %d, rule %d", i, j), impl.RulePut(p, r), rulePutIn(p, r))
		}
	}
}

func TestRulePutByHand(t *testing.T) {
	first, second, third := ruleOf("note", "text", 0, 5), ruleOf("user", "age", 9, 9), ruleOf("user", "name", 2, 4)
	p := holding(policyOf(first, third), 1, 4)
	wantPolicy(t, "between", impl.RulePut(p, second), impl.PolicyOut{Policy: holding(policyOf(first, second, third), 1, 4)})
	wantPolicy(t, "the first", impl.RulePut(impl.Policy{}, second), impl.PolicyOut{Policy: policyOf(second)})
	other := ruleOf("user", "name", 0, impl.MaxTime)
	wantPolicy(t, "in place of one", impl.RulePut(p, other), impl.PolicyOut{Policy: holding(policyOf(first, other), 1, 4)})
	wantPolicy(t, "the same again", impl.RulePut(p, third), impl.PolicyOut{Policy: p})
	wantPolicy(t, "ahead of all", impl.RulePut(p, ruleOf("a", "z", 1, 1)), impl.PolicyOut{Policy: holding(policyOf(ruleOf("a", "z", 1, 1), first, third), 1, 4)})
	wantPolicy(t, "behind all", impl.RulePut(p, ruleOf("user", "name0", 1, 1)), impl.PolicyOut{Policy: holding(policyOf(first, third, ruleOf("user", "name0", 1, 1)), 1, 4)})
}

func TestRulePutUpToTheLast(t *testing.T) {
	all := risingRules()
	for _, order := range [][]int{{0, 1, 2, 3, 4, 5}, {5, 4, 3, 2, 1, 0}, {3, 0, 5, 1, 4, 2}} {
		var p impl.Policy
		for _, which := range order {
			got := impl.RulePut(p, all[2*which])
			wantPolicy(t, "one more", got, rulePutIn(p, all[2*which]))
			p = got.Policy
		}
		wantNumber(t, "how many", int64(len(p.Rules)), impl.MaxRules)
		for i, r := range all {
			if i%2 == 1 || i == 12 {
				wantPolicyCode(t, "one too many", impl.RulePut(p, r), impl.ErrFull)
			}
		}
		for i, r := range p.Rules {
			other := ruleOf(r.Kind, r.Field, 77, 78)
			want := slices.Clone(p.Rules)
			want[i] = other
			wantPolicy(t, "in place of one, where it is full", impl.RulePut(p, other), impl.PolicyOut{Policy: withRules(p, want...)})
			wantPolicy(t, "one that goes makes room", impl.RulePut(impl.RuleDrop(p, r.Kind, r.Field).Policy, all[12]), rulePutIn(withRules(p, otherRules(p, r.Kind, r.Field)...), all[12]))
		}
		// Both faults at once: what is named first is told.
		for i, r := range wrongRules() {
			wantPolicyCode(t, fmt.Sprintf("a full one, and the wrong rule %d", i), impl.RulePut(p, r), impl.ErrForm)
		}
	}
}

func TestRulePutOfWrongRules(t *testing.T) {
	for i, r := range wrongRules() {
		if isRightRule(r) {
			t.Errorf("rule %d: the second reckoning takes it for right", i)
		}
		for _, p := range []impl.Policy{{}, holding(impl.Policy{}, 3), policyOf(ruleOf("a", "c", 1, 2)), policyOf(ruleOf("b", "a", 0, 0))} {
			wantPolicyCode(t, fmt.Sprintf("wrong rule %d", i), impl.RulePut(p, r), impl.ErrForm)
		}
	}
}

func TestRuleDropOfManyPolicies(t *testing.T) {
	for i, p := range rightPolicies() {
		for j, r := range append(risingRules(), ruleOf("zz", "c", 0, 0), ruleOf("c", "a", 0, 0), ruleOf("", "", 0, 0), ruleOf("abc", "", 0, 0), ruleOf("", "abc", 0, 0)) {
			wantPolicy(t, fmt.Sprintf("policy %d, rule %d", i, j), impl.RuleDrop(p, r.Kind, r.Field), ruleDropIn(p, r.Kind, r.Field))
		}
	}
	p := holding(policyOf(ruleOf("a", "b", 1, 2), ruleOf("a", "c", 3, 4)), 2)
	wantPolicy(t, "the first", impl.RuleDrop(p, "a", "b"), impl.PolicyOut{Policy: holding(policyOf(ruleOf("a", "c", 3, 4)), 2)})
	wantPolicy(t, "the last", impl.RuleDrop(p, "a", "c"), impl.PolicyOut{Policy: holding(policyOf(ruleOf("a", "b", 1, 2)), 2)})
	wantPolicy(t, "the only one", impl.RuleDrop(policyOf(ruleOf("a", "b", 1, 2)), "a", "b"), impl.PolicyOut{})
	wantPolicyCode(t, "the Field for the Kind", impl.RuleDrop(p, "b", "a"), impl.ErrNone)
	wantPolicyCode(t, "another Field", impl.RuleDrop(p, "a", "a"), impl.ErrNone)
	wantPolicyCode(t, "another Kind", impl.RuleDrop(p, "aa", "b"), impl.ErrNone)
	wantPolicyCode(t, "of none", impl.RuleDrop(impl.Policy{}, "a", "b"), impl.ErrNone)
}

// What is no name is no Rule's: there is none. A text that is too long is refused
// ahead of all else.
func TestRuleDropOfOddTexts(t *testing.T) {
	policies := append(rightPolicies()[:12], impl.Policy{Held: []int64{6}}, policyOf(risingRules()...), policyOf(impl.Rule{}), policyOf(wrongRules()[0]))
	long := []string{strings.Repeat("n", impl.MaxBytes+1), mixed(1, 2*impl.MaxBytes)}
	for i, p := range policies {
		what := fmt.Sprintf("policy %d", i)
		for _, name := range wrongNames() {
			wantPolicy(t, what+", the Kind", impl.RuleDrop(p, name, "c"), ruleDropIn(p, name, "c"))
			wantPolicy(t, what+", the Field", impl.RuleDrop(p, "a", name), ruleDropIn(p, "a", name))
			for _, text := range long {
				wantPolicyCode(t, what+", a Field too long", impl.RuleDrop(p, name, text), impl.ErrSize)
				wantPolicyCode(t, what+", a Kind too long", impl.RuleDrop(p, text, name), impl.ErrSize)
			}
		}
		for _, text := range long {
			wantPolicyCode(t, what+", a Kind too long", impl.RuleDrop(p, text, "c"), impl.ErrSize)
			wantPolicyCode(t, what+", a Field too long", impl.RuleDrop(p, "a", text), impl.ErrSize)
			wantPolicyCode(t, what+", both too long", impl.RuleDrop(p, text, text), impl.ErrSize)
		}
	}
	longest := strings.Repeat("n", impl.MaxBytes)
	wantPolicyCode(t, "as long as may be", impl.RuleDrop(fullPolicy(), longest, longest), impl.ErrNone)
	wantPolicyCode(t, "no names", impl.RuleDrop(fullPolicy(), "No", ""), impl.ErrNone)
}

// Rows are held and freed.

func TestHoldAndFreeOfManyPolicies(t *testing.T) {
	for i, p := range rightPolicies() {
		for _, row := range append(wrongHeldRows(), 0, 1, 2, 3, 4, 5) {
			what := fmt.Sprintf("policy %d, row %d", i, row)
			wantPolicy(t, what+": Hold", impl.Hold(p, row), holdIn(p, row))
			wantPolicy(t, what+": Free", impl.Free(p, row), freeIn(p, row))
		}
	}
}

func TestHoldAndFreeByHand(t *testing.T) {
	rules := policyOf(ruleOf("a", "b", 1, 2))
	p := holding(rules, 1, 4)
	for row, want := range map[int64][]int64{0: {0, 1, 4}, 2: {1, 2, 4}, 3: {1, 3, 4}, 5: {1, 4, 5}} {
		wantPolicy(t, fmt.Sprintf("Hold %d", row), impl.Hold(p, row), impl.PolicyOut{Policy: holding(rules, want...)})
		wantPolicyCode(t, fmt.Sprintf("Free %d", row), impl.Free(p, row), impl.ErrNone)
	}
	for row, want := range map[int64]int64{1: 4, 4: 1} {
		wantPolicyCode(t, fmt.Sprintf("Hold %d", row), impl.Hold(p, row), impl.ErrThere)
		wantPolicy(t, fmt.Sprintf("Free %d", row), impl.Free(p, row), impl.PolicyOut{Policy: holding(rules, want)})
	}
	for _, row := range wrongHeldRows() {
		for _, p := range []impl.Policy{p, {}, fullPolicy(), holding(impl.Policy{}, 0, 1, 2, 3, 4, 5)} {
			wantPolicyCode(t, fmt.Sprintf("Hold %d", row), impl.Hold(p, row), impl.ErrForm)
			wantPolicyCode(t, fmt.Sprintf("Free %d", row), impl.Free(p, row), impl.ErrForm)
		}
	}
	wantPolicy(t, "free again", impl.Free(holding(rules, 3), 3), impl.PolicyOut{Policy: rules})
}

// Promise 16.

// A call of a policy, by the program and by the second reckoning; which Rule or
// row it is about, and whether that is there behind it.
type policyCall struct {
	what   string
	do, in func(impl.Policy) impl.PolicyOut
	rule   impl.Rule
	row    int64
	ofRow  bool
	there  bool
}

func putting(r impl.Rule) policyCall {
	return policyCall{
		what: fmt.Sprintf("RulePut %+v", r), rule: r, there: true,
		do: func(p impl.Policy) impl.PolicyOut { return impl.RulePut(p, r) },
		in: func(p impl.Policy) impl.PolicyOut { return rulePutIn(p, r) },
	}
}

func dropping(kind, field string) policyCall {
	return policyCall{
		what: fmt.Sprintf("RuleDrop %.30q %.30q", kind, field), rule: ruleOf(kind, field, 0, 0),
		do: func(p impl.Policy) impl.PolicyOut { return impl.RuleDrop(p, kind, field) },
		in: func(p impl.Policy) impl.PolicyOut { return ruleDropIn(p, kind, field) },
	}
}

func holdingRow(row int64) policyCall {
	return policyCall{
		what: fmt.Sprintf("Hold %d", row), row: row, ofRow: true, there: true,
		do: func(p impl.Policy) impl.PolicyOut { return impl.Hold(p, row) },
		in: func(p impl.Policy) impl.PolicyOut { return holdIn(p, row) },
	}
}

func freeing(row int64) policyCall {
	return policyCall{
		what: fmt.Sprintf("Free %d", row), row: row, ofRow: true,
		do: func(p impl.Policy) impl.PolicyOut { return impl.Free(p, row) },
		in: func(p impl.Policy) impl.PolicyOut { return freeIn(p, row) },
	}
}

// somePolicyCalls: most of them are right of most policies, some never are.
func somePolicyCalls(seed uint64, count int) []policyCall {
	var out []policyCall
	kinds, fields := []string{"a", "ab", "user", "user", "note", "No"}, []string{"age", "city", "name", "name", "b"}
	bytes := mixed(seed, 6*count)
	for i := range count {
		b := bytes[6*i : 6*i+6]
		kind, field := kinds[int(b[1])%len(kinds)], fields[int(b[2])%len(fields)]
		least := []int64{0, 0, 1, 3, 7, -1}[int(b[3])%6]
		most := least + []int64{0, 1, 4, 9, impl.MaxTime - 7, -1}[int(b[4])%6]
		row := int64(b[5]%9) - 1
		puts, drops := putting(ruleOf(kind, field, least, most)), dropping(kind, field)
		out = append(out, []policyCall{puts, puts, puts, puts, drops, drops, holdingRow(row), freeing(row)}[b[0]%8])
	}
	return out
}

// wantAbout: what the call is about is there once, or not at all, and all others
// are as they were.
func wantAbout(t *testing.T, call policyCall, before, after impl.Policy) {
	t.Helper()
	rules, rows := len(after.Rules)-len(otherRules(after, call.rule.Kind, call.rule.Field)), len(after.Held)-len(otherHeld(after, call.row))
	count, rule, row := rules, call.rule, int64(-1)
	if call.ofRow {
		count, rule, row = rows, impl.Rule{}, call.row
	}
	if call.there && count != 1 || !call.there && count != 0 {
		t.Errorf("%s: it is there %d times: %s", call.what, count, asText(after))
	}
	if call.there && !call.ofRow && !slices.Contains(after.Rules, call.rule) {
		t.Errorf("%s: it is not there as it was put: %s", call.what, asText(after))
	}
	was := impl.Policy{Rules: otherRules(before, rule.Kind, rule.Field), Held: otherHeld(before, row)}
	is := impl.Policy{Rules: otherRules(after, rule.Kind, rule.Field), Held: otherHeld(after, row)}
	if !samePolicy(was, is) {
		t.Errorf("%s: others are not as they were: %s and %s", call.what, asText(was), asText(is))
	}
}

// wantPolicyStep makes a call, and tells the policy behind it.
func wantPolicyStep(t *testing.T, call policyCall, p impl.Policy) impl.Policy {
	t.Helper()
	got := call.do(p)
	wantPolicy(t, call.what, got, call.in(p))
	if got.Code != impl.OK {
		return p
	}
	wantPolicyRight(t, call.what, got.Policy, true)
	wantAbout(t, call, p, got.Policy)
	return got.Policy
}

func TestPoliciesMadeByManyCalls(t *testing.T) {
	codes := map[int64]int{}
	sizes := map[int]int{}
	for seed := range uint64(150) {
		var p impl.Policy
		for _, call := range somePolicyCalls(seed, 60) {
			codes[call.do(p).Code]++
			p = wantPolicyStep(t, call, p)
			sizes[len(p.Rules)]++
		}
	}
	for _, code := range []int64{impl.OK, impl.ErrForm, impl.ErrNone, impl.ErrThere, impl.ErrFull} {
		if codes[code] < 50 {
			t.Errorf("the code %d came %d times: the test looks at less than it should", code, codes[code])
		}
	}
	for size := range impl.MaxRules + 1 {
		if sizes[size] < 50 {
			t.Errorf("%d rules came %d times: the test looks at less than it should", size, sizes[size])
		}
	}
}

func TestPolicyCallsInEachOrder(t *testing.T) {
	calls := []policyCall{
		putting(ruleOf("a", "bc", 0, 4)), putting(ruleOf("ab", "c", 1, 2)), putting(ruleOf("a", "bc", 3, 3)),
		dropping("a", "bc"), holdingRow(3), holdingRow(0), freeing(3),
	}
	for _, order := range orders(len(calls)) {
		var p impl.Policy
		for _, which := range order {
			p = wantPolicyStep(t, calls[which], p)
		}
	}
}

// What was not there is put and goes again: the policy is as it was; likewise of
// a row.
func TestWhatIsPutGoesAgain(t *testing.T) {
	for i, p := range rightPolicies() {
		for j, r := range risingRules() {
			put := impl.RulePut(p, r)
			if put.Code != impl.OK {
				continue
			}
			what := fmt.Sprintf("policy %d, rule %d", i, j)
			gone := impl.PolicyOut{Policy: impl.Policy{Rules: otherRules(p, r.Kind, r.Field), Held: p.Held}}
			wantPolicy(t, what+": put and dropped", impl.RuleDrop(put.Policy, r.Kind, r.Field), gone)
			wantPolicyCode(t, what+": dropped twice", impl.RuleDrop(gone.Policy, r.Kind, r.Field), impl.ErrNone)
			wantPolicy(t, what+": put twice", impl.RulePut(put.Policy, r), put)
			other := ruleOf(r.Kind, r.Field, 40, 41)
			wantPolicy(t, what+": the last one stays", impl.RulePut(impl.RulePut(p, other).Policy, r), put)
		}
		for row := range int64(impl.MaxRows) {
			what, free := fmt.Sprintf("policy %d, row %d", i, row), impl.PolicyOut{Policy: impl.Policy{Rules: p.Rules, Held: otherHeld(p, row)}}
			held := impl.Hold(free.Policy, row)
			wantPolicy(t, what+": held", held, impl.PolicyOut{Policy: ordered(p.Rules, append(slices.Clone(p.Held), row))})
			wantPolicy(t, what+": held and freed", impl.Free(held.Policy, row), free)
			wantPolicyCode(t, what+": held twice", impl.Hold(held.Policy, row), impl.ErrThere)
			wantPolicyCode(t, what+": freed twice", impl.Free(free.Policy, row), impl.ErrNone)
		}
	}
}

// Logs and policies together.

type logAndPolicy struct {
	what   string
	log    impl.Log
	policy impl.Policy
}

// keptRow is a right row of a Kind and of names that the rules have.
func keptRow(seed uint64, at int64) impl.Row {
	bytes := mixed(seed, 6)
	r := impl.Row{Kind: []string{"user", "note", "user", "ab"}[bytes[0]%4], At: at}
	for j, name := range []string{"age", "city", "name"} {
		if bytes[1+j]%4 != 0 || j == int(bytes[4])%3 {
			r.Fields = append(r.Fields, fieldIn(name, mixed(seed+uint64(j), 1+int(bytes[5])%8), mixed(seed, int(bytes[1+j])%17)))
		}
	}
	return r
}

// keepLogCalls: the rows come early, and time goes slowly, so that much is kept
// and much is due.
func keepLogCalls(seed uint64, count int) []logCall {
	var out []logCall
	bytes := mixed(seed, 4*count)
	for i := range count {
		b := bytes[4*i : 4*i+4]
		adds := adding(func(now int64) impl.Row { return keptRow(uint64(b[1])*256+uint64(b[2]), now) })
		forgets := forgetting(int64(b[1]%6), int64(b[2]%3), 1+int64(b[3]%2))
		times := timing(func(now int64) int64 { return now + int64(b[1]%4) })
		out = append(out, []logCall{adds, adds, times, times, times, forgets}[b[0]%6])
	}
	return out
}

// someKept has logs and policies that were made by many calls, by the second
// reckoning, each log with each policy of its time.
func someKept(seed uint64) []logAndPolicy {
	var out []logAndPolicy
	var l impl.Log
	var p impl.Policy
	policyCalls := somePolicyCalls(seed+500, 90)
	for i, call := range keepLogCalls(seed, 30) {
		if made := call.in(l); made.Code == impl.OK {
			l = made.Log
		}
		for _, other := range policyCalls[3*i : 3*i+3] {
			if made := other.in(p); made.Code == impl.OK {
				p = made.Policy
			}
		}
		if i%3 == 2 {
			out = append(out, logAndPolicy{fmt.Sprintf("seed %d, step %d", seed, i), l, p})
		}
	}
	return out
}

// baseKept: of the Fields of four rows, some due at one time, some due at
// another, some to be kept, one without a rule, one Gone, and a row that is held.
func baseKept() logAndPolicy {
	var l impl.Log
	fields := func(salt string) []impl.Field {
		return []impl.Field{fieldIn("age", salt, "42"), fieldIn("city", salt+"c", "rome"), fieldIn("name", salt+"n", "ann")}
	}
	l = withRow(l, rowIn("user", 2, fields("p")...))
	l = withRow(l, rowIn("note", 0, fields("q")...))
	l = withRow(l, rowIn("user", 1, fields("r")...))
	l = withRow(l, rowIn("user", 0, fields("s")...))
	l = withGone(atTime(l, 7), 2, 2, 1)
	p := policyOf(ruleOf("note", "age", 3, 4), ruleOf("note", "city", 8, 9), ruleOf("note", "name", 0, 0), ruleOf("user", "age", 1, 2), ruleOf("user", "name", 1, 5))
	return logAndPolicy{"the base", l, holding(p, 3)}
}

// fullKept has a full log of which each Field is due.
func fullKept() logAndPolicy {
	logs := fullHistory()
	l := logs[12]
	return logAndPolicy{"the full log", atTime(l, 100), policyOf(ruleOf("user", "age", 0, 20), ruleOf("user", "city", 5, 14), ruleOf("user", "name", 0, 17))}
}

func allKept() []logAndPolicy {
	out := []logAndPolicy{baseKept(), fullKept(), {"nothing", impl.Log{}, impl.Policy{}}}
	for seed := range uint64(12) {
		out = append(out, someKept(seed)...)
	}
	return out
}

func keepRows() []int64 {
	return []int64{-1, 0, 1, 2, 3, 4, 5, 6}
}

func keepFields() []int64 {
	return []int64{-1, 0, 1, 2, 3}
}

// What is due.

func TestDuesByHand(t *testing.T) {
	kept := baseKept()
	wantLogRight(t, "the base", kept.log, true)
	wantPolicyRight(t, "the base", kept.policy, true)
	wantDues(t, "the base", impl.DuesOf(kept.log, kept.policy), []impl.Due{
		{Row: 1, Field: 2, At: 0}, {Row: 2, Field: 0, At: 3}, {Row: 0, Field: 0, At: 4}, {Row: 1, Field: 0, At: 4}, {Row: 0, Field: 2, At: 7}})
	wantDues(t, "the row 3 freed, too", impl.DuesOf(kept.log, impl.Free(kept.policy, 3).Policy), []impl.Due{
		{Row: 1, Field: 2, At: 0}, {Row: 3, Field: 0, At: 2}, {Row: 2, Field: 0, At: 3}, {Row: 0, Field: 0, At: 4}, {Row: 1, Field: 0, At: 4},
		{Row: 3, Field: 2, At: 5}, {Row: 0, Field: 2, At: 7}})
	wantDues(t, "the row 1 held, too", impl.DuesOf(kept.log, impl.Hold(kept.policy, 1).Policy), []impl.Due{
		{Row: 2, Field: 0, At: 3}, {Row: 0, Field: 0, At: 4}, {Row: 0, Field: 2, At: 7}})
	wantDues(t, "two later", impl.DuesOf(atTime(kept.log, 9), kept.policy), []impl.Due{
		{Row: 1, Field: 2, At: 0}, {Row: 2, Field: 0, At: 3}, {Row: 0, Field: 0, At: 4}, {Row: 1, Field: 0, At: 4}, {Row: 0, Field: 2, At: 7}, {Row: 1, Field: 1, At: 9}})
	wantDues(t, "no rules", impl.DuesOf(kept.log, impl.Policy{}), nil)
	wantDues(t, "no rows", impl.DuesOf(impl.Log{Now: 9}, kept.policy), nil)
	wantDues(t, "all held", impl.DuesOf(kept.log, holding(kept.policy, 0, 1, 2, 3)), nil)
	wantDues(t, "held is who is not there", impl.DuesOf(atTime(withRow(impl.Log{}, kept.log.Rows[0]), 7), holding(kept.policy, 1, 2, 3, 4, 5)), []impl.Due{{Row: 0, Field: 0, At: 4}, {Row: 0, Field: 2, At: 7}})
}

func duesOf(told [][3]int64) []impl.Due {
	var out []impl.Due
	for _, d := range told {
		out = append(out, impl.Due{Row: d[0], Field: d[1], At: d[2]})
	}
	return out
}

// Of one end the lower Row is first, and of one Row the lower Field.
func TestDuesOfOneEnd(t *testing.T) {
	var l impl.Log
	for i, at := range []int64{3, 0, 3, 2, 0, 1} {
		salt := fmt.Sprintf("s%d", i)
		l = withRow(l, rowIn("user", at, fieldIn("age", salt, ""), fieldIn("city", salt, ""), fieldIn("name", salt, "")))
	}
	p := policyOf(ruleOf("user", "age", 0, 4), ruleOf("user", "city", 0, 4), ruleOf("user", "name", 1, 1))
	wantDues(t, "all", impl.DuesOf(atTime(l, 10), p), duesOf([][3]int64{
		{1, 2, 1}, {4, 2, 1}, {5, 2, 2}, {3, 2, 3}, {0, 2, 4}, {1, 0, 4}, {1, 1, 4}, {2, 2, 4}, {4, 0, 4}, {4, 1, 4},
		{5, 0, 5}, {5, 1, 5}, {3, 0, 6}, {3, 1, 6}, {0, 0, 7}, {0, 1, 7}, {2, 0, 7}, {2, 1, 7}}))
	wantDues(t, "at 4", impl.DuesOf(atTime(l, 4), p), duesOf([][3]int64{
		{1, 2, 1}, {4, 2, 1}, {5, 2, 2}, {3, 2, 3}, {0, 2, 4}, {1, 0, 4}, {1, 1, 4}, {2, 2, 4}, {4, 0, 4}, {4, 1, 4}}))
}

// A rule is of both: neither its Kind alone nor its Field alone is enough.
func TestRulesAreOfKindAndField(t *testing.T) {
	l := atTime(withRow(impl.Log{}, rowIn("ab", 1, fieldIn("age", "s", "1"), fieldIn("c", "t", "2"))), 50)
	for _, r := range []impl.Rule{
		ruleOf("a", "bc", 0, 0), ruleOf("abc", "c", 0, 0), ruleOf("c", "ab", 0, 0), ruleOf("ab", "ab", 0, 0), ruleOf("age", "c", 0, 0), ruleOf("a", "c", 0, 0),
		ruleOf("ab", "c0", 0, 0), ruleOf("ab", "ag", 0, 0), ruleOf("ab", "age0", 0, 0), ruleOf("ab0", "age", 0, 0), ruleOf("aa", "age", 0, 0), ruleOf("zz", "zz", 0, 0),
	} {
		wantDues(t, fmt.Sprintf("by %+v", r), impl.DuesOf(l, policyOf(r)), nil)
		kept := r
		kept.Least, kept.Most = impl.MaxTime, impl.MaxTime
		for field := range int64(2) {
			wantNumber(t, fmt.Sprintf("MayForget by %+v", kept), impl.MayForget(l, policyOf(kept), 0, field), impl.OK)
		}
	}
	for field, name := range []string{"age", "c"} {
		wantDues(t, "by its own rule", impl.DuesOf(l, policyOf(ruleOf("ab", name, 0, 7))), []impl.Due{{Row: 0, Field: int64(field), At: 8}})
		kept := policyOf(ruleOf("ab", name, impl.MaxTime, impl.MaxTime))
		wantNumber(t, "kept by its own rule", impl.MayForget(l, kept, 0, int64(field)), impl.ErrRange)
		wantNumber(t, "the other one", impl.MayForget(l, kept, 0, int64(1-field)), impl.OK)
	}
}

// wantOneField: of a log of one Field, by one rule, all is told by its times.
func wantOneField(t *testing.T, at, least, most, now int64) {
	t.Helper()
	what := fmt.Sprintf("a row of %d, Least %d, Most %d, Now %d", at, least, most, now)
	l := atTime(withRow(impl.Log{}, rowIn("user", at, fieldIn("name", "s", "v"))), now)
	p := policyOf(ruleOf("user", "name", least, most))
	var dues []impl.Due
	if at+most <= now {
		dues = []impl.Due{{At: at + most}}
	}
	may := int64(impl.OK)
	if at+least > now {
		may = impl.ErrRange
	}
	wantDues(t, what, impl.DuesOf(l, p), dues)
	wantDues(t, what+", held", impl.DuesOf(l, holding(p, 0)), nil)
	wantNumber(t, what+": MayForget", impl.MayForget(l, p, 0, 0), may)
	wantNumber(t, what+", held: MayForget", impl.MayForget(l, holding(p, 0), 0, 0), impl.ErrHeld)
	wantSwept(t, what+": Sweep", impl.Sweep(l, p, 1), sweepIn(l, p, 1))
	wantNumber(t, what+": swept", impl.Sweep(l, p, 1).Count, int64(len(dues)))
	wantSwept(t, what+": AskForget", impl.AskForget(l, p, 0, 0), askIn(l, p, 0, 0))
	wantNumber(t, what+": asked", impl.AskForget(l, p, 0, 0).Code, may)
}

func TestEndsAndTimes(t *testing.T) {
	for now := range int64(6) {
		for at := int64(0); at <= now; at++ {
			for most := range int64(8) {
				for least := int64(0); least <= most; least++ {
					wantOneField(t, at, least, most, now)
				}
			}
		}
	}
}

// Around the greatest time, and where both together are more.
func TestEndsAtTheGreatestTimes(t *testing.T) {
	for _, now := range []int64{0, 1, impl.MaxTime / 2, impl.MaxTime - 1, impl.MaxTime} {
		for _, at := range []int64{0, 1, 2, now / 3, now - 1, now} {
			if at < 0 || at > now {
				continue
			}
			for _, most := range []int64{0, now - at - 1, now - at, now - at + 1, impl.MaxTime - 1, impl.MaxTime} {
				for _, least := range []int64{0, most - 1, most, now - at - 1, now - at, now - at + 1} {
					if least >= 0 && least <= most && most <= impl.MaxTime {
						wantOneField(t, at, least, most, now)
					}
				}
			}
		}
	}
	wantOneField(t, impl.MaxTime, impl.MaxTime, impl.MaxTime, impl.MaxTime)
	wantOneField(t, impl.MaxTime, 0, 0, impl.MaxTime)
	wantOneField(t, 1, impl.MaxTime, impl.MaxTime, impl.MaxTime)
	wantOneField(t, 0, impl.MaxTime, impl.MaxTime, impl.MaxTime)
}

// Promise 17.

// wantDueEach goes from Field to Field: just those are told that are due, each
// once, and they rise.
func wantDueEach(t *testing.T, kept logAndPolicy) (told int) {
	t.Helper()
	dues := impl.DuesOf(kept.log, kept.policy)
	for i, r := range kept.log.Rows {
		for j, f := range r.Fields {
			due := false
			for _, rule := range kept.policy.Rules {
				if rule.Kind == r.Kind && rule.Field == f.Name {
					due = !f.Gone && !slices.Contains(kept.policy.Held, int64(i)) && r.At+rule.Most <= kept.log.Now
					if one := (impl.Due{Row: int64(i), Field: int64(j), At: r.At + rule.Most}); slices.Contains(dues, one) != due {
						t.Errorf("%s: %+v is told: %t", kept.what, one, !due)
					}
				}
			}
			count := len(slices.DeleteFunc(slices.Clone(dues), func(d impl.Due) bool { return d.Row != int64(i) || d.Field != int64(j) }))
			if due && count != 1 || !due && count != 0 {
				t.Errorf("%s: the Field %d %d is told %d times", kept.what, i, j, count)
			}
			told += count
		}
	}
	if told != len(dues) {
		t.Errorf("%s: %d are told, %d of them are there", kept.what, len(dues), told)
	}
	for i := range dues {
		if i > 0 && fmt.Sprintf("%07d%d%d", dues[i-1].At, dues[i-1].Row, dues[i-1].Field) >= fmt.Sprintf("%07d%d%d", dues[i].At, dues[i].Row, dues[i].Field) {
			t.Errorf("%s: they do not rise: %+v", kept.what, dues)
		}
	}
	wantDues(t, kept.what, dues, duesIn(kept.log, kept.policy))
	return told
}

func TestDuesOfManyLogs(t *testing.T) {
	counts := map[int]int{}
	for _, kept := range allKept() {
		counts[wantDueEach(t, kept)]++
		for row := range int64(impl.MaxRows) {
			wantDueEach(t, logAndPolicy{kept.what + ", one more held", kept.log, holdIn(kept.policy, row).Policy})
		}
		wantDueEach(t, logAndPolicy{kept.what + ", later", atTime(kept.log, kept.log.Now+3), kept.policy})
		wantDueEach(t, logAndPolicy{kept.what + ", at last", atTime(kept.log, impl.MaxTime), kept.policy})
	}
	for count := range 4 {
		if counts[count] == 0 {
			t.Errorf("never were %d due: the test looks at less than it should", count)
		}
	}
}

// Each choice of rows that are held.
func TestDuesOfEachHeld(t *testing.T) {
	for _, kept := range []logAndPolicy{baseKept(), fullKept()} {
		for choice := range 1 << impl.MaxRows {
			var held []int64
			for row := range int64(impl.MaxRows) {
				if choice>>row&1 == 1 {
					held = append(held, row)
				}
			}
			wantDueEach(t, logAndPolicy{fmt.Sprintf("%s, held %v", kept.what, held), kept.log, holding(kept.policy, held...)})
		}
	}
}

func budgets(due int) []int64 {
	n := int64(due)
	return []int64{0, 1, 2, n - 1, n, n + 1, 99, 100}
}

// sweptByCalls forgets the first of what is due by the calls of the log.
func sweptByCalls(t *testing.T, kept logAndPolicy, budget int64) impl.SweepOut {
	t.Helper()
	dues := impl.DuesOf(kept.log, kept.policy)
	out := impl.SweepOut{Log: kept.log, Count: min(budget, int64(len(dues)))}
	for _, due := range dues[:out.Count] {
		less := impl.LogForget(out.Log, due.Row, due.Field, impl.WhRule)
		wantNumber(t, kept.what+": LogForget of what is due", less.Code, impl.OK)
		out.Log = less.Log
	}
	return out
}

// wantSweptFirst: what is swept is the first of what is due, and nothing else.
func wantSweptFirst(t *testing.T, kept logAndPolicy, budget int64) impl.Log {
	t.Helper()
	what := fmt.Sprintf("%s, budget %d", kept.what, budget)
	got := impl.Sweep(kept.log, kept.policy, budget)
	wantSwept(t, what, got, sweepIn(kept.log, kept.policy, budget))
	wantSwept(t, what+", by calls", got, sweptByCalls(t, kept, budget))
	dues := impl.DuesOf(kept.log, kept.policy)
	gone := wantOnlyGrown(t, what, kept.log, got.Log)
	if int64(gone) != got.Count || got.Count != min(budget, int64(len(dues))) || len(got.Log.Rows) != len(kept.log.Rows) || got.Log.Now != kept.log.Now {
		t.Errorf("%s: of %d that are due %d are forgotten, Count is %d", what, len(dues), gone, got.Count)
	}
	wantNoted(t, what, got.Log)
	for i, due := range dues {
		want := int64(impl.StPresent)
		if int64(i) < budget {
			want = impl.StErased
			tomb := impl.TombRead(got.Log.Leaves[impl.TombOf(got.Log, due.Row, due.Field)]).Tomb
			if tomb != (impl.Tomb{Row: due.Row, Field: due.Field, Why: impl.WhRule, At: kept.log.Now}) {
				t.Errorf("%s: %+v is noted by %+v", what, due, tomb)
			}
		}
		wantNumber(t, what+": StatusOf what is due", impl.StatusOf(got.Log, due.Row, due.Field), want)
	}
	wantDues(t, what+": what is still due", impl.DuesOf(got.Log, kept.policy), dues[got.Count:])
	return got.Log
}

func TestSweepsOfManyLogs(t *testing.T) {
	for _, kept := range allKept() {
		for _, budget := range budgets(len(duesIn(kept.log, kept.policy))) {
			if budget >= 0 {
				wantSweptFirst(t, kept, budget)
			}
		}
	}
}

func TestSweepByHand(t *testing.T) {
	kept := baseKept()
	l := kept.log
	gone := []string{tombOf(1, 2, 2, 7), tombOf(2, 0, 2, 7), tombOf(0, 0, 2, 7), tombOf(1, 0, 2, 7), tombOf(0, 2, 2, 7)}
	rows := slices.Clone(l.Rows)
	rows[1], rows[2] = forgotIn(rows[1], 2), forgotIn(rows[2], 0)
	wantSwept(t, "two", impl.Sweep(l, kept.policy, 2), impl.SweepOut{Log: withLeaves(withRows(l, rows...), append(slices.Clone(l.Leaves), gone[:2]...)...), Count: 2})
	rows[0], rows[1] = forgotIn(rows[0], 0, 2), forgotIn(rows[1], 0)
	all := withLeaves(withRows(l, rows...), append(slices.Clone(l.Leaves), gone...)...)
	for _, budget := range []int64{5, 6, 99, 100} {
		wantSwept(t, fmt.Sprintf("budget %d", budget), impl.Sweep(l, kept.policy, budget), impl.SweepOut{Log: all, Count: 5})
	}
	wantSwept(t, "none", impl.Sweep(l, kept.policy, 0), impl.SweepOut{Log: l})
	wantSwept(t, "again", impl.Sweep(all, kept.policy, 100), impl.SweepOut{Log: all})
	wantSwept(t, "nothing in it", impl.Sweep(impl.Log{}, impl.Policy{}, 3), impl.SweepOut{})
	wantSwept(t, "nothing in it, later", impl.Sweep(impl.Log{Now: 8}, kept.policy, 3), impl.SweepOut{Log: impl.Log{Now: 8}})
	for _, budget := range []int64{-1, 101, -100, 102, 256, 1 << 32, 1<<32 + 1, math.MinInt64, math.MinInt64 + 1, math.MaxInt64} {
		wantSweptCode(t, fmt.Sprintf("budget %d", budget), impl.Sweep(l, kept.policy, budget), impl.ErrForm)
		wantSweptCode(t, fmt.Sprintf("nothing in it, budget %d", budget), impl.Sweep(impl.Log{}, impl.Policy{}, budget), impl.ErrForm)
	}
}

// Eighteen are due: more than any budget below them takes at once.
func TestSweepOfAFullLog(t *testing.T) {
	kept := fullKept()
	wantNumber(t, "how many are due", int64(len(impl.DuesOf(kept.log, kept.policy))), impl.MaxRows*impl.MaxFields)
	for budget := range int64(impl.MaxRows*impl.MaxFields + 2) {
		wantSweptFirst(t, kept, budget)
	}
	last := wantSweptFirst(t, kept, 100)
	wantNumber(t, "how many leaves", int64(len(last.Leaves)), 24)
}

// Swept in two goes it is the same as in one.
func TestSweepsInTwoGoes(t *testing.T) {
	for _, kept := range allKept() {
		due := int64(len(duesIn(kept.log, kept.policy)))
		for first := range due + 2 {
			for second := range due + 2 {
				what := fmt.Sprintf("%s, %d and %d", kept.what, first, second)
				one := impl.Sweep(kept.log, kept.policy, first+second)
				a := impl.Sweep(kept.log, kept.policy, first)
				b := impl.Sweep(a.Log, kept.policy, second)
				wantSwept(t, what, impl.SweepOut{Log: b.Log, Count: a.Count + b.Count, Code: b.Code}, one)
			}
			if due > 8 && first > 4 {
				break // of the full log all second goes are too many
			}
		}
	}
}

// Promise 18.

func wantAsked(t *testing.T, kept logAndPolicy, row, field int64) int64 {
	t.Helper()
	what := fmt.Sprintf("%s, %d %d", kept.what, row, field)
	code := impl.MayForget(kept.log, kept.policy, row, field)
	wantNumber(t, what+": MayForget", code, mayIn(kept.log, kept.policy, row, field))
	got := impl.AskForget(kept.log, kept.policy, row, field)
	wantSwept(t, what, got, askIn(kept.log, kept.policy, row, field))
	if code != impl.OK {
		wantSweptCode(t, what+": it may not be", got, code)
		return code
	}
	if slices.Contains(kept.policy.Held, row) || mustStay(kept.log, kept.policy, row, field) {
		t.Errorf("%s: what is held, or has to be kept, is forgotten", what)
	}
	by := impl.LogForget(kept.log, row, field, impl.WhAsked)
	wantSwept(t, what+": by the log's call", got, impl.SweepOut{Log: by.Log, Count: 1, Code: by.Code})
	wantNumber(t, what+": how many are forgotten", int64(wantOnlyGrown(t, what, kept.log, got.Log)), 1)
	wantNumber(t, what+": StatusOf", impl.StatusOf(got.Log, row, field), impl.StErased)
	tomb := impl.TombRead(got.Log.Leaves[impl.TombOf(got.Log, row, field)]).Tomb
	if tomb != (impl.Tomb{Row: row, Field: field, Why: impl.WhAsked, At: kept.log.Now}) {
		t.Errorf("%s: it is noted by %+v", what, tomb)
	}
	wantSweptCode(t, what+": again", impl.AskForget(got.Log, kept.policy, row, field), impl.ErrThere)
	return code
}

func TestAskingForManyFields(t *testing.T) {
	codes := map[int64]int{}
	for _, kept := range allKept() {
		for _, row := range keepRows() {
			for _, field := range keepFields() {
				codes[wantAsked(t, kept, row, field)]++
			}
		}
	}
	for _, code := range []int64{impl.OK, impl.ErrNone, impl.ErrThere, impl.ErrHeld, impl.ErrRange} {
		if codes[code] < 20 {
			t.Errorf("the code %d came %d times: the test looks at less than it should", code, codes[code])
		}
	}
}

func TestMayForgetByHand(t *testing.T) {
	kept := baseKept()
	for at, code := range map[fieldPlace]int64{
		{0, 0}: impl.OK, {0, 1}: impl.OK, {0, 2}: impl.OK,
		{1, 0}: impl.OK, {1, 1}: impl.ErrRange, {1, 2}: impl.OK,
		{2, 0}: impl.OK, {2, 1}: impl.OK, {2, 2}: impl.ErrThere,
		{3, 0}: impl.ErrHeld, {3, 1}: impl.ErrHeld, {3, 2}: impl.ErrHeld,
		{-1, 0}: impl.ErrNone, {4, 0}: impl.ErrNone, {0, -1}: impl.ErrNone, {0, 3}: impl.ErrNone, {3, 3}: impl.ErrNone, {3, -1}: impl.ErrNone, {5, 5}: impl.ErrNone,
	} {
		wantNumber(t, fmt.Sprintf("MayForget %v", at), impl.MayForget(kept.log, kept.policy, at.row, at.field), code)
	}
	for _, row := range logRows() {
		for _, field := range logFields() {
			wantAsked(t, kept, row, field)
		}
	}
}

// Two faults at once: what is named first is told.
func TestMayForgetOfTwoFaults(t *testing.T) {
	kept := baseKept()
	strict := holding(policyOf(ruleOf("note", "city", 50, 60), ruleOf("user", "age", 50, 60), ruleOf("user", "name", 50, 60)), 1, 2, 4)
	wrong := holding(strict, 2, 1)
	wrongLog := withLeaves(kept.log, kept.log.Leaves[1:]...)
	for _, c := range []struct {
		what       string
		log        impl.Log
		policy     impl.Policy
		row, field int64
		code       int64
	}{
		{"held and to be kept", kept.log, strict, 1, 1, impl.ErrHeld},
		{"held, Gone and to be kept", kept.log, strict, 2, 2, impl.ErrThere},
		{"held, without a rule", kept.log, strict, 2, 1, impl.ErrHeld},
		{"Gone and to be kept", kept.log, holding(strict), 2, 2, impl.ErrThere},
		{"to be kept alone", kept.log, strict, 0, 0, impl.ErrRange},
		{"held, and no such row", kept.log, strict, 4, 0, impl.ErrNone},
		{"held, and no such field", kept.log, strict, 1, 3, impl.ErrNone},
		{"a wrong policy, and no such row", kept.log, wrong, 4, 0, impl.ErrForm},
		{"a wrong policy, and Gone", kept.log, wrong, 2, 2, impl.ErrForm},
		{"a wrong policy, and held", kept.log, wrong, 1, 0, impl.ErrForm},
		{"a wrong log, and no such row", wrongLog, strict, 4, 0, impl.ErrForm},
		{"a wrong log, and Gone", wrongLog, strict, 2, 2, impl.ErrForm},
		{"a wrong log, and held", wrongLog, strict, 1, 0, impl.ErrForm},
		{"a wrong log, and to be kept", wrongLog, strict, 0, 0, impl.ErrForm},
		{"a wrong log and a wrong policy", wrongLog, wrong, 0, 0, impl.ErrForm},
		{"no log, and no such row", impl.Log{}, strict, 0, 0, impl.ErrNone},
	} {
		wantNumber(t, c.what, impl.MayForget(c.log, c.policy, c.row, c.field), c.code)
		wantSweptCode(t, c.what, impl.AskForget(c.log, c.policy, c.row, c.field), c.code)
	}
}

// Whoever asks, and however often, what is held or has to be kept stays.
func TestWhatHasToStayStays(t *testing.T) {
	for _, kept := range allKept() {
		l := kept.log
		for _, row := range keepRows() {
			for _, field := range keepFields() {
				if got := impl.AskForget(l, kept.policy, row, field); got.Code == impl.OK {
					l = got.Log
				}
			}
		}
		l = impl.Sweep(l, kept.policy, 100).Log
		wantOnlyGrown(t, kept.what, kept.log, l)
		for i, r := range kept.log.Rows {
			for j, f := range r.Fields {
				stays := slices.Contains(kept.policy.Held, int64(i)) || mustStay(kept.log, kept.policy, int64(i), int64(j))
				if now := l.Rows[i].Fields[j]; !f.Gone && now.Gone == stays {
					t.Errorf("%s: the Field %d %d has to stay: %t, is Gone: %t", kept.what, i, j, stays, now.Gone)
				}
			}
		}
	}
}

// Many calls of both, one behind the other, in whatever order.
func TestLogsAndPoliciesByManyCalls(t *testing.T) {
	for seed := range uint64(15) {
		kept := logAndPolicy{what: fmt.Sprintf("seed %d", seed)}
		policyCalls := somePolicyCalls(seed+900, 60)
		bytes := mixed(seed+77, 180)
		for i, call := range keepLogCalls(seed+40, 60) {
			b := bytes[3*i : 3*i+3]
			kept.log = wantStep(t, call, kept.log)
			kept.policy = wantPolicyStep(t, policyCalls[i], kept.policy)
			switch b[0] % 4 {
			case 0:
				kept.log = wantSweptFirst(t, kept, int64(b[1]%4))
			case 1:
				row, field := int64(b[1]%8)-1, int64(b[2]%5)-1
				if wantAsked(t, kept, row, field) == impl.OK {
					kept.log = impl.AskForget(kept.log, kept.policy, row, field).Log
				}
			}
			wantDueEach(t, kept)
		}
	}
}

// What is told of what is not right.

func wantKeptNothing(t *testing.T, kept logAndPolicy) {
	t.Helper()
	wantDues(t, kept.what+": DuesOf", impl.DuesOf(kept.log, kept.policy), nil)
	for _, at := range []fieldPlace{{0, 0}, {0, 2}, {1, 1}, {2, 2}, {3, 0}, {-1, 0}, {6, 0}, {0, 3}} {
		wantNumber(t, kept.what+": MayForget", impl.MayForget(kept.log, kept.policy, at.row, at.field), impl.ErrForm)
		wantSweptCode(t, kept.what+": AskForget", impl.AskForget(kept.log, kept.policy, at.row, at.field), impl.ErrForm)
	}
	for _, budget := range []int64{-1, 0, 1, 5, 100, 101} {
		wantSweptCode(t, kept.what+": Sweep", impl.Sweep(kept.log, kept.policy, budget), impl.ErrForm)
	}
}

func TestWrongPoliciesKeepNothing(t *testing.T) {
	base := baseKept().log
	for i, wrong := range wrongPolicies() {
		for _, row := range []int64{-1, 0, 2, 5, 6} {
			wantPolicyCode(t, wrong.what+": Hold", impl.Hold(wrong.policy, row), impl.ErrForm)
			wantPolicyCode(t, wrong.what+": Free", impl.Free(wrong.policy, row), impl.ErrForm)
		}
		for _, r := range append(wrongRules()[:2], risingRules()[1], ruleOf("user", "age", 0, 0)) {
			wantPolicyCode(t, wrong.what+": RulePut", impl.RulePut(wrong.policy, r), impl.ErrForm)
			wantPolicyCode(t, wrong.what+": RuleDrop", impl.RuleDrop(wrong.policy, r.Kind, r.Field), impl.ErrForm)
		}
		for _, r := range wrong.policy.Rules[:min(3, len(wrong.policy.Rules))] {
			wantPolicyCode(t, wrong.what+": RulePut of its own", impl.RulePut(wrong.policy, r), impl.ErrForm)
			if len(r.Kind) <= impl.MaxBytes && len(r.Field) <= impl.MaxBytes {
				wantPolicyCode(t, wrong.what+": RuleDrop of its own", impl.RuleDrop(wrong.policy, r.Kind, r.Field), impl.ErrForm)
			}
		}
		for _, row := range wrong.policy.Held[:min(3, len(wrong.policy.Held))] {
			wantPolicyCode(t, wrong.what+": Hold of its own", impl.Hold(wrong.policy, row), impl.ErrForm)
			wantPolicyCode(t, wrong.what+": Free of its own", impl.Free(wrong.policy, row), impl.ErrForm)
		}
		if i%4 == 0 {
			wantKeptNothing(t, logAndPolicy{wrong.what, base, wrong.policy})
			wantKeptNothing(t, logAndPolicy{wrong.what + ", an empty log", impl.Log{}, wrong.policy})
		}
	}
	// A policy of which a part would be due, if it were right.
	due := baseKept().policy
	for _, rules := range [][]impl.Rule{
		append(slices.Clone(due.Rules), due.Rules[3]), append(slices.Clone(due.Rules), ruleOf("user", "zz", 3, 2)),
		append(slices.Clone(due.Rules), ruleOf("user", "z", 0, 0), ruleOf("user", "zz", 0, 0)), {due.Rules[3], due.Rules[0]},
	} {
		wantKeptNothing(t, logAndPolicy{"a policy of which a part is due", base, withRules(due, rules...)})
	}
	wantKeptNothing(t, logAndPolicy{"a policy that holds what there is not", base, holding(due, 3, 6)})
}

func TestWrongLogsKeepNothing(t *testing.T) {
	policy := holding(policyOf(ruleOf("note", "text", 0, 0), ruleOf("user", "age", 0, 3), ruleOf("user", "city", 0, 1)), 2)
	for i, wrong := range wrongLogs() {
		if i%5 == 0 || wrong.log.Now > impl.MaxTime {
			wantKeptNothing(t, logAndPolicy{wrong.what, wrong.log, policy})
			wantKeptNothing(t, logAndPolicy{wrong.what + ", no rules", wrong.log, impl.Policy{}})
		}
	}
	base := baseKept()
	for i := range base.log.Leaves {
		less := withLeaves(base.log, slices.Delete(slices.Clone(base.log.Leaves), i, i+1)...)
		wantKeptNothing(t, logAndPolicy{"a leaf lacks", less, base.policy})
	}
	wantKeptNothing(t, logAndPolicy{"both are wrong", impl.Log{Now: -1}, policyOf(impl.Rule{})})
}

// What is handed in stays, and what was handed back.

func copyOfPolicy(p impl.Policy) impl.Policy {
	return impl.Policy{Rules: slices.Clone(p.Rules), Held: slices.Clone(p.Held)}
}

// roomyPolicy is a copy with room behind each of its lists that is marked.
func roomyPolicy(p impl.Policy) impl.Policy {
	rules := append(make([]impl.Rule, 0, len(p.Rules)+5), p.Rules...)
	for i := len(rules); i < cap(rules); i++ {
		rules[:cap(rules)][i] = ruleOf("mark", "mark", 1, 1)
	}
	held := append(make([]int64, 0, len(p.Held)+5), p.Held...)
	for i := len(held); i < cap(held); i++ {
		held[:cap(held)][i] = 77
	}
	return impl.Policy{Rules: rules, Held: held}
}

func wantPolicyUntouched(t *testing.T, what string, p, before impl.Policy) {
	t.Helper()
	wantPolicy(t, what, impl.PolicyOut{Policy: p}, impl.PolicyOut{Policy: before})
	for _, r := range p.Rules[len(p.Rules):cap(p.Rules)] {
		if r != ruleOf("mark", "mark", 1, 1) {
			t.Errorf("%s: behind the Rules stands %+v", what, r)
		}
	}
	for _, row := range p.Held[len(p.Held):cap(p.Held)] {
		if row != 77 {
			t.Errorf("%s: behind Held stands %d", what, row)
		}
	}
}

func spoilPolicy(p impl.Policy) {
	for i := range p.Rules[:cap(p.Rules)] {
		p.Rules[:cap(p.Rules)][i] = ruleOf("spoiled", "spoiled", -9, -9)
	}
	for i := range p.Held[:cap(p.Held)] {
		p.Held[:cap(p.Held)][i] = -9
	}
}

func spoilDues(dues []impl.Due) {
	for i := range dues[:cap(dues)] {
		dues[:cap(dues)][i] = impl.Due{Row: -9, Field: -9, At: -9}
	}
}

// policiesFrom has what the calls make of a policy.
func policiesFrom(p impl.Policy) []impl.Policy {
	var out []impl.Policy
	for row := int64(-1); row <= impl.MaxRows; row++ {
		out = append(out, impl.Hold(p, row).Policy, impl.Free(p, row).Policy)
	}
	for _, r := range append(risingRules()[:5], append(slices.Clone(p.Rules[:min(len(p.Rules), 7)]), ruleOf("user", "age", 0, 1), ruleOf("zz", "zz", 4, 4))...) {
		out = append(out, impl.RulePut(p, r).Policy, impl.RuleDrop(p, r.Kind, r.Field).Policy)
	}
	return out
}

// sweptFrom has the logs that the calls make.
func sweptFrom(l impl.Log, p impl.Policy) []impl.Log {
	var out []impl.Log
	for _, budget := range []int64{-1, 0, 1, 2, 100} {
		out = append(out, impl.Sweep(l, p, budget).Log)
	}
	for _, at := range []fieldPlace{{0, 0}, {0, 1}, {0, 2}, {1, 0}, {2, 0}, {2, 2}, {3, 0}, {9, 9}} {
		impl.MayForget(l, p, at.row, at.field)
		out = append(out, impl.AskForget(l, p, at.row, at.field).Log)
	}
	return out
}

func TestPoliciesAreLeftAlone(t *testing.T) {
	policies := append(rightPolicies(), wrongPolicies()[3].policy, holding(fullPolicy(), 5, 4), policyOf(risingRules()...))
	for i, p := range policies {
		what := fmt.Sprintf("policy %d", i)
		given := roomyPolicy(p)
		impl.PolicyRight(given)
		made := policiesFrom(given)
		var kept []impl.Policy
		for _, one := range made {
			kept = append(kept, copyOfPolicy(one))
		}
		for _, from := range append([]impl.Policy{given}, made...) {
			for _, later := range policiesFrom(from) {
				spoilPolicy(later)
			}
		}
		for j := range made {
			wantPolicy(t, what+": one that was told before", impl.PolicyOut{Policy: made[j]}, impl.PolicyOut{Policy: kept[j]})
			spoilPolicy(made[j])
		}
		wantPolicyUntouched(t, what, given, p)
	}
}

func TestKeptLogsAreLeftAlone(t *testing.T) {
	for _, one := range append(allKept()[:40], logAndPolicy{"wrong", impl.Log{Now: -1}, policyOf(impl.Rule{})}) {
		log, policy := roomyLog(one.log), roomyPolicy(one.policy)
		made, dues := sweptFrom(log, policy), impl.DuesOf(log, policy)
		var kept []impl.Log
		for _, l := range made {
			kept = append(kept, copyOfLog(l))
		}
		keptDues := slices.Clone(dues)
		for _, from := range append([]impl.Log{log}, made...) {
			for _, later := range sweptFrom(from, policy) {
				spoilLog(later)
			}
			spoilDues(impl.DuesOf(from, policy))
		}
		for i := range made {
			wantLog(t, one.what+": a log that was told before", impl.LogOut{Log: made[i]}, impl.LogOut{Log: kept[i]})
			spoilLog(made[i])
		}
		wantDues(t, one.what+": dues that were told before", dues, keptDues)
		spoilDues(dues)
		wantLogUntouched(t, one.what, log, one.log)
		wantPolicyUntouched(t, one.what, policy, one.policy)
	}
}

// What was told stays, when what was handed in is changed behind it.
func TestKeepingKeepsNothingOfItsArguments(t *testing.T) {
	for _, one := range []logAndPolicy{baseKept(), fullKept(), {"nothing", impl.Log{}, fullPolicy()}} {
		log, policy := copyOfLog(one.log), copyOfPolicy(one.policy)
		policies, logs, dues := policiesFrom(policy), sweptFrom(log, policy), impl.DuesOf(log, policy)
		spoilLog(log)
		spoilPolicy(policy)
		for i, want := range policiesFrom(one.policy) {
			wantPolicy(t, one.what+": a policy behind its argument is spoiled", impl.PolicyOut{Policy: policies[i]}, impl.PolicyOut{Policy: want})
		}
		for i, want := range sweptFrom(one.log, one.policy) {
			wantLog(t, one.what+": a log behind its argument is spoiled", impl.LogOut{Log: logs[i]}, impl.LogOut{Log: want})
		}
		wantDues(t, one.what+": dues behind their argument is spoiled", dues, duesIn(one.log, one.policy))
	}
}

// No list of one answer reaches into another one of it.
func TestListsOfASweepShareNothing(t *testing.T) {
	for _, one := range []logAndPolicy{baseKept(), fullKept()} {
		wants := sweptFrom(one.log, one.policy)
		for which, want := range wants {
			for i := range want.Rows {
				got := sweptFrom(one.log, one.policy)[which]
				spoilRow(got.Rows[i])
				for j, r := range got.Rows {
					if j != i {
						wantRow(t, one.what+": a row behind another one is spoiled", impl.RowOut{Row: r}, impl.RowOut{Row: want.Rows[j]})
					}
				}
				wantTexts(t, one.what+": leaves behind a row is spoiled", got.Leaves, want.Leaves)
			}
			got := sweptFrom(one.log, one.policy)[which]
			spoilTexts(got.Leaves)
			if !slices.EqualFunc(got.Rows, want.Rows, sameRow) {
				t.Errorf("%s: rows behind the leaves are spoiled are others", one.what)
			}
		}
	}
}

func textsOfPolicy(p impl.Policy) []string {
	var out []string
	for _, r := range p.Rules {
		out = append(out, r.Kind, r.Field)
	}
	return longEnough(out)
}

func TestKeptTextsAreNewMemory(t *testing.T) {
	p := holding(policyOf(ruleOf("note", "text", 0, 5), ruleOf("user", "age", 9, 9), ruleOf("user", "name", 2, 4)), 1, 4)
	r, place := ruleOf("user", "city", 2, 2), ruleOf("user", "name", 2, 3)
	given := append(textsOfPolicy(p), textsOfPolicy(policyOf(r, place))...)
	for what, out := range map[string]impl.PolicyOut{
		"RulePut": impl.RulePut(p, r), "RulePut in place of one": impl.RulePut(p, place), "RuleDrop": impl.RuleDrop(p, "user", "age"),
		"Hold": impl.Hold(p, 3), "Free": impl.Free(p, 4),
	} {
		wantNumber(t, what, out.Code, impl.OK)
		wantNewMemory(t, what, textsOfPolicy(out.Policy), given)
	}
	for _, one := range []logAndPolicy{baseKept(), fullKept()} {
		given := append(textsOfLog(one.log), textsOfPolicy(one.policy)...)
		for _, l := range sweptFrom(one.log, one.policy) {
			wantNewMemory(t, one.what, textsOfLog(l), given)
		}
	}
}

// Nothing is kept: the same calls tell the same, whatever came between.
func TestKeepingHasNoMemory(t *testing.T) {
	base := baseKept()
	tell := func() string {
		return fmt.Sprintf("%q %v %v", []any{sweptFrom(base.log, base.policy), policiesFrom(base.policy)}, impl.DuesOf(base.log, base.policy), impl.MayForget(base.log, base.policy, 1, 1))
	}
	before := tell()
	for _, other := range allKept()[:30] {
		sweptFrom(other.log, other.policy)
		policiesFrom(other.policy)
		impl.DuesOf(base.log, other.policy)
	}
	wantBytes(t, "the same again", tell(), before)
}
