package tests

import (
	"math/bits"
	"slices"
	"strconv"
	"strings"
	"testing"

	"loop.example/g00911/impl"
)

// limitedDawg returns the automaton of forms and OK, or ErrFull if there are too many of them or of its nodes.
func limitedDawg(forms []string) (impl.Dawg, int64) {
	if len(sortedOnce(forms)) > 3000 {
		return impl.Dawg{}, impl.ErrFull
	}
	d := automatonOf(forms...)
	if len(d.Nodes) > 3000 {
		return impl.Dawg{}, impl.ErrFull
	}
	return d, impl.OK
}

// inBoth, inEither and inFirst combine lists of strings; the results are in strictly increasing order.
func inBoth(a, b []string) []string {
	return sortedOnce(slices.DeleteFunc(slices.Clone(a), func(s string) bool { return !slices.Contains(b, s) }))
}

func inEither(a, b []string) []string {
	return sortedOnce(slices.Concat(a, b))
}

func inFirst(a, b []string) []string {
	return sortedOnce(slices.DeleteFunc(slices.Clone(a), func(s string) bool { return slices.Contains(b, s) }))
}

// tailsOf returns what follows a beginning, but not the empty string.
func tailsOf(forms []string, beginning string) []string {
	tails, _ := stringsBehind(forms, beginning)
	return inFirst(tails, []string{""})
}

// backward returns strings in strictly increasing order, the bytes of each in reverse order.
func backward(forms []string) []string {
	var all []string
	for _, form := range forms {
		turned := ""
		for i := range len(form) {
			turned = form[i:i+1] + turned
		}
		all = append(all, turned)
	}
	return sortedOnce(all)
}

// changedForms does what ChangeDawg is told to do with a list of forms, and returns a code. It does not look at the limits.
func changedForms(forms, less, more []string) ([]string, int64) {
	now := slices.Clone(forms)
	for _, s := range less {
		if !slices.Contains(now, s) {
			return nil, impl.ErrNotFound
		}
		now = inFirst(now, []string{s})
	}
	for _, s := range more {
		if !formPattern.MatchString(s) {
			return nil, impl.ErrSyntax
		}
		if slices.Contains(now, s) {
			return nil, impl.ErrExists
		}
		now = inEither(now, []string{s})
	}
	return now, impl.OK
}

// sameChanged checks an automaton with a code: it is the one of forms, or nothing if the code is not OK.
func sameChanged(t *testing.T, what string, got coded[impl.Dawg], forms []string, code int64) {
	t.Helper()
	want := impl.Dawg{}
	if code == impl.OK {
		want, code = limitedDawg(forms)
	}
	sameDawg(t, what, got.value, got.code, want, code)
}

// sameTold checks DawgChanges.
func sameTold(t *testing.T, what string, a, b impl.Dawg, less, more []string, code int64) {
	t.Helper()
	first, second, got := impl.DawgChanges(a, b)
	sameList(t, "what DawgChanges takes away, "+what, first, less)
	sameList(t, "what DawgChanges adds, "+what, second, more)
	same(t, "code of DawgChanges, "+what, got, code)
}

// sameCombined checks all functions with two automata.
func sameCombined(t *testing.T, what string, a, b impl.Dawg, first, second []string) {
	t.Helper()
	sameChanged(t, "UnionDawg of "+what, withCode(impl.UnionDawg(a, b)), inEither(first, second), impl.OK)
	sameChanged(t, "MeetDawg of "+what, withCode(impl.MeetDawg(a, b)), inBoth(first, second), impl.OK)
	sameChanged(t, "MinusDawg of "+what, withCode(impl.MinusDawg(a, b)), inFirst(first, second), impl.OK)
	sameTold(t, what, a, b, inFirst(first, second), inFirst(second, first), impl.OK)
}

// sameTails checks TailDawg for all beginnings of forms and for strings that lead nowhere.
func sameTails(t *testing.T, what string, d impl.Dawg, forms []string) {
	t.Helper()
	prefixes := []string{"", "a", "b", ">", "z", "at", "A", "?", "a\x00", "\xff", "é", "aaaaaaaaaaaaaa", strings.Repeat("a", 5000)}
	for _, form := range forms[:min(30, len(forms))] {
		for n := range len(form) {
			prefixes = append(prefixes, form[:n+1])
		}
		prefixes = append(prefixes, form+"a", form+">", form+"\x00", form[1:])
	}
	for _, prefix := range sortedOnce(prefixes) {
		sameChanged(t, "TailDawg of "+what+" behind "+strconv.Quote(prefix), withCode(impl.TailDawg(d, prefix)), tailsOf(forms, prefix), impl.OK)
	}
}

// notForms are strings that are no forms.
func notForms() []string {
	all := []string{"", "aaaaaaaaaaaaaa", "abcdefghijklmn", ">>>>>>>>>>>>>>", "aaaaaaaaaaaaa ", "A", "aT", "At", "a t", " at", "at ", "a\n", "\na", "a?", "?", "a-", "a1", "=", "a=", "`a", "a{", "a\x00", "a\xff", "a\u212a", strings.Repeat("a", 5000)}
	for _, s := range oddStrings() {
		if !formPattern.MatchString(s) {
			all = append(all, s)
		}
	}
	return all
}

// TestAddAndRemove adds and removes strings one by one, and takes every change back.
func TestAddAndRemove(t *testing.T) {
	for i, forms := range formSets() {
		if len(forms) > 60 {
			continue
		}
		what := "the automaton " + strconv.Itoa(i)
		d := automatonOf(forms...)
		tried := slices.Concat(wordsOver(">ab", 1, 2), []string{"z", "zzzzzzzzzzzzz", "abababababab>", "aaaaaaaaaaaaa"})
		for _, form := range forms {
			tried = append(tried, form, form[1:], form[:len(form)-1], form+"a", form+">", "a"+form, ">"+form)
		}
		for _, s := range sortedOnce(tried) {
			accepted, isForm := slices.Contains(forms, s), formPattern.MatchString(s)
			more, added := impl.AddToDawg(d, s)
			less, removed := impl.RemoveFromDawg(d, s)
			if accepted {
				sameChanged(t, "AddToDawg of "+s+" to "+what, withCode(more, added), nil, impl.ErrExists)
				sameChanged(t, "RemoveFromDawg of "+s+" from "+what, withCode(less, removed), inFirst(forms, []string{s}), impl.OK)
				back, code := impl.AddToDawg(less, s)
				sameDawg(t, "removed and added: "+s, back, code, d, impl.OK)
				continue
			}
			sameChanged(t, "RemoveFromDawg of "+s+" from "+what, withCode(less, removed), nil, impl.ErrNotFound)
			if !isForm {
				sameChanged(t, "AddToDawg of "+s+" to "+what, withCode(more, added), nil, impl.ErrSyntax)
				continue
			}
			sameChanged(t, "AddToDawg of "+s+" to "+what, withCode(more, added), inEither(forms, []string{s}), impl.OK)
			back, code := impl.RemoveFromDawg(more, s)
			sameDawg(t, "added and removed: "+s, back, code, d, impl.OK)
		}
		for _, s := range notForms() {
			sameChanged(t, "AddToDawg of no form", withCode(impl.AddToDawg(d, s)), nil, impl.ErrSyntax)
			sameChanged(t, "RemoveFromDawg of no form", withCode(impl.RemoveFromDawg(d, s)), nil, impl.ErrNotFound)
		}
	}
}

// TestChangesByHand has automata that were made by hand, and the examples of the document.
func TestChangesByHand(t *testing.T) {
	texts := func(what, want string, d impl.Dawg, code int64) {
		t.Helper()
		same(t, what, withCode(impl.DawgText(d), code), withCode(want, impl.OK))
	}
	read := func(text string) impl.Dawg {
		d, ok := impl.ReadDawg(text)
		same(t, "ReadDawg of "+strconv.Quote(text), ok, true)
		return d
	}
	nothing, two, three := read("-\n"), read("- a1 e1\n- t2\n+\n"), read("- a1 t4\n- t2\n+ e3\n+\n- e5\n- a3\n")
	d, code := impl.AddToDawg(nothing, "at")
	texts("at added to nothing", "- a1\n- t2\n+\n", d, code)
	d, code = impl.AddToDawg(d, "a")
	texts("a added to at", "- a1\n+ t2\n+\n", d, code)
	d, code = impl.AddToDawg(d, "ate")
	texts("ate added to a and at", "- a1\n+ t2\n+ e3\n+\n", d, code)
	d, code = impl.RemoveFromDawg(d, "at")
	texts("at removed from a, at and ate", "- a1\n+ t2\n- e3\n+\n", d, code)
	d, code = impl.RemoveFromDawg(d, "a")
	texts("a removed from a and ate", "- a1\n- t2\n- e3\n+\n", d, code)
	d, code = impl.RemoveFromDawg(d, "ate")
	texts("ate removed from ate", "-\n", d, code)
	d, code = impl.AddToDawg(two, "ate")
	texts("ate added to at and et", "- a1 e4\n- t2\n+ e3\n+\n- t3\n", d, code)
	d, code = impl.RemoveFromDawg(d, "ate")
	texts("ate removed from at, ate and et", "- a1 e1\n- t2\n+\n", d, code)
	d, code = impl.RemoveFromDawg(two, "at")
	texts("at removed from at and et", "- e1\n- t2\n+\n", d, code)
	d, code = impl.ChangeDawg(two, []string{"at", "et"}, []string{"ta", "a>t"})
	texts("at and et changed to ta and a>t", "- a1 t4\n- >2\n- t3\n+\n- a3\n", d, code)
	d, code = impl.TailDawg(three, "a")
	texts("behind a of at, ate and tea", "- t1\n+ e2\n+\n", d, code)
	d, code = impl.TailDawg(three, "at")
	texts("behind at", "- e1\n+\n", d, code)
	d, code = impl.TailDawg(three, "ate")
	texts("behind ate", "-\n", d, code)
	d, code = impl.TailDawg(three, "ta")
	texts("behind ta", "-\n", d, code)
	d, code = impl.TailDawg(three, "")
	texts("behind nothing", "- a1 t4\n- t2\n+ e3\n+\n- e5\n- a3\n", d, code)
	d, code = impl.ReverseDawg(three)
	texts("aet, eta and ta", "- a1 e4 t5\n- e2\n- t3\n+\n- t5\n- a3\n", d, code)
	d, code = impl.ReverseDawg(read("- >1 a3\n- e2\n+\n- >1\n"))
	texts("a>e and >e reversed", "- e1\n- >2\n+ a3\n+\n", d, code)
	d, code = impl.UnionDawg(two, three)
	texts("at, ate, et and tea", "- a1 e4 t5\n- t2\n+ e3\n+\n- t3\n- e6\n- a3\n", d, code)
	d, code = impl.MeetDawg(two, three)
	texts("at", "- a1\n- t2\n+\n", d, code)
	d, code = impl.MinusDawg(two, three)
	texts("et", "- e1\n- t2\n+\n", d, code)
	d, code = impl.MinusDawg(three, two)
	texts("ate and tea", "- a1 t4\n- t2\n- e3\n+\n- e5\n- a3\n", d, code)
	sameTold(t, "two and three", two, three, []string{"et"}, []string{"ate", "tea"}, impl.OK)
	sameTold(t, "three and two", three, two, []string{"ate", "tea"}, []string{"et"}, impl.OK)
	sameTold(t, "equal automata", three, three, nil, nil, impl.OK)
	sameTold(t, "nothing twice", nothing, nothing, nil, nil, impl.OK)
	sameTold(t, "nothing and two", nothing, two, nil, []string{"at", "et"}, impl.OK)
	sameTold(t, "two and nothing", two, nothing, []string{"at", "et"}, nil, impl.OK)
}

// allSets returns all sets of some strings.
func allSets(some ...string) [][]string {
	var all [][]string
	for chosen := range 1 << len(some) {
		set := make([]string, 0, bits.OnesCount(uint(chosen)))
		for i, s := range some {
			if chosen>>i&1 == 1 {
				set = append(set, s)
			}
		}
		all = append(all, set)
	}
	return all
}

// TestAllPairs combines all sets of some strings, most of which are beginnings of others, and is promise 8 for them.
func TestAllPairs(t *testing.T) {
	some := []string{">", "a", "a>b", "ab", "aba", "b", "bb"}
	sets := allSets(some...)
	var all []impl.Dawg
	for _, set := range sets {
		all = append(all, automatonOf(set...))
	}
	for i, a := range all {
		for k, b := range all {
			what := strings.Join(sets[i], " ") + " and " + strings.Join(sets[k], " ")
			d, code := impl.UnionDawg(a, b)
			sameDawg(t, "UnionDawg of "+what, d, code, all[i|k], impl.OK)
			d, code = impl.MeetDawg(a, b)
			sameDawg(t, "MeetDawg of "+what, d, code, all[i&k], impl.OK)
			d, code = impl.MinusDawg(a, b)
			sameDawg(t, "MinusDawg of "+what, d, code, all[i&^k], impl.OK)
			sameTold(t, what, a, b, sets[i&^k], sets[k&^i], impl.OK)
			d, code = impl.ChangeDawg(a, sets[i&^k], sets[k&^i])
			sameDawg(t, "ChangeDawg of "+what, d, code, b, impl.OK)
		}
		sameTails(t, strings.Join(sets[i], " "), a, sets[i])
		sameChanged(t, "ReverseDawg of "+strings.Join(sets[i], " "), withCode(impl.ReverseDawg(a)), backward(sets[i]), impl.OK)
	}
}

// TestCombinations combines automata of all kinds, also each one with itself, with nothing, and with one that has
// nothing in common with it.
func TestCombinations(t *testing.T) {
	sets := formSets()
	for i, a := range sets {
		for k, b := range sets {
			if (len(a) > 60 || len(b) > 60) && i != k && len(a) != 0 && len(b) != 0 && (i+k)%7 != 0 {
				continue
			}
			sameCombined(t, strconv.Itoa(i)+" and "+strconv.Itoa(k), automatonOf(a...), automatonOf(b...), a, b)
		}
		d := automatonOf(a...)
		var apart []string
		for _, form := range a {
			if len(form) < 13 {
				apart = append(apart, "q"+form)
			}
		}
		sameCombined(t, strconv.Itoa(i)+" and apart", d, automatonOf(apart...), a, sortedOnce(apart))
		union, one := impl.UnionDawg(d, d)
		meet, two := impl.MeetDawg(d, d)
		minus, three := impl.MinusDawg(d, d)
		sameDawg(t, "the union of an automaton with itself", union, one, d, impl.OK)
		sameDawg(t, "what an automaton has in common with itself", meet, two, d, impl.OK)
		sameDawg(t, "an automaton without itself", minus, three, automatonOf(), impl.OK)
	}
}

// TestTailsAndReverses has automata of all kinds.
func TestTailsAndReverses(t *testing.T) {
	for i, forms := range formSets() {
		what := "the automaton " + strconv.Itoa(i)
		d := automatonOf(forms...)
		sameTails(t, what, d, forms)
		back, code := impl.ReverseDawg(d)
		sameChanged(t, "ReverseDawg of "+what, withCode(back, code), backward(forms), impl.OK)
		again, code := impl.ReverseDawg(back)
		sameDawg(t, "ReverseDawg twice of "+what, again, code, d, impl.OK)
		tail, code := impl.TailDawg(d, "")
		sameDawg(t, "TailDawg of "+what+" behind nothing", tail, code, d, impl.OK)
	}
	for _, l := range fullLexicons() {
		d, _ := impl.BuildDawg(l)
		sameChanged(t, "ReverseDawg of a full lexicon", withCode(impl.ReverseDawg(d)), backward(l.Words), impl.OK)
		sameChanged(t, "TailDawg of a full lexicon", withCode(impl.TailDawg(d, "z")), tailsOf(l.Words, "z"), impl.OK)
	}
}

// TestChangeDawg does many changes with lists of strings, and compares codes and results with those of single steps.
func TestChangeDawg(t *testing.T) {
	next := numbers(13)
	codes := map[int64]int{}
	pool := slices.Concat(wordsOver(">ab", 1, 3), []string{"zzzzzzzzzzzzz", "abcdefghijklm"})
	spoilt := slices.Concat(pool, slices.Repeat([]string{"", "A", "aaaaaaaaaaaaaa", "a\x00", "?"}, 9))
	for range 3000 {
		var forms, less, more []string
		for range next(12) {
			forms = append(forms, pool[next(uint32(len(pool)))])
		}
		forms = sortedOnce(forms)
		for _, form := range mixed(next, forms) {
			if next(3) == 0 {
				less = append(less, form)
			}
		}
		for range next(6) {
			more = append(more, pool[next(uint32(len(pool)))])
		}
		more = mixed(next, sortedOnce(more))
		switch next(4) {
		case 0:
			less = append(less, spoilt[next(uint32(len(spoilt)))])
		case 1:
			more = append(more, spoilt[next(uint32(len(spoilt)))])
		case 2:
			more = inFirst(more, inFirst(forms, less))
			more = mixed(next, append(more, less...))
			more = sortedOnce(more)
		}
		what := "ChangeDawg of " + strings.Join(forms, " ") + " without " + strings.Join(less, " ") + " and with " + strings.Join(more, " ")
		want, code := changedForms(forms, less, more)
		d, got := impl.ChangeDawg(automatonOf(forms...), less, more)
		sameChanged(t, what, withCode(d, got), want, code)
		codes[code]++
		step, code := automatonOf(forms...), int64(impl.OK)
		for _, s := range less {
			if code == impl.OK {
				step, code = impl.RemoveFromDawg(step, s)
			}
		}
		for _, s := range more {
			if code == impl.OK {
				step, code = impl.AddToDawg(step, s)
			}
		}
		sameDawg(t, what+" step by step", step, code, d, got)
	}
	for _, code := range []int64{impl.OK, impl.ErrNotFound, impl.ErrExists, impl.ErrSyntax} {
		same(t, "many changes with the code "+strconv.FormatInt(code, 10), codes[code] > 100, true)
	}
}

// TestChangesThatFail has lists with a string that is wrong in the middle, or twice there, and several wrong ones.
func TestChangesThatFail(t *testing.T) {
	forms := []string{"at", "ate", "eat", "et", "tea"}
	d := automatonOf(forms...)
	for _, c := range []struct {
		less, more []string
		code       int64
	}{
		{nil, nil, impl.OK}, {[]string{"at"}, []string{"at"}, impl.OK}, {forms, forms, impl.OK}, {forms, nil, impl.OK},
		{[]string{"at", "ta", "ate"}, nil, impl.ErrNotFound}, {[]string{"at", "at"}, nil, impl.ErrNotFound}, {[]string{"at", "A"}, []string{"a"}, impl.ErrNotFound},
		{[]string{""}, nil, impl.ErrNotFound}, {[]string{"ta"}, []string{"A"}, impl.ErrNotFound}, {[]string{"ta"}, []string{"ta"}, impl.ErrNotFound}, {append(slices.Clone(forms), "at"), nil, impl.ErrNotFound},
		{nil, []string{"a", "at", "b"}, impl.ErrExists}, {nil, []string{"a", "a"}, impl.ErrExists}, {[]string{"at"}, []string{"at", "at"}, impl.ErrExists}, {[]string{"at"}, []string{"ate", "A"}, impl.ErrExists},
		{nil, []string{"a", "A", "b"}, impl.ErrSyntax}, {nil, []string{"A", "at"}, impl.ErrSyntax}, {nil, []string{"at", "A"}, impl.ErrExists}, {nil, []string{""}, impl.ErrSyntax}, {[]string{"at"}, []string{"a", ""}, impl.ErrSyntax},
		{nil, []string{"aaaaaaaaaaaaa"}, impl.OK}, {nil, []string{"aaaaaaaaaaaaaa"}, impl.ErrSyntax}, {[]string{"at", "et"}, []string{"et", ">"}, impl.OK},
	} {
		want, code := changedForms(forms, c.less, c.more)
		same(t, "the code of "+strings.Join(c.less, ",")+" and "+strings.Join(c.more, ","), code, c.code)
		sameChanged(t, "ChangeDawg with "+strings.Join(c.less, ",")+" and "+strings.Join(c.more, ","), withCode(impl.ChangeDawg(d, c.less, c.more)), want, c.code)
	}
}

// sizedForms are forms whose automaton has n nodes, and as many if their bytes are reversed; n is 2991 to 3000.
func sizedForms(n int) []string {
	return append(pairedForms(295), "lj"+strings.Repeat("a", n-2991)+"lj")
}

// fork are strings whose automaton has the node of a, b and c behind both z and y, which is the only node that there
// is not in that of sizedForms. If one of them is removed, there is a further node.
func fork() []string {
	return []string{"ya", "yb", "yc", "za", "zb", "zc"}
}

// sameSize checks that an automaton that a test uses is as large as it must be.
func sameSize(t *testing.T, what string, forms []string, nodes int) {
	t.Helper()
	same(t, "nodes of "+what, len(automatonOf(forms...).Nodes), nodes)
}

// TestTooManyStrings has results with as many strings as there may be, and one more.
func TestTooManyStrings(t *testing.T) {
	full := sortedOnce(blockForms())
	some, rest := full[:1500], full[1500:]
	d, almost := automatonOf(full...), automatonOf(full[1:]...)
	sameChanged(t, "the 3000th string", withCode(impl.AddToDawg(almost, full[0])), full, impl.OK)
	sameChanged(t, "the 3000th string, another one", withCode(impl.AddToDawg(almost, "zz")), append(full[1:], "zz"), impl.OK)
	sameChanged(t, "the 3001st string", withCode(impl.AddToDawg(d, "zz")), nil, impl.ErrFull)
	sameChanged(t, "the 3001st string, a beginning", withCode(impl.AddToDawg(d, "a")), nil, impl.ErrFull)
	sameChanged(t, "the 3000th string again", withCode(impl.AddToDawg(d, full[2999])), nil, impl.ErrExists)
	sameChanged(t, "no form behind 3000", withCode(impl.AddToDawg(d, "")), nil, impl.ErrSyntax)
	sameChanged(t, "one of 3000 removed", withCode(impl.RemoveFromDawg(d, full[7])), slices.Delete(slices.Clone(full), 7, 8), impl.OK)
	sameChanged(t, "one of 3000 exchanged", withCode(impl.ChangeDawg(d, full[:1], []string{"zz"})), append(full[1:], "zz"), impl.OK)
	sameChanged(t, "one of 3000 exchanged for two", withCode(impl.ChangeDawg(d, full[:1], []string{"zz", "zzz"})), nil, impl.ErrFull)
	sameChanged(t, "too many ahead of no form", withCode(impl.ChangeDawg(d, nil, []string{"zz", "A"})), nil, impl.ErrFull)
	sameChanged(t, "no form ahead of too many", withCode(impl.ChangeDawg(d, nil, []string{"A", "zz"})), nil, impl.ErrSyntax)
	sameChanged(t, "3000 strings from nothing", withCode(impl.ChangeDawg(automatonOf(), nil, blockForms())), full, impl.OK)
	sameChanged(t, "3001 strings from nothing", withCode(impl.ChangeDawg(automatonOf(), nil, append(blockForms(), "zz"))), nil, impl.ErrFull)
	sameChanged(t, "nothing from 3000 strings", withCode(impl.ChangeDawg(d, blockForms(), nil)), nil, impl.OK)
	sameCombined(t, "two halves", automatonOf(some...), automatonOf(rest...), some, rest)
	sameCombined(t, "two halves that overlap", automatonOf(full[:2000]...), automatonOf(full[1000:]...), full[:2000], full[1000:])
	sameCombined(t, "3000 and themselves", d, d, full, full)
	sameCombined(t, "3000 and one of them", d, automatonOf(full[7]), full, full[7:8])
	sameCombined(t, "3000 and nothing", d, automatonOf(), full, nil)
	sameCombined(t, "nothing and 3000", automatonOf(), d, nil, full)
	sameCombined(t, "3000 and one more", d, automatonOf("zz"), full, []string{"zz"})
	sameCombined(t, "one more and 3000", automatonOf(">"), d, []string{">"}, full)
	sameCombined(t, "2999 and one more", almost, automatonOf("zz"), full[1:], []string{"zz"})
	same(t, "code of the union of 3001", withCode(impl.UnionDawg(d, automatonOf("zz"))).code, int64(impl.ErrFull))
	same(t, "code of the union of 3000", withCode(impl.UnionDawg(almost, automatonOf("zz"))).code, int64(impl.OK))
	sameChanged(t, "3000 reversed", withCode(impl.ReverseDawg(d)), backward(full), impl.OK)
	sameChanged(t, "the tail of 3000 behind nothing", withCode(impl.TailDawg(d, "")), full, impl.OK)
	sameChanged(t, "the tail of 3000", withCode(impl.TailDawg(d, "c")), tailsOf(full, "c"), impl.OK)
}

// TestTooManyNodes has changes to automata with as many nodes as there may be, and one more.
func TestTooManyNodes(t *testing.T) {
	most := sizedForms(3000)
	d := automatonOf(most...)
	sameSize(t, "sizedForms", most, 3000)
	sameChanged(t, "3000 nodes and one more", withCode(impl.AddToDawg(d, "lklk")), nil, impl.ErrFull)
	sameChanged(t, "3000 nodes and two more", withCode(impl.AddToDawg(d, "zzzz")), nil, impl.ErrFull)
	sameChanged(t, "3000 nodes and none more", withCode(impl.AddToDawg(d, "lkla")), append(most, "lkla"), impl.OK)
	sameChanged(t, "3000 nodes and a string again", withCode(impl.AddToDawg(d, most[7])), nil, impl.ErrExists)
	sameChanged(t, "3000 nodes and no form", withCode(impl.AddToDawg(d, "lkLK")), nil, impl.ErrSyntax)
	sameChanged(t, "2999 nodes and one more", withCode(impl.AddToDawg(automatonOf(sizedForms(2999)...), "lklk")), append(sizedForms(2999), "lklk"), impl.OK)

	exact, over := append(sizedForms(2998), fork()...), append(sizedForms(2999), fork()...)
	sameSize(t, "2999 nodes with a fork", exact, 2999)
	sameSize(t, "3000 nodes with a fork", over, 3000)
	sameSize(t, "3000 nodes with a part of a fork", inFirst(exact, []string{"ya"}), 3000)
	sameSize(t, "3001 nodes with a part of a fork", inFirst(over, []string{"ya"}), 3001)
	sameSize(t, "3000 nodes with a smaller part of a fork", inFirst(over, []string{"ya", "yb"}), 3000)
	sameChanged(t, "one removed, so 3000 nodes", withCode(impl.RemoveFromDawg(automatonOf(exact...), "ya")), inFirst(exact, []string{"ya"}), impl.OK)
	d = automatonOf(over...)
	sameChanged(t, "one removed, so 3001 nodes", withCode(impl.RemoveFromDawg(d, "ya")), nil, impl.ErrFull)
	sameChanged(t, "what is not accepted removed from 3000 nodes", withCode(impl.RemoveFromDawg(d, "yd")), nil, impl.ErrNotFound)
	// There are too many nodes between the two steps of a change, but not behind both.
	sameChanged(t, "two removed, one by one", withCode(impl.ChangeDawg(d, []string{"ya", "yb"}, nil)), nil, impl.ErrFull)
	sameChanged(t, "two removed, the first one frees a node", withCode(impl.ChangeDawg(d, []string{"ljaaaaaaaalj", "ya", "yb"}, nil)), inFirst(over, []string{"ljaaaaaaaalj", "ya", "yb"}), impl.OK)
	sameChanged(t, "one removed ahead of one that is missing", withCode(impl.ChangeDawg(d, []string{"ya", "yd"}, nil)), nil, impl.ErrFull)
	sameChanged(t, "one that is missing ahead of one removed", withCode(impl.ChangeDawg(d, []string{"yd", "ya"}, nil)), nil, impl.ErrNotFound)
	sameChanged(t, "one removed and added", withCode(impl.ChangeDawg(d, []string{"ya"}, []string{"ya"})), nil, impl.ErrFull)
	part := inFirst(over, []string{"ya", "yb"})
	sameChanged(t, "two added, one by one", withCode(impl.ChangeDawg(automatonOf(part...), nil, []string{"yb", "ya"})), nil, impl.ErrFull)
	sameChanged(t, "one added, so 3001 nodes", withCode(impl.AddToDawg(automatonOf(part...), "yb")), nil, impl.ErrFull)
	sameChanged(t, "one added ahead of no form", withCode(impl.ChangeDawg(automatonOf(part...), nil, []string{"yb", "A"})), nil, impl.ErrFull)
	sameCombined(t, "3000 nodes and two of their strings", d, automatonOf("ya", "yb"), over, []string{"ya", "yb"})
	sameCombined(t, "3000 nodes and two further strings", automatonOf(part...), automatonOf("ya", "yb"), part, []string{"ya", "yb"})
	chain := []string{"ljaaaaaaaalj"}
	sameChanged(t, "two added, while other nodes are free", withCode(impl.ChangeDawg(automatonOf(part...), chain, []string{"yb", "ya", chain[0]})), over, impl.OK)
}

// TestTooManyNodesOfTwo combines automata to ones with as many nodes as there may be, and one more.
func TestTooManyNodesOfTwo(t *testing.T) {
	exact, over := append(sizedForms(2998), fork()...), append(sizedForms(2999), fork()...)
	for what, forms := range map[string][]string{"3000 nodes": exact, "3001 nodes": over} {
		want := int64(impl.OK)
		if what == "3001 nodes" {
			want = impl.ErrFull
		}
		d, rest, one := automatonOf(forms...), inFirst(forms, []string{"ya"}), []string{"ya"}
		sameCombined(t, "one string less, "+what, d, automatonOf("ya"), forms, one)
		same(t, "code of MinusDawg, "+what, withCode(impl.MinusDawg(d, automatonOf("ya"))).code, want)
		// All strings but one, and two more, which make the nodes behind li and lj one.
		last := forms[295]
		wide := inEither(rest, []string{"lj" + "aaaaaaaaa" + "li", "li" + last[2:]})
		b := automatonOf(wide...)
		same(t, "ValidDawg of the wide one, "+what, impl.ValidDawg(b), true)
		sameCombined(t, "in common, "+what, d, b, forms, wide)
		same(t, "code of MeetDawg, "+what, withCode(impl.MeetDawg(d, b)).code, want)
		sameCombined(t, "in common, the other way round, "+what, b, d, wide, forms)
		same(t, "code of MeetDawg the other way round, "+what, withCode(impl.MeetDawg(b, d)).code, want)
		low, high := rest[:150], rest[150:]
		sameCombined(t, "a union, "+what, automatonOf(low...), automatonOf(high...), low, high)
		same(t, "code of UnionDawg, "+what, withCode(impl.UnionDawg(automatonOf(low...), automatonOf(high...))).code, want)
	}
	most := sizedForms(3000)
	turned := append(slices.Clone(most), "a>a")
	sameSize(t, "one to reverse", turned, 3000)
	sameSize(t, "one reversed", backward(turned), 3000)
	sameChanged(t, "3000 nodes reversed", withCode(impl.ReverseDawg(automatonOf(most...))), backward(most), impl.OK)
	sameChanged(t, "3000 nodes reversed to 3000 others", withCode(impl.ReverseDawg(automatonOf(turned...))), backward(turned), impl.OK)
	turned = append(turned, "b>a")
	sameSize(t, "another one to reverse", turned, 3000)
	sameSize(t, "another one reversed", backward(turned), 3001)
	d, code := impl.ReverseDawg(automatonOf(turned...))
	sameDawg(t, "3000 nodes reversed to 3001", d, code, impl.Dawg{}, impl.ErrFull)
	sameTails(t, "3000 nodes", automatonOf(most...), most)
	sameTails(t, "3000 nodes behind one", automatonOf(turned...), turned)
}

// TestChangesLead is promise 8: the changes from one automaton to another one lead there.
func TestChangesLead(t *testing.T) {
	sets := append(formSets(), sortedOnce(blockForms()), sizedForms(2991))
	for i, a := range sets {
		b := sets[(i+5)%len(sets)]
		first, second := automatonOf(a...), automatonOf(b...)
		less, more, code := impl.DawgChanges(first, second)
		same(t, "code of DawgChanges", code, int64(impl.OK))
		got, code := impl.ChangeDawg(first, less, more)
		sameDawg(t, "changes from "+strconv.Itoa(i), got, code, second, impl.OK)
		back, code := impl.ChangeDawg(second, more, less)
		sameDawg(t, "changes back to "+strconv.Itoa(i), back, code, first, impl.OK)
		minus, _ := impl.MinusDawg(first, second)
		sameCodedList(t, "WordsOf MinusDawg", withCode(impl.WordsOf(minus)), less, impl.OK)
		meet, _ := impl.MeetDawg(first, second)
		again, code := impl.UnionDawg(minus, meet)
		sameDawg(t, "what both have, and what only one has", again, code, first, impl.OK)
	}
}

// TestChangesOfInvalidDawgs gives automata that are not valid to every function of the chapter; they are told before all else.
func TestChangesOfInvalidDawgs(t *testing.T) {
	valid := []impl.Dawg{automatonOf(), automatonOf("at", "et"), automatonOf(blockForms()...), automatonOf(sizedForms(3000)...)}
	wrong := func(what string, d impl.Dawg, code int64) {
		t.Helper()
		if code != impl.ErrInvalid || d.Nodes != nil {
			t.Errorf("%s: got %v and %d", what, d, code)
		}
	}
	for what, d := range invalidDawgs() {
		for _, s := range []string{"", "a", "at", ">", "A", "aaaaaaaaaaaaaa"} {
			more, code := impl.AddToDawg(d, s)
			wrong("AddToDawg with "+what, more, code)
			less, code := impl.RemoveFromDawg(d, s)
			wrong("RemoveFromDawg with "+what, less, code)
			tail, code := impl.TailDawg(d, s)
			wrong("TailDawg with "+what, tail, code)
			changed, code := impl.ChangeDawg(d, []string{s}, []string{s, "A"})
			wrong("ChangeDawg with "+what, changed, code)
		}
		same1, code := impl.ChangeDawg(d, nil, nil)
		wrong("ChangeDawg by nothing with "+what, same1, code)
		back, code := impl.ReverseDawg(d)
		wrong("ReverseDawg with "+what, back, code)
		for i, b := range append(slices.Clone(valid), d) {
			if i == 3 && len(d.Nodes) > 100 {
				continue
			}
			for _, pair := range [][2]impl.Dawg{{d, b}, {b, d}} {
				union, code := impl.UnionDawg(pair[0], pair[1])
				wrong("UnionDawg with "+what, union, code)
				meet, code := impl.MeetDawg(pair[0], pair[1])
				wrong("MeetDawg with "+what, meet, code)
				minus, code := impl.MinusDawg(pair[0], pair[1])
				wrong("MinusDawg with "+what, minus, code)
				sameTold(t, what, pair[0], pair[1], nil, nil, impl.ErrInvalid)
			}
		}
	}
}

// changers are all functions of the chapter that make an automaton, with two automata and two lists of strings.
func changers() map[string]func(a, b impl.Dawg, less, more []string) (impl.Dawg, int64) {
	return map[string]func(a, b impl.Dawg, less, more []string) (impl.Dawg, int64){
		"AddToDawg":      func(a, _ impl.Dawg, _, more []string) (impl.Dawg, int64) { return impl.AddToDawg(a, more[0]) },
		"RemoveFromDawg": func(a, _ impl.Dawg, less, _ []string) (impl.Dawg, int64) { return impl.RemoveFromDawg(a, less[0]) },
		"ChangeDawg":     func(a, _ impl.Dawg, less, more []string) (impl.Dawg, int64) { return impl.ChangeDawg(a, less, more) },
		"no change":      func(a, _ impl.Dawg, _, _ []string) (impl.Dawg, int64) { return impl.ChangeDawg(a, nil, nil) },
		"UnionDawg":      func(a, b impl.Dawg, _, _ []string) (impl.Dawg, int64) { return impl.UnionDawg(a, b) },
		"union with one": func(a, _ impl.Dawg, _, _ []string) (impl.Dawg, int64) { return impl.UnionDawg(a, a) },
		"MeetDawg":       func(a, b impl.Dawg, _, _ []string) (impl.Dawg, int64) { return impl.MeetDawg(a, b) },
		"MinusDawg":      func(a, b impl.Dawg, _, _ []string) (impl.Dawg, int64) { return impl.MinusDawg(a, b) },
		"TailDawg":       func(a, _ impl.Dawg, _, _ []string) (impl.Dawg, int64) { return impl.TailDawg(a, "a") },
		"the whole":      func(a, _ impl.Dawg, _, _ []string) (impl.Dawg, int64) { return impl.TailDawg(a, "") },
		"ReverseDawg":    func(a, _ impl.Dawg, _, _ []string) (impl.Dawg, int64) { return impl.ReverseDawg(a) },
	}
}

// TestPurityOfChanges is promise 1 for chapter 8: arguments stay, also their unused capacity, and results are equal again.
func TestPurityOfChanges(t *testing.T) {
	all := validDawgs()
	for _, d := range invalidDawgs() {
		if len(d.Nodes) < 100 {
			all = append(all, d)
		}
	}
	for i, d := range all {
		other := all[(i+3)%len(all)]
		a, b := copiedDawg(d), copiedDawg(other)
		words := []string{"at", "b", "aq"}
		less, more := roomy(words, "mark"), roomy(words, "mark")
		for what, change := range changers() {
			first, code := change(a, b, less, more)
			second, again := change(d, other, words, words)
			same(t, what+" again", code == again && equalDawgs(first, second), true)
		}
		first, second, code := impl.DawgChanges(d, other)
		sameTold(t, "again", a, b, first, second, code)
		if !keptCopy(a, d) || !keptCopy(b, other) {
			t.Errorf("the automaton %d or its other one has changed", i)
		}
		for _, list := range [][]string{less, more} {
			same(t, "a list of strings", list[:6], []string{"at", "b", "aq", "mark", "mark", "mark"})
		}
	}
}

// TestChangesApart spoils each part of each result, and looks at the other parts, the arguments and a further result.
func TestChangesApart(t *testing.T) {
	firsts, seconds := []string{"ab", "aba", "ac", "ba", "tar", "tart"}, []string{"ab", "aba", "abc", "ba", "tab"}
	less, more := []string{"tar", "ba"}, []string{"bar", "taba"}
	a, b := copiedDawg(automatonOf(firsts...)), copiedDawg(automatonOf(seconds...))
	for what, change := range changers() {
		want, code := change(automatonOf(firsts...), automatonOf(seconds...), less, more)
		same(t, "code of "+what, code, int64(impl.OK))
		for i := range want.Nodes {
			d, _ := change(a, b, less, more)
			spoil(d.Nodes[i].Next, 99)
			for k, x := range d.Nodes {
				if k != i && !equalDawgs(dawg(x), dawg(want.Nodes[k])) {
					t.Errorf("%s: the node %d shares memory with the node %d", what, k, i)
				}
			}
			spoil(d.Nodes, node(true, "spoilt", 5))
			again, _ := change(a, b, less, more)
			same(t, what+" after a spoilt result", equalDawgs(again, want), true)
		}
		same(t, "the arguments after "+what, keptCopy(a, automatonOf(firsts...)) && keptCopy(b, automatonOf(seconds...)), true)
	}
	fewer, further, _ := impl.DawgChanges(a, b)
	spoil(fewer, "spoilt")
	sameList(t, "the other list", further, inFirst(seconds, firsts))
	spoil(further, "spoilt")
	sameTold(t, "after spoilt results", a, b, inFirst(firsts, seconds), inFirst(seconds, firsts), impl.OK)
}
