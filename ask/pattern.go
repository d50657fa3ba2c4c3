package ask

import (
	"slices"
	"strings"

	"trine/api"
	"trine/box"
	"trine/fault"
	"trine/limits"
	"trine/scan"
	"trine/term"
)

// maxLetters is how many letters a variable may have.
const maxLetters = 8

// The places of a sentence, and how many they are.
const (
	subject = iota
	verb
	object
	places
)

// terms is a sentence by its places, or a pattern, which has variables at some of them.
type terms [places]string

func termsOf(t api.Triple) terms {
	return terms{subject: t.S, verb: t.P, object: t.O}
}

// check refuses what is not to be asked.
func check(b *box.Box, patterns []api.Triple, pick []string) error {
	if len(patterns) > limits.MaxPatterns || b == nil {
		return fault.New(api.ErrMany)
	}
	for i, p := range patterns {
		if !isPattern(termsOf(p)) {
			return fault.At(i, fault.New(api.ErrTerm))
		}
	}
	for i, text := range pick {
		if !isVariableOf(patterns, text) || slices.Contains(pick[:i], text) {
			return fault.At(i, fault.New(api.ErrName))
		}
	}
	return nil
}

func isPattern(t terms) bool {
	for _, text := range t {
		if !isVariable(text) && scan.Kind(term.Kind(text)) == scan.NoTerm {
			return false
		}
	}
	return true
}

func isVariable(text string) bool {
	letters, marked := strings.CutPrefix(text, "?")
	return marked && letters != "" && len(letters) <= maxLetters && !strings.ContainsFunc(letters, isNoSmallLetter)
}

func isNoSmallLetter(char rune) bool { return char < 'a' || char > 'z' }

func isVariableOf(patterns []api.Triple, text string) bool {
	return isVariable(text) && slices.ContainsFunc(patterns, func(p api.Triple) bool {
		t := termsOf(p)
		return slices.Contains(t[:], text)
	})
}

// link is a variable that two patterns share, by its place in each.
type link struct{ here, there int }

func links(here, there terms) []link {
	var out []link
	for i, text := range here {
		for j, other := range there {
			if text == other && isVariable(text) {
				out = append(out, link{i, j})
			}
		}
	}
	return out
}

// agree tells whether two sentences, each in the place of its pattern, give the same to all variables that the patterns share.
func agree(shared []link, here, there terms) bool {
	for _, l := range shared {
		if here[l.here] != there[l.there] {
			return false
		}
	}
	return true
}

// sentencesFor is the sentences of the box that the pattern may be.
func sentencesFor(b *box.Box, pattern terms) []terms {
	itself := links(pattern, pattern) // it may have a variable twice
	var list []terms
	for t := range b.Each(searched(pattern)) {
		s := termsOf(t)
		if agree(itself, s, s) {
			list = append(list, s)
		}
	}
	return list
}

// searched is the pattern as a box takes it: there an empty term is any.
func searched(pattern terms) api.Triple {
	for i, text := range pattern {
		if isVariable(text) {
			pattern[i] = ""
		}
	}
	return api.Triple{S: pattern[subject], P: pattern[verb], O: pattern[object]}
}
