package trial

import (
	"slices"
	"strings"

	"novaculite/api"
)

// Check checks a plan.
func Check(plan []int) api.Errno {
	if len(plan) > MaxLevels {
		return api.ErrMany
	}
	for i, level := range plan {
		if !isFrom(level, 1, len(plan)) {
			return api.ErrNone
		}
		if slices.Contains(plan[:i], level) {
			return api.ErrTwice
		}
	}
	if !inOrder(plan, 1) {
		return api.ErrOrder
	}
	return api.OK
}

// Run returns the levels of the trials for a hardness.
func Run(plan []int, hardness int) ([]int, api.Errno) {
	if e := checkHardness(plan, hardness); e != api.OK {
		return nil, e
	}
	levels, _ := follow(plan, hardness)
	return levels, api.OK
}

// Word returns the word of a hardness.
func Word(plan []int, hardness int) (string, api.Errno) {
	if e := checkHardness(plan, hardness); e != api.OK {
		return "", e
	}
	_, word := follow(plan, hardness)
	return word, api.OK
}

// Words returns the words of all hardnesses.
func Words(plan []int) ([]string, api.Errno) {
	if e := Check(plan); e != api.OK {
		return nil, e
	}
	return wordsOf(plan), api.OK
}

// Plan returns the plan of words.
func Plan(words []string) ([]int, api.Errno) {
	if e := checkWords(words); e != api.OK {
		return nil, e
	}
	plan, closed := planOf(words)
	if !closed {
		return nil, api.ErrOpen
	}
	return plan, api.OK
}

// Worst returns the worst case of a plan.
func Worst(plan []int) (trials, blades int, e api.Errno) {
	if e := Check(plan); e != api.OK {
		return 0, 0, e
	}
	trials, blades = worst(plan)
	return trials, blades, api.OK
}

// Sum returns the number of trials for all hardnesses together.
func Sum(plan []int) (int, api.Errno) {
	if e := Check(plan); e != api.OK {
		return 0, e
	}
	sum := 0
	for _, word := range wordsOf(plan) {
		sum += len(word)
	}
	return sum, api.OK
}

// Proves checks that a plan is best.
func Proves(plan []int, blades int) api.Errno {
	if e := Check(plan); e != api.OK {
		return e
	}
	if !hasBlades(blades) {
		return api.ErrRange
	}
	trials, blunt := worst(plan)
	if blunt > blades {
		return api.ErrOver
	}
	if trials > 0 && reach(blades, trials-1) >= len(plan) {
		return api.ErrProof
	}
	return api.OK
}

// parts returns the two parts that follow the first trial of a plan, which is for
// the levels from lowest on.
func parts(plan []int, lowest int) (blunt, sharp []int) {
	behind := 1 + plan[0] - lowest
	return plan[1:behind], plan[behind:]
}

// inOrder reports whether a list of the levels from lowest on, each once, is a plan.
func inOrder(plan []int, lowest int) bool {
	if len(plan) == 0 {
		return true
	}
	level := plan[0]
	blunt, sharp := parts(plan, lowest)
	if slices.ContainsFunc(blunt, func(l int) bool { return l > level }) {
		return false
	}
	return inOrder(blunt, lowest) && inOrder(sharp, level+1)
}

func checkHardness(plan []int, hardness int) api.Errno {
	if e := Check(plan); e != api.OK {
		return e
	}
	if !isFrom(hardness, 0, len(plan)) {
		return api.ErrNone
	}
	return api.OK
}

// follow returns the levels of the trials for a hardness, and their word.
func follow(plan []int, hardness int) (levels []int, word string) {
	var letters []byte
	lowest := 1
	for len(plan) > 0 {
		level := plan[0]
		levels = append(levels, level)
		blunt, sharp := parts(plan, lowest)
		if level > hardness {
			letters = append(letters, 'b')
			plan = blunt
		} else {
			letters = append(letters, 's')
			plan, lowest = sharp, level+1
		}
	}
	return levels, string(letters)
}

func wordsOf(plan []int) []string {
	var words []string
	for hardness := range len(plan) + 1 {
		_, word := follow(plan, hardness)
		words = append(words, word)
	}
	return words
}

func worst(plan []int) (trials, blunt int) {
	for _, word := range wordsOf(plan) {
		trials = max(trials, len(word))
		blunt = max(blunt, strings.Count(word, "b"))
	}
	return trials, blunt
}

// checkWords returns the error of words, unless it is that they are open.
func checkWords(words []string) api.Errno {
	if len(words) == 0 {
		return api.ErrEmpty
	}
	if len(words) > MaxLevels+1 {
		return api.ErrMany
	}
	for _, word := range words {
		if len(word) > MaxLevels {
			return api.ErrLong
		}
		if strings.Trim(word, "bs") != "" {
			return api.ErrForm
		}
	}
	for i := 1; i < len(words); i++ {
		if words[i] <= words[i-1] {
			return api.ErrOrder
		}
	}
	for i := 1; i < len(words); i++ {
		// what begins with a word comes directly behind it
		if strings.HasPrefix(words[i], words[i-1]) {
			return api.ErrClash
		}
	}
	return api.OK
}

// planOf returns the plan of ascending words of which none is the beginning of
// another one, and whether they are closed. As the words are those of the
// hardnesses from 0 on, the level of a trial is the place of the first word that
// is sharp there.
func planOf(words []string) ([]int, bool) {
	var plan []int
	var add func(from, to, length int) bool
	add = func(from, to, length int) bool { // the words of one beginning of this length
		if to-from == 1 && len(words[from]) == length {
			return true
		}
		level := from
		for level < to && words[level][length] == 'b' {
			level++
		}
		if level == from || level == to {
			return false
		}
		plan = append(plan, level)
		return add(from, level, length+1) && add(level, to, length+1)
	}
	closed := add(0, len(words), 0)
	return plan, closed
}
