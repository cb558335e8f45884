package trial

import "novaculite/api"

// Known returns the least and the greatest hardness that results allow.
func Known(levels int, results []Result) (low, high int, e api.Errno) {
	if e := checkResults(levels, results); e != api.OK {
		return 0, 0, e
	}
	if _, _, found := contradiction(results); found {
		return 0, 0, api.ErrLost
	}
	high = levels
	for _, r := range results {
		if r.Blunt {
			high = min(high, r.Level-1)
		} else {
			low = max(low, r.Level)
		}
	}
	return low, high, api.OK
}

// Why returns two results that contradict each other.
func Why(levels int, results []Result) (i, j int, e api.Errno) {
	if e := checkResults(levels, results); e != api.OK {
		return 0, 0, e
	}
	i, j, found := contradiction(results)
	if !found {
		return 0, 0, api.ErrClash
	}
	return i, j, api.OK
}

func checkResults(levels int, results []Result) api.Errno {
	if !hasLevels(levels) {
		return api.ErrRange
	}
	if len(results) > MaxResults {
		return api.ErrMany
	}
	for _, r := range results {
		if !isFrom(r.Level, 1, levels) {
			return api.ErrNone
		}
	}
	return api.OK
}

// contradiction returns the first two results that contradict each other, if any do.
func contradiction(results []Result) (i, j int, found bool) {
	for i, r := range results {
		for j := i + 1; j < len(results); j++ {
			if refutes(r, results[j]) || refutes(results[j], r) {
				return i, j, true
			}
		}
	}
	return 0, 0, false
}

// refutes reports whether one result was blunt where it was sharp by another one.
func refutes(one, other Result) bool {
	return one.Blunt && !other.Blunt && one.Level <= other.Level
}
