package state

import (
	"slices"
	"strconv"
	"strings"

	"haversack/api"
	"haversack/store"
)

// What the store's chapter says of a key and its value.
const (
	longest = api.MaxRecord - 64 // bytes that they have together, at most
	beside  = 64                 // bytes that they take beside their own, at most
)

const piece = api.MaxRecord / 2 // bytes of a value of a trial, at most

// refused tells the error of a Save whose files are refused: the store's of its other pairs, if there is one, as that comes first. The store tells of room and of power only by doing: so it is given a trial, under keys that nobody reads, which is taken away again.
func refused(s *store.Store, pairs []store.Pair) api.Errno {
	if s.Down() {
		return api.ErrDiskDead
	}
	if slices.ContainsFunc(pairs, tooLong) {
		return api.ErrRecord
	}
	if e := s.Apply(trial(growth(s, pairs))...); e != api.OK {
		return e
	}
	if left := noTrial(s); len(left) > 0 {
		if e := s.Apply(left...); e != api.OK {
			return e
		}
	}
	return api.ErrSpace
}

func tooLong(p store.Pair) bool { return len(p.Key)+len(p.Value) > longest }

// growth tells how many bytes pairs would add to s, at the least: never more, so that where they have room a trial has it too.
func growth(s *store.Store, pairs []store.Pair) int {
	last := map[string]store.Pair{}
	for _, p := range pairs {
		last[p.Key] = p
	}
	n := 0
	for k, p := range last {
		old, there := s.Get(k)
		switch {
		case p.Gone && there:
			n -= len(k) + len(old) + beside
		case p.Gone:
		case there:
			n += len(p.Value) - len(old)
		default:
			n += len(k) + len(p.Value)
		}
	}
	return n
}

// trial tells pairs that add n bytes at most; none, if n is too few for one.
func trial(n int) []store.Pair {
	var out []store.Pair
	for {
		key := trialKeys + strconv.Itoa(len(out))
		n -= len(key) + beside
		if n <= 0 {
			return out
		}
		size := min(n, piece)
		out = append(out, store.Pair{Key: key, Value: strings.Repeat("x", size)})
		n -= size
	}
}

// noTrial tells what takes away the trial that s has: one whose end the power cut off, too.
func noTrial(s *store.Store) []store.Pair {
	var out []store.Pair
	for _, k := range s.Keys(trialKeys) {
		out = append(out, store.Pair{Key: k, Gone: true})
	}
	return out
}
