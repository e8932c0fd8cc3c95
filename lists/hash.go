package lists

import (
	"copyist/api"
	"copyist/heap"
)

const (
	// prime is the modulus of the arithmetic of hashes.
	prime = 1<<31 - 1
	// factor is what a hash is multiplied by before the next one is added.
	factor = 31
	// maxHashed is how many elements of a list or vector the hash depends on.
	maxHashed = 100
	// maxInside is within how many words a word can be nested.
	maxInside = 10
	// maxVisits is how many words the hash depends on.
	maxVisits = 1000
)

// Hash returns a number that is the same for words that are equal.
func Hash(h *heap.Heap, w api.Word) (n int, err api.Errno) {
	defer func() { err, _ = recover().(api.Errno) }()
	visits := 0
	return open(h).hash(w, 0, &visits), api.OK
}

// hash returns the hash of a word that is nested within inside others and visited after
// as many as visits says.
func (s store) hash(w api.Word, inside int, visits *int) int {
	*visits++
	if inside > maxInside || *visits > maxVisits {
		return 1
	}
	// A word that is not live is hashed by its number, whatever its kind is.
	if s.Live(w) {
		switch w.Kind {
		case api.KindCons:
			return s.listHash(w, inside+1, visits)
		case api.KindVec:
			return s.vectorHash(w, inside+1, visits)
		case api.KindText:
			return textHash(s.text(w))
		}
	}
	return mix(residue(w.Kind), residue(w.N))
}

// listHash returns the hash of a live cons.
func (s store) listHash(w api.Word, inside int, visits *int) int {
	sum := 1
	for i, c := range s.chain(w) {
		if i == maxHashed {
			break
		}
		sum = mix(sum, s.hash(s.car(c), inside, visits))
	}
	return sum
}

// vectorHash returns the hash of a live vector.
func (s store) vectorHash(w api.Word, inside int, visits *int) int {
	sum := 2
	for i := range maxHashed {
		x, err := s.At(w, i)
		if err != api.OK {
			break
		}
		sum = mix(sum, s.hash(x, inside, visits))
	}
	return sum
}

// textHash returns the hash of a string.
func textHash(t string) int {
	sum := 3
	for _, c := range t {
		sum = mix(sum, int(c))
	}
	return sum
}

// mix returns the hash sum continued with next.
func mix(sum, next int) int { return (sum*factor + next) % prime }

// residue returns n modulo prime, from 0 on.
func residue(n int) int {
	r := n % prime
	if r < 0 {
		r += prime
	}
	return r
}
