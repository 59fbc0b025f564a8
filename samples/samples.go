// Package samples has the texts that the layers' tests go through: they stand here once, and not in each of the tests.
package samples

// Joined are all texts of up to most of the pieces, the empty one first.
func Joined(most int, pieces ...string) []string {
	all := []string{""}
	if most < 1 {
		return all
	}
	for _, s := range Joined(most-1, pieces...) {
		for _, piece := range pieces {
			all = append(all, piece+s)
		}
	}
	return all
}

// Bytes is a text of up to most of the letters' bytes, each as it is picked: pick(n) is a number from 0 to less than n.
func Bytes(pick func(n int) int, letters string, most int) string {
	s := make([]byte, pick(most+1))
	for i := range s {
		s[i] = letters[pick(len(letters))]
	}
	return string(s)
}
