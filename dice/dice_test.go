package dice_test

import (
	"testing"

	"senvy/dice"
)

// TestThrows checks that all numbers of a range are thrown, no other one, and the same ones again.
func TestThrows(t *testing.T) {
	one, two := dice.Dice(5), dice.Dice(5)
	seen := map[int64]bool{}
	for range 1000 {
		n := one.From(-3, 4)
		if n < -3 || n > 4 || n != two.From(-3, 4) {
			t.Fatal(n)
		}
		seen[n] = true
	}
	if len(seen) != 8 {
		t.Error(seen)
	}
}
