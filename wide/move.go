package wide

// Shl moves bits up.
func Shl(a W, n int) W {
	if n < 1 {
		return a
	}
	var moved W
	if n >= allBits {
		return moved
	}
	jump, part := n/wordBits, uint(n%wordBits)
	for i := jump; i < wordCount; i++ {
		moved[i] = a[i-jump] << part
		if i > jump {
			// Where part is 0, this moves by a whole word, and adds nothing.
			moved[i] |= a[i-jump-1] >> (wordBits - part)
		}
	}
	return moved
}

// Shr moves bits down, and whether one that was set is lost.
func Shr(a W, n int) (W, bool) {
	if n < 1 {
		return a, false
	}
	var moved W
	if n >= allBits {
		return moved, a != moved
	}
	jump, part := n/wordBits, uint(n%wordBits)
	for i := 0; i+jump < wordCount; i++ {
		moved[i] = a[i+jump] >> part
		if i+jump+1 < wordCount {
			moved[i] |= a[i+jump+1] << (wordBits - part)
		}
	}
	// Only what lost a bit does not come back.
	return moved, Shl(moved, n) != a
}
