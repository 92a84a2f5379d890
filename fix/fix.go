// Package fix: numbers with a fixed point: see doc/01-fix.md.
package fix

import "lessonbook/api"

// Clamp: P3.
func Clamp(n int) int { return narrow(int64(n)) }

// Add: P3.
func Add(a, b int) int { return narrow(wide(a) + wide(b)) }

// Sub: P3.
func Sub(a, b int) int { return narrow(wide(a) - wide(b)) }

// Mul: P3.
func Mul(a, b int) int { return narrow(quotient(wide(a)*wide(b), api.One)) }

// Div: P3.
func Div(a, b int) (int, api.Errno) {
	if b == 0 {
		return 0, api.ErrArg
	}
	return narrow(quotient(wide(a)*api.One, wide(b))), api.OK
}

// wide clamps n ahead of reckoning: sums and products of two such numbers stay
// below 2^62, so that nothing wraps round, however many bits an int has.
func wide(n int) int64 { return int64(Clamp(n)) }

// narrow clamps what was reckoned.
func narrow(n int64) int {
	if n < -api.Most {
		return -api.Most
	}
	if n > api.Most {
		return api.Most
	}
	return int(n)
}

// quotient is n by d, rounded to the nearest, and of two as near to the even
// one; d is not 0.
func quotient(n, d int64) int64 {
	if d < 0 {
		n, d = -n, -d
	}
	q, rest := n/d, n%d
	// Go's division cuts towards 0; rounding is told from the floor, so that
	// numbers below 0 need no case of their own.
	if rest < 0 {
		q, rest = q-1, rest+d
	}
	if 2*rest > d || 2*rest == d && q%2 != 0 {
		q++
	}
	return q
}
