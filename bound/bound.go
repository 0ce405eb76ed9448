// Package bound is layer 1: numbers that are clamped instead of running over.
package bound

import "lockkeeper/api"

// clamp is handed on as a value, since counts and ticks differ in their most alone.
func clamp(most int) func(n int) int {
	return func(n int) int { return max(0, min(n, most)) }
}

// pair clamps both numbers first, so that what is done with them cannot run over.
func pair(most, a, b int, do func(a, b int) int) int {
	keep := clamp(most)
	return keep(do(keep(a), keep(b)))
}

// Keep is a number, kept from 0 to a most.
func Keep(n, most int) int { return clamp(most)(n) }

// Add is a sum.
func Add(a, b int) int {
	return pair(api.MaxCount, a, b, func(a, b int) int { return a + b })
}

// Sub is a difference.
func Sub(a, b int) int {
	return pair(api.MaxCount, a, b, func(a, b int) int { return a - b })
}

// Mul is a product.
func Mul(a, b int) int {
	return pair(api.MaxCount, a, b, func(a, b int) int { return a * b })
}

// Sum is the sum of all.
func Sum(l ...int) int {
	sum := 0
	for _, n := range l {
		sum = Add(sum, n)
	}
	return sum
}

// Mean is a sum by how many there are.
func Mean(sum, n int) int {
	return pair(api.MaxCount, sum, n, func(sum, n int) int {
		if n == 0 {
			return 0
		}
		return sum / n
	})
}

// Share is a share of a number, rounded down.
func Share(n, percent int) int { return hundredths(n, percent, 0) }

// Part is a share of a number, rounded up.
func Part(n, percent int) int { return hundredths(n, percent, 99) }

// hundredths takes what is added ahead of the division: it decides which way is rounded.
func hundredths(n, percent, more int) int {
	return (Keep(n, api.MaxCount)*Keep(percent, 100) + more) / 100
}

// Later is a tick that comes so many ticks behind another one.
func Later(tick, more int) int {
	return pair(api.MaxTicks, tick, more, func(a, b int) int { return a + b })
}

// Left is how many ticks there are up to a deadline.
func Left(deadline, now int) int {
	return pair(api.MaxTicks, deadline, now, func(a, b int) int { return a - b })
}
