// Package bound: which numbers are amounts, owners, bakers, cycles and millionths, for all layers alike.
package bound

import "bakehouse/api"

// Whole is all of something, in millionths of it.
const Whole = 1000000

// Amount: is n an amount?
func Amount(n int) bool { return n >= 0 && n <= api.MaxAmount }

// Some: is n an amount, and more than nothing?
func Some(n int) bool { return n > 0 && n <= api.MaxAmount }

// Owner: is n an owner's number?
func Owner(n int) bool { return n >= 0 && n < api.Owners }

// Baker: is n the number of an owner who may be a baker?
func Baker(n int) bool { return n >= 0 && n < api.Bakers }

// Cycle: is n a cycle's number?
func Cycle(n int) bool { return n >= 0 && n <= api.MaxCycle }

// Millionths: is n from nothing to all, in millionths?
func Millionths(n int) bool { return n >= 0 && n <= Whole }
