// Package bound: which numbers are amounts, and which are owners, for all layers alike.
package bound

import "bakehouse/api"

// Amount: is n an amount?
func Amount(n int) bool { return n >= 0 && n <= api.MaxAmount }

// Some: is n an amount, and more than nothing?
func Some(n int) bool { return n > 0 && n <= api.MaxAmount }

// Owner: is n an owner's number?
func Owner(n int) bool { return n >= 0 && n < api.Owners }
