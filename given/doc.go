// Package given holds the tests of what is given whole: packages api and plain, whose own folders stay as they came.
package given
