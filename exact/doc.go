// Package exact calculates with integers and fractions of any size. Package num puts a limit to their size; where a small result comes from numbers that are not small, package poly needs them without it.
package exact
