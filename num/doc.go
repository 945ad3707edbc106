// Package num is layer 1: integers and fractions of any size up to a limit, and remainders. See shared/doc/01-num.md.
package num
