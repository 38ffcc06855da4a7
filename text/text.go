// Package text is layer 1, texts, edits and differences: see shared/doc/01-text.md.
//
// Its functions are in lines.go (lines and places), edits.go (edits of a text), diff.go (the difference of two
// texts) and patch.go (what is made of a difference's text, which hunks.go writes and read.go reads).
package text
