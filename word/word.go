// Package word is layer 1: a cell's first word, its header. See shared/doc/01-word.md.
package word

import "demesne/api"

// Kinds of cells.
const (
	Free uint8 = iota
	Listed
	Local
	Global
)

// Where each part of a header begins in its word, by bits.
const (
	kindAt   = 0
	colourAt = 2
	greyAt   = 3
	markedAt = 4
	ownerAt  = 5
	refsAt   = 11
	sizeAt   = 18
	end      = 25
)

// Head is a cell's header.
type Head struct {
	Kind   uint8
	Colour uint8
	Grey   bool
	Marked bool
	Owner  uint8
	Refs   uint8
	Size   uint8
}

// Put answers a header's word.
func Put(h Head) (uint64, api.Errno) {
	if !may(h) {
		return 0, api.ErrArg
	}
	return pack(h), api.OK
}

// Take answers the header whose word it is.
func Take(w uint64) (Head, api.Errno) {
	h := unpack(w)
	// Bits behind the last part belong to no header, and unpack does not see them.
	if w>>end != 0 || !may(h) {
		return Head{}, api.ErrForm
	}
	return h, api.OK
}

// Live tells whether the cell is an object.
func (h Head) Live() bool {
	return h.Kind == Local || h.Kind == Global
}

// may tells whether a header may be.
func may(h Head) bool {
	return h.Colour <= 1 && h.Owner < api.MaxThreads &&
		h.Size <= api.MaxFields && h.Refs <= h.Size && h == proper(h)
}

// proper is the header without what its kind has not. Of no such kind it is a
// Free one, so that it is unlike the header itself.
func proper(h Head) Head {
	switch h.Kind {
	case Local:
		h.Colour, h.Grey = 0, false
	case Global:
		h.Marked = false
	case Listed:
		h = Head{Kind: Listed, Owner: h.Owner}
	default:
		h = Head{Owner: h.Owner}
	}
	return h
}

// pack lays the parts of a header that may be side by side.
func pack(h Head) uint64 {
	var w uint64
	put := func(part uint8, at int) { w |= uint64(part) << at }
	put(h.Kind, kindAt)
	put(h.Colour, colourAt)
	put(bit(h.Grey), greyAt)
	put(bit(h.Marked), markedAt)
	put(h.Owner, ownerAt)
	put(h.Refs, refsAt)
	put(h.Size, sizeAt)
	return w
}

// unpack takes the parts apart again, whatever they are.
func unpack(w uint64) Head {
	part := func(from, to int) uint8 { return uint8(w >> from & (1<<(to-from) - 1)) }
	return Head{
		Kind:   part(kindAt, colourAt),
		Colour: part(colourAt, greyAt),
		Grey:   part(greyAt, markedAt) == 1,
		Marked: part(markedAt, ownerAt) == 1,
		Owner:  part(ownerAt, refsAt),
		Refs:   part(refsAt, sizeAt),
		Size:   part(sizeAt, end),
	}
}

func bit(set bool) uint8 {
	if set {
		return 1
	}
	return 0
}
