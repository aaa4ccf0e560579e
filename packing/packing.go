// Package packing makes bytes fewer by naming what stood ahead of them: promises P3 and P4 of DOC.md.
//
// Packed bytes are steps. A plain step has a count and that many bytes; a copy has a count and a distance, by which it repeats what was put out already.
package packing

const (
	firstCopy    = 128                 // from this first byte on a step is a copy
	mostPlain    = firstCopy           // bytes that a plain step puts out, at the most
	copyShift    = 125                 // what the first byte of a copy has above its count
	mostCopy     = 255 - copyShift     // bytes that a copy puts out, at the most
	distSize     = 2                   // bytes of a distance
	copySize     = 1 + distSize        // bytes that a copy itself has
	mostDistance = 1<<(8*distSize) - 1 // how far back a copy reaches, at the most
)
