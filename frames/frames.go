// Package frames makes frames of batches and reads them again: promises P5 and P6 of DOC.md.
//
// A frame has its size, its sum and its body: the base, the form, the number of the records and these, as they are or packed.
package frames

const (
	sizeWidth = 4 // bytes of the size, which counts what follows it
	sumWidth  = 4 // bytes of the sum
	baseWidth = 8 // bytes of the base
	formWidth = 1 // bytes of the form
)

// The forms in which records stand in a frame.
const (
	plainForm = iota
	packedForm
)
