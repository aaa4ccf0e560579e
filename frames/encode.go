package frames

import (
	"segments/api"
	"segments/numbers"
	"segments/packing"
	"segments/sums"
)

// Encode makes the frame of a batch (P5).
func Encode(b api.Batch) ([]byte, error) {
	if err := check(b); err != nil {
		return nil, err
	}
	return seal(body(b)), nil
}

// check tells what a batch must not be, in the order of P5.
func check(b api.Batch) error {
	switch {
	case len(b.Records) == 0:
		return api.ErrEmpty
	case len(b.Records) > api.MaxRecords:
		return api.ErrMany
	case tooLong(b.Records):
		return api.ErrSize
	case !offsets(b.Base, len(b.Records)):
		return api.ErrOffset
	}
	return nil
}

func tooLong(records []api.Record) bool {
	for _, r := range records {
		if len(r.Key) > api.MaxBytes || len(r.Value) > api.MaxBytes {
			return true
		}
	}
	return false
}

// offsets tells whether so many records may stand from base on. It adds nothing to base, which may be the greatest number there is.
func offsets(base int64, count int) bool {
	return base >= 0 && base <= api.MaxOffset-int64(count)
}

func body(b api.Batch) []byte {
	count := uint64(len(b.Records))
	data := putRecords(nil, b.Records)
	out := numbers.PutFixed(nil, baseWidth, uint64(b.Base))
	if !b.Packed {
		out = numbers.PutFixed(out, formWidth, plainForm)
		out = numbers.PutVarints(out, count)
		return append(out, data...)
	}
	out = numbers.PutFixed(out, formWidth, packedForm)
	out = numbers.PutVarints(out, count, uint64(len(data)))
	return append(out, packing.Pack(data)...)
}

// seal sets the size and the sum ahead of a body.
func seal(body []byte) []byte {
	out := numbers.PutFixed(nil, sizeWidth, uint64(sumWidth+len(body)))
	out = numbers.PutFixed(out, sumWidth, uint64(sums.Of(body)))
	return append(out, body...)
}

func putRecords(out []byte, records []api.Record) []byte {
	ahead := int64(0)
	for _, r := range records {
		out = numbers.PutVarints(out, numbers.Zigzag(r.Time-ahead))
		out = putText(out, r.Key)
		out = putText(out, r.Value)
		ahead = r.Time
	}
	return out
}

// putText writes a key or a value, whose length has 1 added, so that 0 is none.
func putText(out, text []byte) []byte {
	if text == nil {
		return numbers.PutVarints(out, 0)
	}
	out = numbers.PutVarints(out, uint64(len(text))+1)
	return append(out, text...)
}
