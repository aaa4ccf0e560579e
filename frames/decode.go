package frames

import (
	"segments/api"
	"segments/numbers"
	"segments/packing"
	"segments/sums"
)

// Decode reads the frame that b begins with, and tells how many bytes it has (P6).
func Decode(b []byte) (api.Batch, int, error) {
	body, size, ok := unseal(b)
	if !ok {
		return api.Batch{}, 0, api.ErrFrame
	}
	batch, ok := readBody(body)
	if !ok {
		return api.Batch{}, 0, api.ErrFrame
	}
	return batch, size, nil
}

// unseal gives the body of a frame, and the size of all of it, if all is there and the sum is right.
func unseal(b []byte) (body []byte, size int, ok bool) {
	r := numbers.NewReader(b)
	follow := r.Fixed(sizeWidth)
	if follow > api.MaxFrame-sizeWidth {
		return nil, 0, false
	}
	r = numbers.NewReader(r.Bytes(follow))
	sum := r.Fixed(sumWidth)
	body = r.Rest()
	return body, sizeWidth + int(follow), !r.Bad() && sum == uint64(sums.Of(body))
}

func readBody(body []byte) (api.Batch, bool) {
	r := numbers.NewReader(body)
	base := int64(r.Fixed(baseWidth))
	form := r.Fixed(formWidth)
	count := r.Varint()
	if count == 0 || count > api.MaxRecords || !offsets(base, int(count)) || form > packedForm {
		return api.Batch{}, false
	}
	if form == packedForm {
		r = unpacked(r)
	}
	records := ReadRecords(r, int(count))
	if !r.Ended() {
		return api.Batch{}, false
	}
	return api.Batch{Base: base, Packed: form == packedForm, Records: records}, true
}

// unpacked gives a reader of the records that stand packed in another one.
func unpacked(r *numbers.Reader) *numbers.Reader {
	size := r.Varint()
	data, err := packing.Unpack(r.Rest(), api.MaxData)
	inner := numbers.NewReader(data)
	if r.Bad() || err != nil || size != uint64(len(data)) {
		inner.Spoil()
	}
	return inner
}

// ReadRecords reads so many records, as P5 writes them. If the reader is bad in the end they are worth nothing; it is so, too, if a key or a value has more than MaxBytes bytes. There is room made for all of them ahead, so count must be bounded.
func ReadRecords(r *numbers.Reader, count int) []api.Record {
	records := make([]api.Record, 0, count)
	time := int64(0)
	for range count {
		time += r.Zigzag()
		key := readText(r)
		value := readText(r)
		records = append(records, api.Record{Time: time, Key: key, Value: value})
	}
	return records
}

// readText reads a key or a value into memory of its own.
func readText(r *numbers.Reader) []byte {
	mark := r.Varint()
	if mark == 0 {
		return nil
	}
	if mark-1 > api.MaxBytes {
		r.Spoil()
		return nil
	}
	text := make([]byte, mark-1)
	copy(text, r.Bytes(mark-1))
	return text
}
