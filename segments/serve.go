package segments

import (
	"segments/api"
	"segments/requests"
)

// answer makes the call that a request asks for: what its answer has behind the 0.
func (l *Log) answer(asked requests.Request) ([]byte, error) {
	switch asked.Kind {
	case requests.Append:
		offset, err := l.Append(asked.Records, asked.Packed)
		return requests.Numbers(offset), err
	case requests.Fetch:
		return l.Fetch(asked.Offset, asked.Most)
	case requests.At:
		offset, err := l.At(asked.Time)
		return requests.Numbers(offset), err
	case requests.Flush:
		return nil, l.Flush()
	case requests.Trim:
		return nil, l.Trim(asked.Offset)
	case requests.Bounds:
		first, next, err := l.Bounds()
		return requests.Numbers(first, next), err
	}
	return nil, api.ErrRequest
}
