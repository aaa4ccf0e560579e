// Package segments: a log of records in segments on a disk: see DOC.md.
package segments

import (
	"segments/api"
	"segments/frames"
	"segments/packing"
)

// Pack packs bytes (P4).
func Pack(data []byte) []byte { return packing.Pack(data) }

// Unpack gives what was packed, at most most bytes (P3).
func Unpack(packed []byte, most int) ([]byte, error) { return packing.Unpack(packed, most) }

// Encode makes a frame of a batch (P5).
func Encode(b api.Batch) ([]byte, error) { return frames.Encode(b) }

// Decode reads a frame; how many bytes it has (P6).
func Decode(b []byte) (api.Batch, int, error) { return frames.Decode(b) }

// Log is records by their offsets.
type Log struct{}

// Open opens a log (P7, P13).
func Open(d *api.Disk, o api.Options) (*Log, error) { return nil, nil }

// Append writes records (P8).
func (l *Log) Append(records []api.Record, packed bool) (int64, error) { return 0, nil }

// Fetch reads frames from an offset on (P9).
func (l *Log) Fetch(offset int64, most int) ([]byte, error) { return nil, nil }

// At tells from which offset on there are records of a time (P10).
func (l *Log) At(time int64) (int64, error) { return 0, nil }

// Trim forgets segments (P11).
func (l *Log) Trim(offset int64) error { return nil }

// Bounds tells the first offset, and the one behind the last (P7).
func (l *Log) Bounds() (int64, int64, error) { return 0, 0, nil }

// Flush makes all that was written safe (P12).
func (l *Log) Flush() error { return nil }

// Close ends it (P12).
func (l *Log) Close() error { return nil }

// Serve answers a request (P16).
func (l *Log) Serve(request []byte) []byte { return nil }
