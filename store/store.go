// Package store keeps segments as files of a disk, by their numbers.
package store

import (
	"errors"
	"strconv"
	"strings"

	"segments/api"
)

const (
	digits = 20 // of the number in a file's name
	suffix = ".log"
)

// Store is the segments' files of a disk.
type Store struct{ disk *api.Disk }

// New makes a store of a disk, on which it changes nothing.
func New(d *api.Disk) Store { return Store{d} }

// name is that of a segment's file.
func name(number int64) string {
	text := strconv.FormatInt(number, 10)
	return strings.Repeat("0", digits-len(text)) + text + suffix
}

// number is that of the segment whose file has this name; ok is false if it is no segment's.
func number(name string) (n int64, ok bool) {
	text, ok := strings.CutSuffix(name, suffix)
	if !ok || len(text) != digits {
		return 0, false
	}
	u, err := strconv.ParseUint(text, 10, 64)
	if err != nil || u > api.MaxOffset {
		return 0, false
	}
	return int64(u), true
}

// own makes an error one that a log may answer. A file that is missing, or is there already, is so against what the log knows of a disk that it has for itself: then the disk has failed.
func own(err error) error {
	var at *api.FileError
	if errors.As(err, &at) && (errors.Is(err, api.ErrMissing) || errors.Is(err, api.ErrExists)) {
		return &api.FileError{Name: at.Name, Err: api.ErrDisk}
	}
	return err
}

// Numbers are those of all segments, the least one first.
func (s Store) Numbers() []int64 {
	var list []int64
	for _, file := range s.disk.List() {
		if n, ok := number(file); ok {
			list = append(list, n)
		}
	}
	return list
}

// Load reads all of a segment.
func (s Store) Load(number int64) ([]byte, error) {
	size, err := s.disk.Size(name(number))
	if err != nil {
		return nil, own(err)
	}
	return s.Read(number, 0, size)
}

// Read reads n bytes of a segment, from the one at at on.
func (s Store) Read(number int64, at, n int) ([]byte, error) {
	b, err := s.disk.ReadAt(name(number), at, n)
	return b, own(err)
}

// Make makes an empty segment.
func (s Store) Make(number int64) error { return own(s.disk.Create(name(number))) }

// Write writes at a segment's end: all of it or nothing.
func (s Store) Write(number int64, b []byte) error { return own(s.disk.Append(name(number), b)) }

// Cut leaves the first n bytes of a segment alone.
func (s Store) Cut(number int64, n int) error { return own(s.disk.Truncate(name(number), n)) }

// Remove takes a segment away.
func (s Store) Remove(number int64) error { return own(s.disk.Remove(name(number))) }

// Save makes a segment's bytes safe.
func (s Store) Save(number int64) error { return own(s.disk.Sync(name(number))) }

// SaveNames makes safe which segments there are.
func (s Store) SaveNames() error { return own(s.disk.SyncDir()) }
