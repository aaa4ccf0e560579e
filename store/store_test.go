package store

import (
	"errors"
	"reflect"
	"testing"

	"segments/api"
)

func TestNames(t *testing.T) {
	for n, want := range map[int64]string{
		0: "00000000000000000000.log", 7: "00000000000000000007.log", 1234567890: "00000000001234567890.log", api.MaxOffset: "04611686018427387904.log",
	} {
		if got := name(n); got != want {
			t.Errorf("the name of %d is %s, want %s", n, got, want)
		}
		if got, ok := number(want); got != n || !ok {
			t.Errorf("the number of %s is %d, %v", want, got, ok)
		}
	}
}

// TestNumbers: P13 says which files are segments.
func TestNumbers(t *testing.T) {
	d := api.NewDisk(0)
	for _, name := range []string{
		"00000000000000000012.log", "00000000000000000003.log", "04611686018427387904.log",
		"04611686018427387905.log", "09223372036854775808.log", "18446744073709551615.log", "18446744073709551616.log", "99999999999999999999.log",
		"", ".log", "3.log", "0000000000000000003.log", "000000000000000000003.log", "00000000000000000003.lo", "00000000000000000003.logs", "00000000000000000003.LOG",
		"00000000000000000003", "+0000000000000000003.log", "-0000000000000000003.log", "0x000000000000000003.log", "0000000000000000000_.log", "0_00000000000000003.log",
		" 0000000000000000003.log", "0000000000000000003 .log", "0000000000000000000a.log", "00000000000000000003.log\n", "x00000000000000000003.log", "00000000000000000\u0663\u0663.log",
	} {
		if err := d.Create(name); err != nil {
			t.Fatal(err)
		}
	}
	if got, want := New(d).Numbers(), []int64{3, 12, api.MaxOffset}; !reflect.DeepEqual(got, want) {
		t.Errorf("the segments are %v, want %v", got, want)
	}
}

// TestErrors: the disk's own errors are answered as those of a disk that fails, with the file's name; others as they are.
func TestErrors(t *testing.T) {
	d := api.NewDisk(3)
	s := New(d)
	if err := s.Make(5); err != nil {
		t.Fatal(err)
	}
	_, missing := s.Load(6)
	_, unread := s.Read(6, 0, 1)
	room := s.Write(5, []byte{1, 2, 3, 4})
	for what, c := range map[string]struct {
		err  error
		want api.Errno
	}{
		"Load": {missing, api.ErrDisk}, "Read": {unread, api.ErrDisk}, "Make": {s.Make(5), api.ErrDisk}, "Write": {s.Write(6, nil), api.ErrDisk}, "Cut": {s.Cut(6, 0), api.ErrDisk},
		"Remove": {s.Remove(6), api.ErrDisk}, "Save": {s.Save(6), api.ErrDisk}, "a full disk": {room, api.ErrRoom}, "SaveNames": {s.SaveNames(), api.OK},
	} {
		var at *api.FileError
		if api.Tell(c.err) != c.want || c.err != nil && (!errors.As(c.err, &at) || at.Name == "") {
			t.Errorf("%s: %v, want %d at a file", what, c.err, c.want)
		}
	}
}
