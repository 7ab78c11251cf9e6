package types

import (
	"heddle/api"
	"heddle/numbers"
	"heddle/tables"
)

// Encode answers the bytes of a sound table.
func Encode(ts []api.Type) ([]byte, api.Errno) {
	if e := Check(ts); e != api.OK {
		return nil, e
	}
	var b []byte
	tables.Write(ts, func(n int) { b = numbers.Append(b, uint64(n)) })
	return b, api.OK
}

// Decode answers the table whose bytes are b. Beside ErrText, at is the place of the first fault.
func Decode(b []byte) (ts []api.Type, at int, e api.Errno) {
	if len(b) > api.MaxBytes {
		return nil, 0, api.ErrLarge
	}
	r := numbers.Over(b)
	ts = tables.Read(r)
	if at, ok := r.End(); !ok {
		return nil, at, api.ErrText
	}
	if e := Check(ts); e != api.OK {
		return nil, 0, e
	}
	return ts, 0, api.OK
}
