package seg

import (
	"bytes"

	"flint/api"
)

// Writer makes a segment's rows of blobs.
type Writer struct {
	shape Shape
	id    uint64
	told  int    // rows
	rest  []byte // the stream's bytes behind those rows, fewer than a row has
}

func NewWriter(s Shape, id uint64) (*Writer, api.Errno) {
	if e := Check(s); e != api.OK {
		return nil, e
	}
	return &Writer{shape: s, id: id}, api.OK
}

func (w *Writer) Add(blob []byte) (int, [][][]byte, api.Errno) {
	if len(blob) == 0 {
		return 0, nil, api.ErrArg
	}
	if len(blob) > w.Left() {
		return 0, nil, api.ErrFull
	}
	at := w.Size()
	rows, e := w.grow(blob)
	if e != api.OK {
		return 0, nil, e
	}
	return at, rows, api.OK
}

func (w *Writer) Pad() [][][]byte {
	if len(w.rest) == 0 {
		return nil
	}
	rows, _ := w.grow(make([]byte, Row(w.shape)-len(w.rest)))
	return rows
}

func (w *Writer) Size() int {
	return w.told*Row(w.shape) + len(w.rest)
}

func (w *Writer) Left() int {
	return Room(w.shape) - w.Size()
}

// grow puts bytes that there is room for behind the stream's, and tells the rows that are whole by them.
func (w *Writer) grow(b []byte) ([][][]byte, api.Errno) {
	stream := append(w.rest, b...)
	parts := cut(stream, Row(w.shape))
	rows, e := each(parts, func(n int, part []byte) ([][]byte, api.Errno) {
		return Pages(w.shape, w.id, w.told+n+1, part)
	})
	if e != api.OK {
		return nil, e
	}
	w.told += len(rows)
	w.rest = stream[len(rows)*Row(w.shape):]
	if len(rows) > 0 {
		w.rest = bytes.Clone(w.rest) // so that the memory of what was told is let go
	}
	return rows, api.OK
}
