package sum

import "moidore/api"

const (
	rowBytes  = 64
	lastBytes = rowBytes - 8 // of the last row: the length stands behind them
	endMark   = 0x80
)

// work is a hash at work: its eight numbers, and the bytes that do not fill a row yet. Behind these the row is all noughts, so that its end needs none.
type work struct {
	eight
	row  [rowBytes]byte
	held int
	all  uint64
}

func begin() work { return work{eight: start} }

// put lets bytes come behind those that were put.
func (w *work) put(b []byte) {
	w.all += uint64(len(b))
	for len(b) > 0 {
		n := copy(w.row[w.held:], b)
		b = b[n:]
		w.held += n
		if w.held == rowBytes {
			w.turn()
		}
	}
}

// turn mixes the row in, and begins a new one.
func (w *work) turn() {
	w.mix(w.row)
	w.row = [rowBytes]byte{}
	w.held = 0
}

// end is the hash of what was put.
func (w *work) end() api.Hash {
	w.row[w.held] = endMark
	if w.held >= lastBytes {
		w.turn()
	}
	long := w.all * 8
	for i := lastBytes; i < rowBytes; i++ {
		w.row[i] = byte(long >> (8 * (rowBytes - 1 - i)))
	}
	w.turn()
	return w.bytes()
}
