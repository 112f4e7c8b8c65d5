package block

import (
	"encoding/binary"
	"slices"

	"moidore/api"
	"moidore/tx"
	"moidore/wire"
)

// What is right, and what its bytes are, by the chapter's words.

func isHeader(h api.Header) bool {
	return 0 <= h.Height && h.Height <= 2147483647 && 0 <= h.Slot && h.Slot <= 1099511627776
}

func areTxs(l []api.Tx) bool {
	return len(l) <= 30 && !slices.ContainsFunc(l, func(t api.Tx) bool { return !tx.Right(t) })
}

func isBlock(b api.Block) bool {
	return isHeader(b.Header) && areTxs(b.Txs) && len(blockBytes(b)) <= 262144
}

// headerBytes is a header's bytes, right or not.
func headerBytes(h api.Header) []byte {
	b := slices.Clone(h.Parent[:])
	b = binary.BigEndian.AppendUint32(b, uint32(h.Height))
	b = binary.BigEndian.AppendUint64(b, uint64(h.Slot))
	b = append(b, h.Root[:]...)
	return binary.BigEndian.AppendUint64(b, h.Nonce)
}

func txBytes(t api.Tx) []byte {
	b, _ := tx.Put(t)
	return b
}

// blockBytes is a block's bytes; transactions that are not right have none.
func blockBytes(b api.Block) []byte {
	c := binary.BigEndian.AppendUint16(headerBytes(b.Header), uint16(len(b.Txs)))
	for _, t := range b.Txs {
		c = append(c, txBytes(t)...)
	}
	return c
}

// headerOf is the header that 84 bytes or more begin with, right or not.
func headerOf(b []byte) api.Header {
	return api.Header{
		Parent: api.Hash(b[:32]), Height: int(binary.BigEndian.Uint32(b[32:])), Slot: int64(binary.BigEndian.Uint64(b[36:])),
		Root: api.Hash(b[44:76]), Nonce: binary.BigEndian.Uint64(b[76:]),
	}
}

// blockOf is the right block whose bytes b are, and true; a zero one and false, if there is none.
func blockOf(b []byte) (api.Block, bool) {
	if len(b) < 86 {
		return api.Block{}, false
	}
	x, many := api.Block{Header: headerOf(b)}, int(b[84])*256+int(b[85])
	b = b[86:]
	for range min(many, 31) {
		r := wire.NewReader(b)
		t := tx.GetTx(r)
		if r.Err() != api.OK {
			return api.Block{}, false
		}
		x.Txs = append(x.Txs, t)
		b = b[len(b)-r.Left():]
	}
	if len(b) > 0 || !isBlock(x) {
		return api.Block{}, false
	}
	return x, true
}
