package number

import "bedrock/api"

// PtrSize is how many bytes a pointer has.
const PtrSize = 4 + 2 + 8

// AppendPtr lays a pointer behind b.
func AppendPtr(b []byte, x api.Ptr) []byte {
	b = Append(b, uint64(x.At), 4)
	b = Append(b, uint64(x.Len), 2)
	return Append(b, x.Stamp, 8)
}

// PtrOf is the pointer that b, of PtrSize bytes, is.
func PtrOf(b []byte) api.Ptr {
	return api.Ptr{At: int(Of(b[:4])), Len: int(Of(b[4:6])), Stamp: Of(b[6:])}
}
