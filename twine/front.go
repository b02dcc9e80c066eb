package twine

import (
	"bytes"
	"strings"
)

// byteList holds each byte once; the one last met stands first.
type byteList [256]byte

func sortedBytes() byteList {
	var list byteList
	for i := range list {
		list[i] = byte(i)
	}
	return list
}

func (list *byteList) layFirst(place int) {
	laid := list[place]
	copy(list[1:place+1], list[:place])
	list[0] = laid
}

// The answers of placesOf and bytesAt come from a Builder: a conversion to
// string may hand out memory that texts of one byte share.

func placesOf(data string) string {
	list := sortedBytes()
	var places strings.Builder
	for i := range len(data) {
		place := bytes.IndexByte(list[:], data[i])
		places.WriteByte(byte(place))
		list.layFirst(place)
	}
	return places.String()
}

func bytesAt(places string) string {
	list := sortedBytes()
	var data strings.Builder
	for i := range len(places) {
		place := int(places[i])
		data.WriteByte(list[place])
		list.layFirst(place)
	}
	return data.String()
}
