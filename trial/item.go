package trial

import (
	"bytes"
	"strconv"
	"strings"

	"creel/api"
)

// Edge is the item of an edge.
func Edge(a, b string) api.Item { return api.Item{Two: true, A: []byte(a), B: []byte(b)} }

// Lone is the item of a label alone.
func Lone(a string) api.Item { return api.Item{A: []byte(a)} }

// Bad is the item of what is wrong.
func Bad(code api.Errno, at int) api.Item { return api.Item{Code: code, At: at} }

// Shown is all that items tell, an item a line; only those that are the same are shown the same.
func Shown(l ...api.Item) string {
	var s strings.Builder
	for _, x := range l {
		s.WriteString(strconv.FormatBool(x.Two) + " " + strconv.Quote(string(x.A)) + " " + strconv.Quote(string(x.B)) + " code " + strconv.Itoa(int(x.Code)) + " at " + strconv.Itoa(x.At) + "\n")
	}
	return s.String()
}

// Ahead is bytes that others stand behind, in the room that they have, and all of that room.
func Ahead(b, others []byte) (front, room []byte) {
	room = append(append([]byte{}, b...), others...)
	return room[:len(b)], room
}

// Fill lays another byte wherever bytes have room.
func Fill(b []byte) {
	room := b[:cap(b)]
	copy(room, bytes.Repeat([]byte{'!'}, len(room)))
}
