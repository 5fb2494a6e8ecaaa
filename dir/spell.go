package dir

import "unicode/utf8"

const (
	byteBits  = 8
	wordBytes = 8
	nameWords = 2
)

// spelling is a name as words of its runes' bytes. Each word has the bytes of as
// many whole runes as it has room for, the last byte lowest; no byte of a name is
// 0, so unlike names have unlike spellings, and the zero one is no name's.
type spelling [nameWords]int

// spell spells a name. One of MaxName bytes always has room: where a rune goes
// into the second word, the first has 5 bytes or more, and the second holds the others.
func spell(name string) spelling {
	var s spelling
	word, room := 0, wordBytes
	for at, r := range name {
		length := utf8.RuneLen(r)
		if length > room {
			word, room = word+1, wordBytes
		}
		room -= length
		for _, b := range []byte(name[at : at+length]) {
			s[word] = s[word]<<byteBits | int(b)
		}
	}
	return s
}

// text reads a spelling back.
func (s spelling) text() string {
	var text []byte
	for _, word := range s {
		for shift := (wordBytes - 1) * byteBits; shift >= 0; shift -= byteBits {
			if b := byte(word >> shift); b != 0 {
				text = append(text, b)
			}
		}
	}
	return string(text)
}
