package bits

import (
	"encoding/binary"
	"hash/crc32"
	"strings"
	"testing"
)

func TestSum(t *testing.T) {
	for data, want := range map[string]string{
		"":          "\x00\x00\x00\x00",
		"a":         "\x43\xbe\xb7\xe8",
		"123456789": "\x26\x39\xf4\xcb",
	} {
		if s := Sum(data); s != want {
			t.Errorf("B3: Sum(%q) = %x, want %x", data, s, want)
		}
	}
}

func TestSumOfOtherTexts(t *testing.T) {
	list := []string{"\x00", "\xff", strings.Repeat("\x00", 33), strings.Repeat("\xff", 4), strings.Repeat("sentence ", 10000)}
	for i := range 1 << 16 {
		list = append(list, string([]byte{byte(i), byte(i >> 8)}))
	}
	for _, data := range list {
		want := string(binary.LittleEndian.AppendUint32(nil, crc32.ChecksumIEEE([]byte(data))))
		if s := Sum(data); s != want {
			t.Fatalf("B3: Sum(%.20x) = %x, want %x", data, s, want)
		}
	}
}
