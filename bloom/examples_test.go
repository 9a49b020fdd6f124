package bloom_test

import (
	"bytes"
	"testing"

	"colonnade/api"
	"colonnade/bloom"
)

// TestExamples: the chapter's table.
func TestExamples(t *testing.T) {
	mustNotBuild(t, 7, nil, api.ErrBloom)
	mustNotBuild(t, 12, nil, api.ErrBloom)
	mustNotBuild(t, 131072, nil, api.ErrBloom)
	mustBuild(t, 8, nil, make([]byte, 8))
	mustNotBuild(t, 8, list(api.Value{}), api.ErrValue)
	mustNotBuild(t, 8, list(realOf(1)), api.ErrValue)

	full := bytes.Repeat([]byte{255}, 8)
	mustHas(t, nil, num(5), true)
	mustHas(t, make([]byte, 5), num(5), true)
	mustHas(t, make([]byte, 8), num(5), false)
	mustHas(t, full, num(5), true)
	mustHas(t, full, api.Value{}, false)

	b, e := bloom.Build(64, list(num(5), word("a")))
	if e != api.OK {
		t.Fatalf("Build(64, 5, \"a\"): %d", e)
	}
	mustHas(t, b, num(5), true)
	mustHas(t, b, word("a"), true)
	mustAll(t, b, list(num(5), word("a")), true)
	mustAll(t, b, nil, true)

	mustJoin(t, nil)
	mustJoin(t, bytes.Repeat([]byte{3}, 8), bytes.Repeat([]byte{1}, 8), bytes.Repeat([]byte{2}, 8))
	mustNotJoin(t, make([]byte, 8), make([]byte, 16))
	mustNotJoin(t, nil)
}
