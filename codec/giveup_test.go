package codec

import (
	"testing"

	"copyhold/api"
)

func TestWhatIsCaught(t *testing.T) {
	if fault := caught(func() {}); fault != (api.Fault{}) {
		t.Errorf("work that is done: %v", fault)
	}
	if fault := caught(func() { giveUp(api.ErrDeep, 7) }); fault != (api.Fault{Code: api.ErrDeep, At: 7}) {
		t.Errorf("work that gave up: %v", fault)
	}
	defer func() {
		if x := recover(); x != "another" {
			t.Errorf("another panic: %v", x)
		}
	}()
	caught(func() { panic("another") })
}
